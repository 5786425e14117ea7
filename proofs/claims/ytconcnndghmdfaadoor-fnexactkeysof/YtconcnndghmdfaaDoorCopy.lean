/- 'copy' of a string into a row that the call itself made, as a law for the walk. No program is named here. -/
import Derived.Laws.CopyOwn
import Derived.Lib.BufferWrite
import Derived.Test.YtconcnndghmdfaaDoorOwn
namespace Go.Proofs.YtconcnndghmdfaaDoor
open Go.RowKit Go Go.Lib

theorem wpList_copy_str {P : Program} {w : World} {ops : Array Oper} {rest : List Oper} {o : Oper} {a : Act} {Q : Exit → Act → World → Prop} (hgd : o.guard = none) (d s : Operand) (dT sT : TypeId)
    (ho : o.op = .call { callee := .builtin .copy, args := #[d, s], argTypes := #[dT, sT] }) (elem : TypeId) (hu : P.underlying dT = some (.slice elem)) (hsz : (P.info? elem).map (·.size) = some 1)
    (dp : Option Addr) (dLen dCap : Nat) (hd : a.eval d = .slice dp dLen dCap) (t : ByteArray) (hs : a.eval s = .string t)
    (g off : Nat) (cur : List Value) (ty : TypeId) (hg : w.heap[g]? = some (.cells cur.toArray ty (0, 0))) (hle : t.size ≤ dLen) (hpos : 0 < t.size → dp = some ⟨g, off, none⟩)
    (hfit : off + t.size ≤ cur.length) (B : Nat) (w0 : World) (hb : Below B w0 w) (hBg : B ≤ g)
    (h : ∀ w', Hid (w'.heap[g]? = some (.cells (splice cur off (t.data.toList.map byteV)).toArray ty (0, 0))) → Below B w0 w' → wpList P ops Q rest (a.put o.dst (goInt t.size)) w') :
    wpList P ops Q (o :: rest) a w := by
  have hsz' : ((P.info? elem).map (·.size)).isSome = true := by rw [hsz]; rfl
  have hsize : t.data.toList.length = t.size := by simp
  refine wpList_plain hgd fun K hK => ?_
  by_cases h0 : t.size = 0
  · have hrun := run_copy_empty_string (P := P) w dT sT o.type elem dp dLen dCap t hu hsz' h0
    have hnil : t.data.toList = [] := List.eq_nil_of_length_eq_zero (by rw [hsize]; exact h0)
    unfold Oper.wp
    simp [execOp, ho, resolve, invoke, builtin, hd, hs, hrun, Result.andThen]
    refine hK _ _ ?_
    have := h w (show _ = _ by rw [hnil]; simpa [splice] using hg) hb
    rw [h0] at this; exact this
  · obtain rfl := hpos (by omega)
    have hrun := run_copy_row_string (P := P) w dT sT o.type elem g off dLen dCap t cur.toArray ty hu hsz hg hle (by simpa using hfit)
    unfold Oper.wp
    simp [execOp, ho, resolve, invoke, builtin, hd, hs, hrun, Result.andThen]
    refine hK _ _ (h _ (show _ = _ from ?_) (below_setRow hb hBg _))
    have hrow := setRow_heap w g _ (cur.toArray.toList.take off ++ byteCells t.data.toList ++ cur.toArray.toList.drop (off + t.size)).toArray ty _ hg
    have e : (splice cur off (t.data.toList.map byteV)).toArray = (cur.toArray.toList.take off ++ byteCells t.data.toList ++ cur.toArray.toList.drop (off + t.size)).toArray := by
      unfold splice
      rw [List.length_map, hsize, List.append_assoc]
      rfl
    rw [e]
    simpa using hrow
end Go.Proofs.YtconcnndghmdfaaDoor

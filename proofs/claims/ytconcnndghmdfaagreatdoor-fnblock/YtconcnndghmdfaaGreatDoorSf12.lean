/- The walk over the model's bit. -/
import Derived.Test.YtconcnndghmdfaaGreatDoorSf11
namespace Go.Proofs.YtconcnndghmdfaaGreatDoor
open Go.RowKit
def Cod (w : World) (base g gc : Nat) (s : RC) : Prop :=
 ∃ ov, w.rowIs g 171 4 (codV ov (s.low % 4294967296) s.size gc) ∧ ownB w base ov s.n (byN s.n (s.low / 4294967296)) ∧ w.rowIs gc 58 1600 (u64V s.ch) ∧ ov.ownBlock ≠ some g ∧ ov.ownBlock ≠ some gc
theorem cod_set {w : World} {g T low size gc : Nat} {ov : Value} (h : w.rowIs g T 4 (codV ov low size gc)) : (∀ v, (w.setCell ⟨g, 0, none⟩ v).rowIs g T 4 (codV v low size gc)) ∧ (∀ x : Nat, (w.setCell ⟨g, 1, none⟩ (.int .u64 (x : Int))).rowIs g T 4 (codV ov x size gc)) ∧ (∀ x : Nat, (w.setCell ⟨g, 2, none⟩ (.int .u64 (x : Int))).rowIs g T 4 (codV ov low x gc)) := by
 refine ⟨fun v => (h.set 0 v).congr ?_, fun x => (h.set 1 _).congr ?_, fun x => (h.set 2 _).congr ?_⟩
 · intro i hi
   unfold codV
   match i, hi with
   | 0, _ => rfl
   | 1, _ => rfl
   | 2, _ => rfl
   | 3, _ => rfl
 · intro i hi
   unfold codV
   match i, hi with
   | 0, _ => rfl
   | 1, _ => rfl
   | 2, _ => rfl
   | 3, _ => rfl
 · intro i hi
   unfold codV
   match i, hi with
   | 0, _ => rfl
   | 1, _ => rfl
   | 2, _ => rfl
   | 3, _ => rfl
theorem ownB.kept {w w' : World} {base : Nat} {v : Value} {n : Nat} {f : Nat → UInt8} {r : Option Nat} (h : ownB w base v n f) (hg : w.grownBy w' r) (hr : v.ownBlock = none ∨ v.ownBlock ≠ r) : ownB w' base v n f := World.ownsRow.kept h hg hr
theorem ownB.far {w : World} {base g k : Nat} {v x : Value} {n : Nat} {f : Nat → UInt8} (h : ownB w base v n f) (hr : v.ownBlock ≠ some g) : ownB (w.setCell ⟨g, k, none⟩ x) base v n f :=
 h.kept (r := some g) ⟨rfl, rfl, rfl, by simp [World.setCell], fun j _ hj => heap_setCell_other w ⟨g, k, none⟩ j x (fun e => hj (by simp [e]))⟩ (.inr hr)
theorem ownB.form {w : World} {base : Nat} {v : Value} {n : Nat} {f : Nat → UInt8} (h : ownB w base v n f) (hn : 0 < n) : ∃ go cap, v = .slice (some ⟨go, 0, none⟩) n cap ∧ base ≤ go ∧ go < w.heap.size := by
 have h0 := h
 obtain ⟨_, ⟨_, e⟩ | ⟨go, cap, cur, rfl, hb, _⟩⟩ := h
 · omega
 · exact ⟨go, cap, rfl, hb, (World.ownsRow.lt h0 go rfl).2⟩
theorem ownB.len {w : World} {base : Nat} {v : Value} {n : Nat} {f : Nat → UInt8} (h : ownB w base v n f) : ∃ a cap, v = .slice a n cap := by
 obtain ⟨_, ⟨rfl, e⟩ | ⟨go, cap, cur, rfl, _⟩⟩ := h
 · exact ⟨none, 0, by rw [e]⟩
 · exact ⟨_, cap, rfl⟩
theorem ownB_snoc {w : World} {base n y : Nat} {v : Value} {f : Nat → UInt8} (b : UInt8) (hy : y = b.toNat) (h : w.ownsRow base 5 1 v (n + 1) (((List.range n).map fun j => byteV (f j)) ++ [.int .u8 (y : Int)])) : ownB w base v (n + 1) (fun j => if j = n then b else f j) := by
 subst hy
 unfold ownB
 rw [List.range_succ, List.map_append]
 have e : (List.range n).map (fun j => byteV (if j = n then b else f j)) = (List.range n).map fun j => byteV (f j) := by
  apply List.map_congr_left
  intro j hj
  rw [if_neg (by have := List.mem_range.1 hj; omega)]
 rw [e]
 simpa [byteV] using h
theorem step_append_D {P : Program} (w : World) {ops : Array Oper} {o : Oper} {a : Act} {K : Act → World → Prop} {Q : Exit → Act → World → Prop} {E : Prop} (dd : Option Nat) (hdd : o.dst = dd) (hgd : o.guard = none) (s x : Operand) (t : TypeId)
 (ho : o.op = .call { callee := .builtin .append, args := #[s, x], argTypes := #[t, t] })
 (base : Nat) (e : TypeId) (i : TypeInfo) (z : Value) (size bytes : Nat) (ht : P.underlying t = some (.slice e)) (hi : P.info? e = some i) (hz : i.zero = some z)
 (hsize : i.size = size) (hby : i.bytes = bytes) (hzs : z.cells.size = size) (hsz : 0 < size)
 (v : Value) (n : Nat) (xs : List Value) (hs : a.eval s = v) (hown : w.ownsRow base e size v n xs)
 (ad : Addr) (m c : Nat) (news : List Value) (hx : a.eval x = .slice (some ad) m c) (hl : news.length = m * size) (hnews : ∀ j u, news[j]? = some u → w.cell? (ad.add j) = some u) (h1 : ∀ u ∈ news, u.oneCell' = true)
 (hm : 0 < m) (h63 : n + m ≤ maxLen) (hbytes : (n + m) * bytes ≤ 140737488355328) (hbase : base ≤ w.heap.size) (H : Nat) (hH : w.heap.size = H)
 (h : ∀ g cap w', w'.ownsRow base e size (.slice (some ⟨g, 0, none⟩) (n + m) cap) (n + m) (xs ++ news) → w.grownBy w' v.ownBlock → (v.ownBlock = some g ∨ g = H) → g < w'.heap.size → K (a.put dd (.slice (some ⟨g, 0, none⟩) (n + m) cap)) w') :
 if Region.wanted o (yielded ops a.tmps) = true then Oper.wp P o a w K Q else E := by
 subst hdd
 exact step_append_lies w hgd s x t ho base e i z size bytes ht hi hz hsize hby hzs hsz v n xs hs hown ad m c news hx hl hnews h1 hm h63 hbytes hbase H hH h
def sizeW (w : World) (g : Nat) : Nat := match w.cell? ⟨g, 2, none⟩ with
 | some (.int _ n) => n.toNat
 | _ => 0
theorem sizeW_of {w : World} {g x : Nat} (h : w.cell? ⟨g, 2, none⟩ = some (.int .u64 (x : Nat))) : sizeW w g = x := by unfold sizeW; rw [h]; rfl
end Go.Proofs.YtconcnndghmdfaaGreatDoor

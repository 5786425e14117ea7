/- Put together: Arr, HeldOne, RangeB. -/
import Derived.Deep.MidRow
import Derived.Deep.WholeRow
import Derived.Laws.CopyOwn
import Derived.Deep.RegionHeldLaw
import Derived.Test.YtconcnndghmdfaaGreatDoorSe5
import Derived.Test.YtconcnndghmdfaaGreatDoorSe11
namespace Go.Proofs.YtconcnndghmdfaaGreatDoor
open Go Go.RowKit
/-- The cells of an array of n bytes f. -/
def bL (n : Nat) (f : Nat → UInt8) : List Value := (List.range n).map (u8V f)
theorem bL_len (n : Nat) (f : Nat → UInt8) : (bL n f).length = n := by simp [bL]
theorem bL_at (n : Nat) (f : Nat → UInt8) (j : Nat) (h : j < n) : (bL n f)[j]? = some (u8V f j) := by simp [bL, h]
theorem bL_get {n : Nat} {f : Nat → UInt8} {j : Nat} {v : Value} (h : (bL n f)[j]? = some v) : j < n ∧ v = u8V f j := by
  have hj : j < n := by
    have := (List.getElem?_eq_some_iff.1 h).1
    rwa [bL_len] at this
  rw [bL_at n f j hj] at h
  exact ⟨hj, (Option.some.inj h).symm⟩
theorem bL_congr {n : Nat} {f g : Nat → UInt8} (h : ∀ j, j < n → f j = g j) : bL n f = bL n g := by
  apply List.map_congr_left
  intro j hj
  rw [u8V, u8V, h j (List.mem_range.1 hj)]
theorem bL_one (n : Nat) (f : Nat → UInt8) : ∀ v ∈ bL n f, v.oneCell' = true := by
  intro v hv
  obtain ⟨j, _, rfl⟩ := List.mem_map.1 hv
  rfl
theorem bL_all (n : Nat) (f : Nat → UInt8) : (bL n f).toArray.all (·.oneCell') = true := all_oneCell_toArray (bL_one n f)
theorem bL_size (n : Nat) (f : Nat → UInt8) : (bL n f).toArray.size = n := by rw [List.size_toArray, bL_len]
theorem agg_congr {n : Nat} {f g : Nat → UInt8} (h : ∀ j, j < n → f j = g j) : Ending.returned (.agg (bL n f).toArray) = .returned (.agg (bL n g).toArray) := by rw [bL_congr h]
theorem row_heap {w : World} {g t n : Nat} {f : Nat → UInt8} (h : w.rowIs g t n (u8V f)) : w.heap[g]? = some (.cells (bL n f).toArray t (0, 0)) := by
  obtain ⟨c, hb, hn, hc⟩ := h
  have e : c = (bL n f).toArray := by
    apply Array.ext_getElem?
    intro i
    by_cases hi : i < n
    · rw [hc i hi, List.getElem?_toArray, bL_at n f i hi]
    · rw [Array.getElem?_eq_none (by omega), Array.getElem?_eq_none (by rw [bL_size]; omega)]
  rw [hb, e]
theorem row_of_heap {w : World} {g t n : Nat} {f : Nat → UInt8} (h : w.heap[g]? = some (.cells (bL n f).toArray t (0, 0))) : w.rowIs g t n (u8V f) :=
  ⟨_, h, bL_size n f, fun i hi => by rw [List.getElem?_toArray, bL_at n f i hi]⟩
theorem row_alloc (w : World) (t n : Nat) (f : Nat → UInt8) : (w.alloc (.cells (bL n f).toArray t)).rowIs w.heap.size t n (u8V f) := row_of_heap (heap_alloc_new w _)
theorem row_alloc_set (w : World) (t n k : Nat) (f : Nat → UInt8) (Y : UInt8) (X : Int) (hX : X = (Y.toNat : Int)) : (w.alloc (.cells ((bL n f).set k (.int .u8 X)).toArray t)).rowIs w.heap.size t n (u8V fun j => if j = k then Y else f j) := by
  subst hX
  refine ⟨_, heap_alloc_new w _, by rw [List.size_toArray, List.length_set, bL_len], fun i hi => ?_⟩
  rw [List.getElem?_toArray, List.getElem?_set, bL_len]
  by_cases e : k = i
  · subst e; rw [if_pos rfl, if_pos hi, u8V, if_pos rfl]
  · rw [if_neg e, bL_at n f i hi, u8V, u8V, if_neg (fun h => e h.symm)]
theorem row_range {w : World} {g t N n o : Nat} {f k : Nat → UInt8} (h : w.rowIs g t N (u8V f)) (hn : o + n ≤ N) (hk : ∀ j, j < n → k j = f (o + j)) : w.rangeAt g o (bL n k) := by
  intro j v hv
  obtain ⟨hj, rfl⟩ := bL_get hv
  rw [h.cell (i := o + j) (by omega), u8V, u8V, hk j hj]
theorem row_range0 {w : World} {g t n : Nat} {f : Nat → UInt8} (h : w.rowIs g t n (u8V f)) : w.rangeAt g 0 (bL n f) := row_range h (by omega) (fun j _ => by rw [Nat.zero_add])
theorem row_there {w : World} {g t N n o : Nat} {f : Nat → UInt8} (h : w.rowIs g t N (u8V f)) (hn : o + n ≤ N) : w.there g o n := fun j hj => ⟨by rw [h.cell (i := o + j) (by omega)]; rfl, h.frozen _⟩
theorem setCells_far (b : Nat) : ∀ (vs : List Value) (o : Nat) (w : World) (k : Nat), k ≠ b → (w.setCells b o vs).heap[k]? = w.heap[k]?
  | [], _, _, _, _ => rfl
  | v :: vs, o, w, k, h => by
    rw [World.setCells, setCells_far b vs (o + 1) _ k h]
    exact Below.heap_setCell _ _ _ _ h
theorem row_setCells_other {w : World} {g t n b o : Nat} {f : Nat → Value} {vs : List Value} (h : w.rowIs g t n f) (d : g ≠ b) : (w.setCells b o vs).rowIs g t n f := h.of_block (setCells_far b vs o w g d)
theorem setCells_heap (b : Nat) (t : Nat) (fr : Nat × Nat) : ∀ (vs : List Value) (o : Nat) (w : World) (c : Array Value), w.heap[b]? = some (.cells c t fr) → ∃ c', (w.setCells b o vs).heap[b]? = some (.cells c' t fr) ∧ c'.size = c.size
  | [], _, _, c, h => ⟨c, h, rfl⟩
  | v :: vs, o, w, c, h => by
    have h1 : (w.setCell ⟨b, o, none⟩ v).heap[b]? = some (.cells (c.setIfInBounds o v) t fr) := by simp [World.setCell, Array.getElem?_modify, h]
    obtain ⟨c', h2, h3⟩ := setCells_heap b t fr vs (o + 1) _ _ h1
    exact ⟨c', h2, by rw [h3]; simp⟩
theorem row_setCells {w : World} {g t N n o : Nat} {f k : Nat → UInt8} (h : w.rowIs g t N (u8V f)) (hn : o + n ≤ N) : (w.setCells g o (bL n k)).rowIs g t N (u8V fun j => if o ≤ j ∧ j < o + n then k (j - o) else f j) := by
  have hh := row_heap h
  obtain ⟨c', h2, h3⟩ := setCells_heap g t (0, 0) (bL n k) o w _ hh
  rw [bL_size] at h3
  refine ⟨c', h2, h3, fun i hi => ?_⟩
  have hcell := cell_of_row _ g i c' t (0, 0) h2
  rw [← hcell]
  by_cases e : o ≤ i ∧ i < o + n
  · have hin := World.cell?_setCells_in g (bL n k) o w (fun j hj => by rw [bL_len] at hj; rw [h.cell (i := o + j) (by omega)]; rfl) (i - o) (by rw [bL_len]; omega)
    rw [show o + (i - o) = i by omega] at hin
    rw [hin]
    have e2 := bL_at n k (i - o) (by omega)
    rw [List.getElem?_eq_getElem (by rw [bL_len]; omega)] at e2
    rw [e2, u8V, u8V, if_pos e]
  · rw [World.cell?_setCells_out g _ o w ⟨g, i, none⟩ (fun _ _ => by rw [bL_len]; show i < o ∨ o + n ≤ i; omega), h.cell hi, u8V, u8V, if_neg e]
theorem row_setCells0 {w : World} {g t n : Nat} {f k : Nat → UInt8} (h : w.rowIs g t n (u8V f)) : (w.setCells g 0 (bL n k)).rowIs g t n (u8V k) :=
  (row_setCells h (by omega)).congr fun i hi => by rw [u8V, u8V, if_pos ⟨by omega, by omega⟩, Nat.sub_zero]
theorem below_setCells' {B : Nat} {a w : World} {b o : Nat} {vs : List Value} (h : Below B a w) (hb : B ≤ b) : Below B a (w.setCells b o vs) := below_setCells vs o w b h hb
theorem size_setCells : ∀ (vs : List Value) (o : Nat) (w : World) (b : Nat), (w.setCells b o vs).heap.size = w.heap.size
  | [], _, _, _ => rfl
  | v :: vs, o, w, b => by rw [World.setCells, size_setCells vs (o + 1) _ b]; simp [World.setCell]
/-- A part of an array's value. -/
theorem extract_bL {N n o : Nat} {f k : Nat → UInt8} (hn : o + n ≤ N) (hk : ∀ j, j < n → k j = f (o + j)) : (bL N f).toArray.extract o (o + n) = (bL n k).toArray := by
  apply Array.ext_getElem?
  intro i
  rw [Array.getElem?_extract, bL_size]
  by_cases hi : i < n
  · rw [if_pos (by omega), List.getElem?_toArray, List.getElem?_toArray, bL_at N f _ (by omega), bL_at n k i hi, u8V, u8V, hk i hi]
  · rw [if_neg (by omega), Array.getElem?_eq_none (by rw [bL_size]; omega)]
theorem run_index_part {P : Program} (t e n m N : Nat) (f k : Nat → UInt8) (d : TypeDesc) (i : Nat) (ht : P.underlying t = some (.array n e)) (he : P.underlying e = some d) (hd : d.isRow = true) (hs : (P.info? e).map (·.size) = some m) (hi : i < n) (hN : N = n * m) (hk : ∀ j, j < m → k j = f (m * i + j)) (w : World) :
    (Instr.index t (.agg (bL N f).toArray) (.int .i64 (i : Int))).run P w = .ok (.agg (bL m k).toArray) w := by
  obtain ⟨inf, hinf, hsz⟩ := Option.map_eq_some_iff.1 hs
  have hle : i * m + m ≤ N := by
    subst hN
    have := Nat.mul_le_mul_right m (show i + 1 ≤ n by omega)
    rw [Nat.add_mul, Nat.one_mul] at this; exact this
  have hx : List.take m (List.drop (i * m) (bL N f)) = bL m k := by
    have h := congrArg Array.toList (extract_bL (k := k) hle (fun j hj => by rw [hk j hj, Nat.mul_comm]))
    simpa using h
  have hagg : (isAgg e).run P w = .ok true w := by
    unfold isAgg
    rw [Sem.run_bind, run_underlying he w]
    cases d <;> simp_all
  simp [Instr.index, asIntOf, run_underlying ht, hi, Go.part, hagg, sizeOf, typeInfo, hinf, hsz, hx]
theorem run_index_byte {P : Program} (t e n : Nat) (f : Nat → UInt8) (i : Nat) (ht : P.underlying t = some (.array n e)) (he : P.underlying e = some (.int .u8)) (hs : (P.info? e).map (·.size) = some 1) (hi : i < n) (w : World) :
    (Instr.index t (.agg (bL n f).toArray) (.int .i64 (i : Int))).run P w = .ok (.int .u8 ((f i).toNat : Int)) w := by
  obtain ⟨inf, hinf, hsz⟩ := Option.map_eq_some_iff.1 hs
  simp [Instr.index, asIntOf, run_underlying ht, hi, Go.part, isAgg, run_underlying he, sizeOf, typeInfo, hinf, hsz, bL_at n f i hi, u8V]
/-- 'copy' out of bytes that lie in memory, as one step of a region that draws its order. -/
theorem step_copy_B {P : Program} {ops : Array Oper} {o : Oper} {a : Act} {w : World} {K : Act → World → Prop} {Q : Exit → Act → World → Prop} {E : Prop} (hgd : o.guard = none) (d s : Operand) (dT sT : TypeId)
    (ho : o.op = .call { callee := .builtin .copy, args := #[d, s], argTypes := #[dT, sT] }) (elem : TypeId) (hu : P.underlying dT = some (.slice elem)) (hsz : (P.info? elem).map (·.size) = some 1)
    (g off dLen dCap h p sLen sCap : Nat) (hd : a.eval d = .slice (some ⟨g, off, none⟩) dLen dCap) (hs : a.eval s = .slice (some ⟨h, p, none⟩) sLen sCap)
    (m : Nat) (k : Nat → UInt8) (hm : m = Nat.min sLen dLen) (hsrc : w.rangeAt h p (bL m k)) (hdst : w.there g off m)
    (hK : K (a.put o.dst (goInt m)) (w.setCells g off (bL m k))) :
    if Region.wanted o (yielded ops a.tmps) = true then Oper.wp P o a w K Q else E := by
  have hw : Region.wanted o (yielded ops a.tmps) = true := by simp [Region.wanted, hgd]
  rw [if_pos hw]
  have hrun := run_copy_cells (P := P) w dT sT o.type elem g off dLen dCap ⟨h, p, none⟩ sLen sCap (bL m k) hu hsz (by rw [bL_len, hm]) (fun j v hv => by rw [Addr.add_mid]; exact hsrc j v hv) (fun j hj => (hdst j (by rwa [bL_len] at hj)).1) (fun j hj => (hdst j (by rwa [bL_len] at hj)).2) (bL_one _ _)
  rw [bL_len] at hrun
  unfold Oper.wp
  simp [execOp, ho, resolve, invoke, builtin, hd, hs, hrun, Result.andThen]
  exact hK
theorem run_copy_str {P : Program} (w : World) (dT sT ty elem g off dLen dCap : Nat) (s : ByteArray) (m : Nat) (k : Nat → UInt8) (hu : P.underlying dT = some (.slice elem)) (hsz : (P.info? elem).map (·.size) = some 1)
    (hm : m = Nat.min s.size dLen) (hsrc : ∀ j, j < m → s.data.toList[j]? = some (k j)) (hdst : w.there g off m) :
    (Builtin.copy_ #[dT, sT] ty #[.slice (some ⟨g, off, none⟩) dLen dCap, .string s]).run P w = .ok (goInt m) (w.setCells g off (bL m k)) := by
  have hst := run_storeCells_cells (P := P) g off (bL m k) 0 w (fun j hj => by rw [Nat.add_zero]; exact (hdst j (by rwa [bL_len] at hj)).1) (fun j hj => by rw [Nat.add_zero]; exact (hdst j (by rwa [bL_len] at hj)).2) (bL_one _ _)
  have htk : List.take m (List.map (fun b : UInt8 => Value.int IntKind.u8 (b.toNat : Int)) s.data.toList) = bL m k := by
    apply List.ext_getElem?
    intro j
    have hle : m ≤ s.data.toList.length := by
      have e : s.data.toList.length = s.size := rfl
      rw [e, hm]; exact Nat.min_le_left _ _
    by_cases hj : j < m
    · rw [List.getElem?_take_of_lt hj, List.getElem?_map, hsrc j hj, bL_at m k j hj]; rfl
    · rw [List.getElem?_eq_none (by rw [List.length_take]; omega), List.getElem?_eq_none (by rw [bL_len]; omega)]
  simp only [Nat.add_zero] at hst
  cases hq : P.info? elem with
  | none => simp [hq] at hsz
  | some i =>
    simp [Builtin.copy_, run_underlying hu, Builtin.lenOf, Builtin.firstCells, sizeOf, typeInfo, hq, ← hm]
    rw [htk, hst]
    simp [Result.andThen]
theorem step_copy_S {P : Program} {ops : Array Oper} {o : Oper} {a : Act} {w : World} {K : Act → World → Prop} {Q : Exit → Act → World → Prop} {E : Prop} (hgd : o.guard = none) (d s : Operand) (dT sT : TypeId)
    (ho : o.op = .call { callee := .builtin .copy, args := #[d, s], argTypes := #[dT, sT] }) (elem : TypeId) (hu : P.underlying dT = some (.slice elem)) (hsz : (P.info? elem).map (·.size) = some 1)
    (g off dLen dCap : Nat) (t : ByteArray) (hd : a.eval d = .slice (some ⟨g, off, none⟩) dLen dCap) (hs : a.eval s = .string t)
    (m : Nat) (k : Nat → UInt8) (hm : m = Nat.min t.size dLen) (hsrc : ∀ j, j < m → t.data.toList[j]? = some (k j)) (hdst : w.there g off m)
    (hK : K (a.put o.dst (goInt m)) (w.setCells g off (bL m k))) :
    if Region.wanted o (yielded ops a.tmps) = true then Oper.wp P o a w K Q else E := by
  have hw : Region.wanted o (yielded ops a.tmps) = true := by simp [Region.wanted, hgd]
  rw [if_pos hw]
  have hrun := run_copy_str (P := P) w dT sT o.type elem g off dLen dCap t m k hu hsz hm hsrc hdst
  unfold Oper.wp
  simp [execOp, ho, resolve, invoke, builtin, hd, hs, hrun, Result.andThen]
  exact hK
theorem wpList_copy_S {P : Program} {w : World} {ops : Array Oper} {rest : List Oper} {o : Oper} {a : Act} {Q : Exit → Act → World → Prop} (hgd : o.guard = none) (d s : Operand) (dT sT : TypeId)
    (ho : o.op = .call { callee := .builtin .copy, args := #[d, s], argTypes := #[dT, sT] }) (elem : TypeId) (hu : P.underlying dT = some (.slice elem)) (hsz : (P.info? elem).map (·.size) = some 1)
    (g off dLen dCap : Nat) (t : ByteArray) (hd : a.eval d = .slice (some ⟨g, off, none⟩) dLen dCap) (hs : a.eval s = .string t)
    (m : Nat) (k : Nat → UInt8) (hm : m = Nat.min t.size dLen) (hsrc : ∀ j, j < m → t.data.toList[j]? = some (k j)) (hdst : w.there g off m)
    (h : wpList P ops Q rest (a.put o.dst (goInt m)) (w.setCells g off (bL m k))) :
    wpList P ops Q (o :: rest) a w := by
  refine wpList_plain hgd fun K hK => ?_
  have hrun := run_copy_str (P := P) w dT sT o.type elem g off dLen dCap t m k hu hsz hm hsrc hdst
  unfold Oper.wp
  simp [execOp, ho, resolve, invoke, builtin, hd, hs, hrun, Result.andThen]
  exact hK _ _ h
theorem wpList_load_B {P : Program} {ops : Array Oper} {rest : List Oper} {op : Oper} {a : Act} {w : World} {Q : Exit → Act → World → Prop} (hgd : op.guard = none) (ty : TypeId) (x : Operand) (ho : op.op = .load ty x)
    (g o : Nat) (hx : a.eval x = .pointer (some ⟨g, o, none⟩)) (t N n : Nat) (f k : Nat → UInt8) (d : TypeDesc) (hrow : w.rowIs g t N (u8V f)) (hn : o + n ≤ N) (hk : ∀ j, j < n → k j = f (o + j))
    (hu : P.underlying ty = some d) (hd : d.isRow = true) (hi : (P.info? ty).map (·.size) = some n)
    (h : wpList P ops Q rest (a.put op.dst (.agg (bL n k).toArray)) w) : wpList P ops Q (op :: rest) a w :=
  wpList_load_mid hgd ty x ho g o hx (bL n k) d (row_range hrow hn hk) hu hd (by rw [bL_len]; exact hi) h
theorem wpList_store_B {P : Program} {ops : Array Oper} {rest : List Oper} {op : Oper} {a : Act} {w : World} {Q : Exit → Act → World → Prop} (hgd : op.guard = none) (ty : TypeId) (x y : Operand) (ho : op.op = .store ty x y)
    (g o n : Nat) (k : Nat → UInt8) (hx : a.eval x = .pointer (some ⟨g, o, none⟩)) (hy : a.eval y = .agg (bL n k).toArray) (ht : w.there g o n) (hi : (P.info? ty).map (·.size) = some n)
    (h : wpList P ops Q rest (a.put op.dst undef) (w.setCells g o (bL n k))) : wpList P ops Q (op :: rest) a w :=
  wpList_store_mid hgd ty x y ho g o (bL n k).toArray hx hy (by rw [bL_size]; exact ht) (by rw [bL_size]; exact hi) (bL_all n k) h
theorem ret_B {P : Program} {fn : Func} {p : Tmp} {ty : TypeId} (h : fn.results = #[.cell p ty]) (tmps : Array Value) (w : World) (g n : Nat) (t : TypeId) (k : Nat → UInt8) (d : TypeDesc)
    (hp : tmps.getD p undef = .pointer (some ⟨g, 0, none⟩)) (hrow : w.rowIs g t n (u8V k)) (hu : P.underlying ty = some d) (hd : d.isRow = true) (hi : (P.info? ty).map (·.size) = some n) :
    (results fn tmps).run P w = .ok (.agg (bL n k).toArray) w :=
  results_cell_row h tmps w g t _ (0, 0) d hp (row_heap hrow) hu (by cases d <;> simp_all) (by rw [bL_size]; exact hi)
theorem ext_size (b : ByteArray) (p n : Nat) (hn : b.size = n) (_hp : p ≤ n) : (b.extract p n).size = n - p := by rw [ByteArray.size_extract, hn, Nat.min_self]
theorem ext_at (b : ByteArray) (p n : Nat) (hn : b.size = n) (j : Nat) (hj : p + j < n) : (b.extract p n).data.toList[j]? = some (bF b (p + j)) := by
  have h := bF_at b n hn (p + j) hj
  rw [ByteArray.data_extract, Array.getElem?_toList, Array.getElem?_extract, if_pos (by have e : b.data.size = b.size := rfl; omega), ← Array.getElem?_toList]
  exact h
end Go.Proofs.YtconcnndghmdfaaGreatDoor
namespace Go.Proofs.YtconcnndghmdfaaGreatDoor
open Go Go.RowKit
section
variable {P : Program} {md : Region.Mode} {ops : Array Oper} {Q : Exit → Act → World → Prop} {S : World → Prop}
theorem takeD {i : Nat} {oi : Oper} {v : Value} {fuel : Nat} {listed : Array Bool} {a : Act} {w : World} (d : Option Nat) (hi : ops[i]? = some oi) (hd : oi.dst = d)
    (hs : Region.noSelect ops = true) (hf : Region.free md ops listed i = true) (hr : (Region.ready md ops listed).contains i = true)
    (hQ : ∀ c a w, Q (.panic c) (a.put d v) w → Q (.panic c) a w) (hy : YieldsIf P ops S oi v a) (hS : S w)
    (h : wpAnyH P md ops Q S fuel (listed.setIfInBounds i true) (a.put d v) w) : wpAnyH P md ops Q S (fuel + 1) listed a w := by
  subst hd
  exact wpAnyH_take hi hs hf hr hQ hy hS h
theorem oneLoad {i : Nat} {o : Oper} {fuel : Nat} {listed : Array Bool} {a : Act} {w : World} (d : Option Nat) (hr : Region.ready md ops listed = [i]) (ho : ops[i]? = some o) (hd : o.dst = d) (hgd : o.guard = none)
    (ty : TypeId) (x : Operand) (hop : o.op = .load ty x) (g off n : Nat) (hx : a.eval x = .pointer (some ⟨g, off, none⟩)) (k : Nat → UInt8) (dsc : TypeDesc) (hc : w.rangeAt g off (bL n k)) (hu : P.underlying ty = some dsc) (hdr : dsc.isRow = true) (hi : (P.info? ty).map (·.size) = some n) (hS : S w)
    (h : wpAnyH P md ops Q S fuel (listed.setIfInBounds i true) (a.put d (.agg (bL n k).toArray)) w) : wpAnyH P md ops Q S (fuel + 1) listed a w := by
  subst hd
  refine wpAnyH_ready hr (by simp) (AllReadyH.cons ho (fun K hK => ?_) AllReadyH.nil)
  rw [if_pos (by simp [Region.wanted, hgd])]
  exact wp_load_mid ty x hop g off hx (bL n k) dsc hc hu hdr (by rw [bL_len]; exact hi) (hK.out _ _ hS (fun _ => h))
theorem oneStore {i : Nat} {o : Oper} {fuel : Nat} {listed : Array Bool} {a : Act} {w : World} (d : Option Nat) (hr : Region.ready md ops listed = [i]) (ho : ops[i]? = some o) (hd : o.dst = d) (hgd : o.guard = none)
    (ty : TypeId) (x y : Operand) (hop : o.op = .store ty x y) (g off n : Nat) (k : Nat → UInt8) (hx : a.eval x = .pointer (some ⟨g, off, none⟩)) (hy : a.eval y = .agg (bL n k).toArray) (ht : w.there g off n) (hi : (P.info? ty).map (·.size) = some n) (hS : S (w.setCells g off (bL n k)))
    (h : wpAnyH P md ops Q S fuel (listed.setIfInBounds i true) (a.put d undef) (w.setCells g off (bL n k))) : wpAnyH P md ops Q S (fuel + 1) listed a w := by
  subst hd
  refine wpAnyH_ready hr (by simp) (AllReadyH.cons ho (fun K hK => ?_) AllReadyH.nil)
  rw [if_pos (by simp [Region.wanted, hgd])]
  exact wp_store_mid ty x y hop g off (bL n k).toArray hx hy (by rw [bL_size]; exact ht) (by rw [bL_size]; exact hi) (bL_all n k) (hK.out _ _ hS (fun _ => h))
theorem yieldsB {o : Oper} {a : Act} (hw : Region.wanted o (yielded ops a.tmps) = true) (ty : TypeId) (x : Operand) (ho : o.op = .load ty x) (g off n : Nat) (hx : a.eval x = .pointer (some ⟨g, off, none⟩)) (k : Nat → UInt8) (dsc : TypeDesc) (hS : ∀ w, S w → w.rangeAt g off (bL n k))
    (hu : P.underlying ty = some dsc) (hd : dsc.isRow = true) (hi : (P.info? ty).map (·.size) = some n) : YieldsIf P ops S o (.agg (bL n k).toArray) a :=
  yieldsIf_load_mid hw ty x ho g off hx (bL n k) dsc hS hu hd (by rw [bL_len]; exact hi)
theorem step_copy_BD {o : Oper} {a : Act} {w : World} {K : Act → World → Prop} {E : Prop} (dd : Option Nat) (hdd : o.dst = dd) (hgd : o.guard = none) (d s : Operand) (dT sT : TypeId)
    (ho : o.op = .call { callee := .builtin .copy, args := #[d, s], argTypes := #[dT, sT] }) (elem : TypeId) (hu : P.underlying dT = some (.slice elem)) (hsz : (P.info? elem).map (·.size) = some 1)
    (g off dLen dCap h p sLen sCap : Nat) (hd : a.eval d = .slice (some ⟨g, off, none⟩) dLen dCap) (hs : a.eval s = .slice (some ⟨h, p, none⟩) sLen sCap)
    (m : Nat) (k : Nat → UInt8) (hm : m = Nat.min sLen dLen) (hsrc : w.rangeAt h p (bL m k)) (hdst : w.there g off m)
    (hK : K (a.put dd (goInt m)) (w.setCells g off (bL m k))) :
    if Region.wanted o (yielded ops a.tmps) = true then Oper.wp P o a w K Q else E := by
  subst hdd
  exact step_copy_B hgd d s dT sT ho elem hu hsz g off dLen dCap h p sLen sCap hd hs m k hm hsrc hdst hK
theorem step_copy_SD {o : Oper} {a : Act} {w : World} {K : Act → World → Prop} {E : Prop} (dd : Option Nat) (hdd : o.dst = dd) (hgd : o.guard = none) (d s : Operand) (dT sT : TypeId)
    (ho : o.op = .call { callee := .builtin .copy, args := #[d, s], argTypes := #[dT, sT] }) (elem : TypeId) (hu : P.underlying dT = some (.slice elem)) (hsz : (P.info? elem).map (·.size) = some 1)
    (g off dLen dCap : Nat) (t : ByteArray) (hd : a.eval d = .slice (some ⟨g, off, none⟩) dLen dCap) (hs : a.eval s = .string t)
    (m : Nat) (k : Nat → UInt8) (hm : m = Nat.min t.size dLen) (hsrc : ∀ j, j < m → t.data.toList[j]? = some (k j)) (hdst : w.there g off m)
    (hK : K (a.put dd (goInt m)) (w.setCells g off (bL m k))) :
    if Region.wanted o (yielded ops a.tmps) = true then Oper.wp P o a w K Q else E := by
  subst hdd
  exact step_copy_S hgd d s dT sT ho elem hu hsz g off dLen dCap t hd hs m k hm hsrc hdst hK
theorem stepLoad {o : Oper} {a : Act} {w : World} {K : Act → World → Prop} {E : Prop} (d : Option Nat) (hd : o.dst = d) (hgd : o.guard = none)
    (ty : TypeId) (x : Operand) (hop : o.op = .load ty x) (g off n : Nat) (hx : a.eval x = .pointer (some ⟨g, off, none⟩)) (k : Nat → UInt8) (dsc : TypeDesc) (hc : w.rangeAt g off (bL n k)) (hu : P.underlying ty = some dsc) (hdr : dsc.isRow = true) (hi : (P.info? ty).map (·.size) = some n)
    (h : K (a.put d (.agg (bL n k).toArray)) w) : if Region.wanted o (yielded ops a.tmps) = true then Oper.wp P o a w K Q else E := by
  subst hd
  rw [if_pos (by simp [Region.wanted, hgd])]
  exact wp_load_mid ty x hop g off hx (bL n k) dsc hc hu hdr (by rw [bL_len]; exact hi) h
end
end Go.Proofs.YtconcnndghmdfaaGreatDoor
namespace Go.Proofs.YtconcnndghmdfaaGreatDoor
open Go.RowKit
/-- A coder at work: its block, its bytes, its chances. -/
def Cod (w : World) (base g gc : Nat) (s : RC) : Prop :=
  ∃ ov, w.rowIs g 171 4 (codV ov (s.low % 4294967296) s.size gc) ∧ ownB w base ov s.n (byN s.n (s.low / 4294967296)) ∧ w.rowIs gc 58 1600 (u64V s.ch) ∧ ov.ownBlock ≠ some g ∧ ov.ownBlock ≠ some gc
theorem cod_set {w : World} {g T low size gc : Nat} {ov : Value} (h : w.rowIs g T 4 (codV ov low size gc)) : (∀ v, (w.setCell ⟨g, 0, none⟩ v).rowIs g T 4 (codV v low size gc)) ∧ (∀ x : Nat, (w.setCell ⟨g, 1, none⟩ (.int .u64 (x : Int))).rowIs g T 4 (codV ov x size gc)) ∧ (∀ x : Nat, (w.setCell ⟨g, 2, none⟩ (.int .u64 (x : Int))).rowIs g T 4 (codV ov low x gc)) := by
  refine ⟨fun v => (h.set 0 v).congr ?_, fun x => (h.set 1 _).congr ?_, fun x => (h.set 2 _).congr ?_⟩
  · intro i hi
    unfold codV
    match i, hi with
    | 0, _ => rfl
    | 1, _ => rfl
    | 2, _ => rfl
    | 3, _ => rfl
  · intro i hi
    unfold codV
    match i, hi with
    | 0, _ => rfl
    | 1, _ => rfl
    | 2, _ => rfl
    | 3, _ => rfl
  · intro i hi
    unfold codV
    match i, hi with
    | 0, _ => rfl
    | 1, _ => rfl
    | 2, _ => rfl
    | 3, _ => rfl
theorem ownB.kept {w w' : World} {base : Nat} {v : Value} {n : Nat} {f : Nat → UInt8} {r : Option Nat} (h : ownB w base v n f) (hg : w.grownBy w' r) (hr : v.ownBlock = none ∨ v.ownBlock ≠ r) : ownB w' base v n f := World.ownsRow.kept h hg hr
theorem ownB.far {w : World} {base g k : Nat} {v x : Value} {n : Nat} {f : Nat → UInt8} (h : ownB w base v n f) (hr : v.ownBlock ≠ some g) : ownB (w.setCell ⟨g, k, none⟩ x) base v n f :=
  h.kept (r := some g) ⟨rfl, rfl, rfl, by simp [World.setCell], fun j _ hj => heap_setCell_other w ⟨g, k, none⟩ j x (fun e => hj (by simp [e]))⟩ (.inr hr)
theorem ownB.form {w : World} {base : Nat} {v : Value} {n : Nat} {f : Nat → UInt8} (h : ownB w base v n f) (hn : 0 < n) : ∃ go cap, v = .slice (some ⟨go, 0, none⟩) n cap ∧ base ≤ go ∧ go < w.heap.size := by
  have h0 := h
  obtain ⟨_, ⟨_, e⟩ | ⟨go, cap, cur, rfl, hb, _⟩⟩ := h
  · omega
  · exact ⟨go, cap, rfl, hb, (World.ownsRow.lt h0 go rfl).2⟩
theorem ownB.len {w : World} {base : Nat} {v : Value} {n : Nat} {f : Nat → UInt8} (h : ownB w base v n f) : ∃ a cap, v = .slice a n cap := by
  obtain ⟨_, ⟨rfl, e⟩ | ⟨go, cap, cur, rfl, _⟩⟩ := h
  · exact ⟨none, 0, by rw [e]⟩
  · exact ⟨_, cap, rfl⟩
theorem ownB_snoc {w : World} {base n y : Nat} {v : Value} {f : Nat → UInt8} (b : UInt8) (hy : y = b.toNat) (h : w.ownsRow base 5 1 v (n + 1) (((List.range n).map fun j => byteV (f j)) ++ [.int .u8 (y : Int)])) : ownB w base v (n + 1) (fun j => if j = n then b else f j) := by
  subst hy
  unfold ownB
  rw [List.range_succ, List.map_append]
  have e : (List.range n).map (fun j => byteV (if j = n then b else f j)) = (List.range n).map fun j => byteV (f j) := by
    apply List.map_congr_left
    intro j hj
    rw [if_neg (by have := List.mem_range.1 hj; omega)]
  rw [e]
  simpa [byteV] using h
theorem step_append_D {P : Program} (w : World) {ops : Array Oper} {o : Oper} {a : Act} {K : Act → World → Prop} {Q : Exit → Act → World → Prop} {E : Prop} (dd : Option Nat) (hdd : o.dst = dd) (hgd : o.guard = none) (s x : Operand) (t : TypeId)
    (ho : o.op = .call { callee := .builtin .append, args := #[s, x], argTypes := #[t, t] })
    (base : Nat) (e : TypeId) (i : TypeInfo) (z : Value) (size bytes : Nat) (ht : P.underlying t = some (.slice e)) (hi : P.info? e = some i) (hz : i.zero = some z)
    (hsize : i.size = size) (hby : i.bytes = bytes) (hzs : z.cells.size = size) (hsz : 0 < size)
    (v : Value) (n : Nat) (xs : List Value) (hs : a.eval s = v) (hown : w.ownsRow base e size v n xs)
    (ad : Addr) (m c : Nat) (news : List Value) (hx : a.eval x = .slice (some ad) m c) (hl : news.length = m * size) (hnews : ∀ j u, news[j]? = some u → w.cell? (ad.add j) = some u) (h1 : ∀ u ∈ news, u.oneCell' = true)
    (hm : 0 < m) (h63 : n + m ≤ maxLen) (hbytes : (n + m) * bytes ≤ 140737488355328) (hbase : base ≤ w.heap.size) (H : Nat) (hH : w.heap.size = H)
    (h : ∀ g cap w', w'.ownsRow base e size (.slice (some ⟨g, 0, none⟩) (n + m) cap) (n + m) (xs ++ news) → w.grownBy w' v.ownBlock → (v.ownBlock = some g ∨ g = H) → g < w'.heap.size → K (a.put dd (.slice (some ⟨g, 0, none⟩) (n + m) cap)) w') :
    if Region.wanted o (yielded ops a.tmps) = true then Oper.wp P o a w K Q else E := by
  subst hdd
  exact step_append_lies w hgd s x t ho base e i z size bytes ht hi hz hsize hby hzs hsz v n xs hs hown ad m c news hx hl hnews h1 hm h63 hbytes hbase H hH h
/-- The size of a coder's range, off its block. -/
def sizeW (w : World) (g : Nat) : Nat := match w.cell? ⟨g, 2, none⟩ with
  | some (.int _ n) => n.toNat
  | _ => 0
theorem sizeW_of {w : World} {g x : Nat} (h : w.cell? ⟨g, 2, none⟩ = some (.int .u64 (x : Nat))) : sizeW w g = x := by unfold sizeW; rw [h]; rfl
end Go.Proofs.YtconcnndghmdfaaGreatDoor

/- Val, RngN, RngB, RngC, RngK, RngS, RngA, one behind the other. -/
import Derived.Test.YtdoodkabmeojmaaArr
import Derived.Test.YtdoodkabmeojmaaRows
import Derived.Test.YtdoodkabmeojmaaRangeF
import Derived.OwnWalk
import Derived.Test.YtdoodkabmeojmaaSrc
import Derived.Deep.QuietTactic
import Derived.BigRegion
import Derived.BigQuiet
import Derived.Test.YtdoodkabmeojmaaRangeB
import Derived.Test.YtdoodkabmeojmaaRangeM
import Derived.Test.YtdoodkabmeojmaaRangeBit
/- Rows of cells of whatever kind, as values and in memory. No program is named here. -/
namespace Go.Proofs.Ytdoodkabmeojmaa
open Go Go.RowKit
/-- The cells of a row of n cells f. -/
def vL (n : Nat) (f : Nat → Value) : List Value := (List.range n).map f
theorem vL_len (n : Nat) (f : Nat → Value) : (vL n f).length = n := by simp [vL]
theorem vL_at (n : Nat) (f : Nat → Value) (j : Nat) (h : j < n) : (vL n f)[j]? = some (f j) := by simp [vL, h]
theorem vL_get {n : Nat} {f : Nat → Value} {j : Nat} {v : Value} (h : (vL n f)[j]? = some v) : j < n ∧ v = f j := by
  have hj : j < n := by
    have := (List.getElem?_eq_some_iff.1 h).1
    rwa [vL_len] at this
  rw [vL_at n f j hj] at h
  exact ⟨hj, (Option.some.inj h).symm⟩
theorem vL_congr {n : Nat} {f g : Nat → Value} (h : ∀ j, j < n → f j = g j) : vL n f = vL n g := by
  apply List.map_congr_left
  intro j hj
  exact h j (List.mem_range.1 hj)
theorem vL_size (n : Nat) (f : Nat → Value) : (vL n f).toArray.size = n := by rw [List.size_toArray, vL_len]
theorem vL_one {n : Nat} {f : Nat → Value} (h : ∀ j, j < n → (f j).oneCell' = true) : ∀ v ∈ vL n f, v.oneCell' = true := by
  intro v hv
  obtain ⟨j, hj, rfl⟩ := List.mem_map.1 hv
  exact h j (List.mem_range.1 hj)
theorem vrow_heap {w : World} {g t n : Nat} {f : Nat → Value} (h : w.rowIs g t n f) : w.heap[g]? = some (.cells (vL n f).toArray t (0, 0)) := by
  obtain ⟨c, hb, hn, hc⟩ := h
  have e : c = (vL n f).toArray := by
    apply Array.ext_getElem?
    intro i
    by_cases hi : i < n
    · rw [hc i hi, List.getElem?_toArray, vL_at n f i hi]
    · rw [Array.getElem?_eq_none (by omega), Array.getElem?_eq_none (by rw [vL_size]; omega)]
  rw [hb, e]
theorem vrow_of_heap {w : World} {g t n : Nat} {f : Nat → Value} (h : w.heap[g]? = some (.cells (vL n f).toArray t (0, 0))) : w.rowIs g t n f :=
  ⟨_, h, vL_size n f, fun i hi => by rw [List.getElem?_toArray, vL_at n f i hi]⟩
theorem vrow_alloc (w : World) (t n : Nat) (f : Nat → Value) : (w.alloc (.cells (vL n f).toArray t)).rowIs w.heap.size t n f := vrow_of_heap (heap_alloc_new w _)
theorem vrow_range {w : World} {g t N n o : Nat} {f k : Nat → Value} (h : w.rowIs g t N f) (hn : o + n ≤ N) (hk : ∀ j, j < n → k j = f (o + j)) : w.rangeAt g o (vL n k) := by
  intro j v hv
  obtain ⟨hj, rfl⟩ := vL_get hv
  rw [h.cell (i := o + j) (by omega), hk j hj]
theorem vrow_there {w : World} {g t N n o : Nat} {f : Nat → Value} (h : w.rowIs g t N f) (hn : o + n ≤ N) : w.there g o n := fun j hj => ⟨by rw [h.cell (i := o + j) (by omega)]; rfl, h.frozen _⟩
theorem vrow_setCells {w : World} {g t N n o : Nat} {f k : Nat → Value} (h : w.rowIs g t N f) (hn : o + n ≤ N) : (w.setCells g o (vL n k)).rowIs g t N (fun j => if o ≤ j ∧ j < o + n then k (j - o) else f j) := by
  have hh := vrow_heap h
  obtain ⟨c', h2, h3⟩ := setCells_heap g t (0, 0) (vL n k) o w _ hh
  rw [vL_size] at h3
  refine ⟨c', h2, h3, fun i hi => ?_⟩
  have hcell := cell_of_row _ g i c' t (0, 0) h2
  rw [← hcell]
  show (w.setCells g o (vL n k)).cell? ⟨g, i, none⟩ = some (if o ≤ i ∧ i < o + n then k (i - o) else f i)
  by_cases e : o ≤ i ∧ i < o + n
  · have hin := World.cell?_setCells_in g (vL n k) o w (fun j hj => by rw [vL_len] at hj; rw [h.cell (i := o + j) (by omega)]; rfl) (i - o) (by rw [vL_len]; omega)
    rw [show o + (i - o) = i by omega] at hin
    rw [hin]
    have e2 := vL_at n k (i - o) (by omega)
    rw [List.getElem?_eq_getElem (by rw [vL_len]; omega)] at e2
    rw [e2, if_pos e]
  · rw [World.cell?_setCells_out g _ o w ⟨g, i, none⟩ (fun _ _ => by rw [vL_len]; show i < o ∨ o + n ≤ i; omega), h.cell hi, if_neg e]
theorem vrow_setCells0 {w : World} {g t n : Nat} {f k : Nat → Value} (h : w.rowIs g t n f) : (w.setCells g 0 (vL n k)).rowIs g t n k :=
  (vrow_setCells h (by omega)).congr fun i hi => by
    show (if 0 ≤ i ∧ i < 0 + n then k (i - 0) else f i) = k i
    rw [if_pos ⟨by omega, by omega⟩, Nat.sub_zero]
theorem wpList_load_V {P : Program} {ops : Array Oper} {rest : List Oper} {op : Oper} {a : Act} {w : World} {Q : Exit → Act → World → Prop} (hgd : op.guard = none) (ty : TypeId) (x : Operand) (ho : op.op = .load ty x)
    (g o : Nat) (hx : a.eval x = .pointer (some ⟨g, o, none⟩)) (t N n : Nat) (f k : Nat → Value) (d : TypeDesc) (hrow : w.rowIs g t N f) (hn : o + n ≤ N) (hk : ∀ j, j < n → k j = f (o + j))
    (hu : P.underlying ty = some d) (hd : d.isRow = true) (hi : (P.info? ty).map (·.size) = some n)
    (h : wpList P ops Q rest (a.put op.dst (.agg (vL n k).toArray)) w) : wpList P ops Q (op :: rest) a w :=
  wpList_load_mid hgd ty x ho g o hx (vL n k) d (vrow_range hrow hn hk) hu hd (by rw [vL_len]; exact hi) h
theorem wpList_store_V {P : Program} {ops : Array Oper} {rest : List Oper} {op : Oper} {a : Act} {w : World} {Q : Exit → Act → World → Prop} (hgd : op.guard = none) (ty : TypeId) (x y : Operand) (ho : op.op = .store ty x y)
    (g o n : Nat) (k : Nat → Value) (hx : a.eval x = .pointer (some ⟨g, o, none⟩)) (hy : a.eval y = .agg (vL n k).toArray) (ht : w.there g o n) (hi : (P.info? ty).map (·.size) = some n) (h1 : ∀ j, j < n → (k j).oneCell' = true)
    (h : wpList P ops Q rest (a.put op.dst undef) (w.setCells g o (vL n k))) : wpList P ops Q (op :: rest) a w :=
  wpList_store_mid hgd ty x y ho g o (vL n k).toArray hx hy (by rw [vL_size]; exact ht) (by rw [vL_size]; exact hi) (all_oneCell_toArray (vL_one h1)) h
theorem ret_V {P : Program} {fn : Func} {p : Tmp} {ty : TypeId} (h : fn.results = #[.cell p ty]) (tmps : Array Value) (w : World) (g n : Nat) (t : TypeId) (k : Nat → Value) (d : TypeDesc)
    (hp : tmps.getD p undef = .pointer (some ⟨g, 0, none⟩)) (hrow : w.rowIs g t n k) (hu : P.underlying ty = some d) (hd : d.isRow = true) (hi : (P.info? ty).map (·.size) = some n) :
    (results fn tmps).run P w = .ok (.agg (vL n k).toArray) w :=
  results_cell_row h tmps w g t _ (0, 0) d hp (vrow_heap hrow) hu (by cases d <;> simp_all) (by rw [vL_size]; exact hi)
/-- A row with a part of it laid anew. -/
def laid (o n : Nat) (k f : Nat → Value) (i : Nat) : Value := if o ≤ i ∧ i < o + n then k (i - o) else f i
theorem lay_list (off : Nat) : ∀ (l : List Value) (k : Nat) (cs : Array Value), ((l.zipIdx k).foldl (fun cs (x : Value × Nat) => cs.setIfInBounds (off + x.2) x.1) cs).size = cs.size ∧
    ∀ i, i < cs.size → ((l.zipIdx k).foldl (fun cs (x : Value × Nat) => cs.setIfInBounds (off + x.2) x.1) cs)[i]? = if off + k ≤ i ∧ i < off + k + l.length then l[i - (off + k)]? else cs[i]?
  | [], k, cs => ⟨rfl, fun i _ => by rw [if_neg (by simp)]; rfl⟩
  | v :: l, k, cs => by
    obtain ⟨h1, h2⟩ := lay_list off l (k + 1) (cs.setIfInBounds (off + k) v)
    rw [Array.size_setIfInBounds] at h1 h2
    refine ⟨by rw [List.zipIdx_cons, List.foldl_cons]; exact h1, fun i hi => ?_⟩
    rw [List.zipIdx_cons, List.foldl_cons, h2 i hi, Array.getElem?_setIfInBounds, List.length_cons]
    by_cases e : i = off + k
    · subst e
      rw [if_neg (by omega), if_pos rfl, if_pos hi, if_pos (by omega), Nat.sub_self]; rfl
    · by_cases e2 : off + (k + 1) ≤ i ∧ i < off + (k + 1) + l.length
      · rw [if_pos e2, if_pos (by omega), show i - (off + k) = (i - (off + (k + 1))) + 1 by omega]; rfl
      · rw [if_neg e2, if_neg (by omega), if_neg (by omega)]
theorem lay_vL (off n N : Nat) (k f : Nat → Value) : (vL n k).toArray.zipIdx.foldl (fun cs (c, j) => cs.setIfInBounds (off + j) c) (vL N f).toArray = (vL N (laid off n k f)).toArray := by
  rw [← Array.foldl_toList, Array.toList_zipIdx]
  obtain ⟨h1, h2⟩ := lay_list off (vL n k) 0 (vL N f).toArray
  rw [vL_size] at h1 h2
  rw [vL_len] at h2
  apply Array.ext_getElem?
  intro i
  by_cases hi : i < N
  · have h3 := h2 i hi
    refine h3.trans ?_
    rw [List.getElem?_toArray, List.getElem?_toArray, vL_at N _ i hi, vL_at N _ i hi]
    unfold laid
    rw [Nat.add_zero]
    by_cases e : off ≤ i ∧ i < off + n
    · rw [if_pos e, if_pos e, vL_at n k _ (by omega)]
    · rw [if_neg e, if_neg e]
  · rw [Array.getElem?_eq_none (xs := (vL N (laid off n k f)).toArray) (by rw [vL_size]; omega)]
    exact Array.getElem?_eq_none (Nat.le_trans (Nat.le_of_eq h1) (by omega))
theorem fill_V (place : Nat → Option (Nat × Nat)) (N i off n : Nat) (f k : Nat → Value) (rest : List (Nat × Value)) (hp : place i = some (off, n)) (h : off + n ≤ N) :
    Instr.fill place (vL N f).toArray ((i, .agg (vL n k).toArray) :: rest) = Instr.fill place (vL N (laid off n k f)).toArray rest := by
  conv => lhs; unfold Instr.fill
  rw [hp]
  show (if ((vL n k).toArray.size ≠ n || off + (vL n k).toArray.size > (vL N f).toArray.size) = true then none else Instr.fill place ((vL n k).toArray.zipIdx.foldl (fun cs (c, j) => cs.setIfInBounds (off + j) c) (vL N f).toArray) rest) = _
  rw [lay_vL off n N k f, vL_size, vL_size, if_neg (by simp; omega)]
theorem fill_1 (place : Nat → Option (Nat × Nat)) (N i off : Nat) (f : Nat → Value) (v : Value) (hv : v.cells = #[v]) (rest : List (Nat × Value)) (hp : place i = some (off, 1)) (h : off + 1 ≤ N) :
    Instr.fill place (vL N f).toArray ((i, v) :: rest) = Instr.fill place (vL N (laid off 1 (fun _ => v) f)).toArray rest := by
  rw [← fill_V place N i off 1 f (fun _ => v) rest hp h]
  unfold Instr.fill
  rw [hp, hv]; rfl
theorem fill_end (place : Nat → Option (Nat × Nat)) {n : Nat} {f g : Nat → Value} (h : ∀ j, j < n → f j = g j) : Instr.fill place (vL n f).toArray [] = some (vL n g).toArray := by rw [vL_congr h]; rfl
theorem built_of {P : Program} {t : TypeId} {z : Array Value} {n : Nat} {fields : Array Field} {places : List (Nat × Nat)} (parts : List (Nat × Value)) (hi : (P.info? t).map (fun i => (i.zero, i.size)) = some (some (.agg z), n)) (hu : P.underlying t = some (.struct fields))
    (hp : fields.toList.mapM (fun f => (P.info? f.type).map fun i => (f.offset, i.size)) = some places) : P.built t parts = Instr.fill (places.toArray[·]?) z parts := by
  obtain ⟨it, h1, h2⟩ := Option.map_eq_some_iff.1 hi
  have h3 : it.zero = some (.agg z) := congrArg Prod.fst h2
  unfold Program.built
  rw [h1, hu]
  show (match it.zero, fields.toList.mapM (fun f => (P.info? f.type).map fun i => (f.offset, i.size)) with
    | some z, some places => Instr.fill (places.toArray[·]?) z.cells parts
    | _, _ => none) = _
  rw [h3, hp]; rfl
theorem wpList_build_1 {P : Program} {ops : Array Oper} {rest : List Oper} {o : Oper} {a : Act} {w : World} {Q : Exit → Act → World → Prop} (hg : o.guard = none) (t : TypeId) (i : Nat) (x : Operand) (ho : o.op = .build t #[(i, x)])
    (v : Value) (hv : a.eval x = v) (cells : Array Value) (hb : P.built t [(i, v)] = some cells)
    (h : wpList P ops Q rest (a.put o.dst (.agg cells)) w) : wpList P ops Q (o :: rest) a w := by
  subst hv
  have e : (#[(i, x)].map fun ((i, x) : Nat × Operand) => (i, a.eval x)).toList = [(i, a.eval x)] := by simp
  refine wpList_build hg t _ ho (by rw [e, hb]; rfl) ?_
  rw [e, hb]; exact h
theorem wpList_build_2 {P : Program} {ops : Array Oper} {rest : List Oper} {o : Oper} {a : Act} {w : World} {Q : Exit → Act → World → Prop} (hg : o.guard = none) (t : TypeId) (i : Nat) (x : Operand) (j : Nat) (y : Operand) (ho : o.op = .build t #[(i, x), (j, y)])
    (v : Value) (hv : a.eval x = v) (u : Value) (hu : a.eval y = u) (cells : Array Value) (hb : P.built t [(i, v), (j, u)] = some cells)
    (h : wpList P ops Q rest (a.put o.dst (.agg cells)) w) : wpList P ops Q (o :: rest) a w := by
  subst hv hu
  have e : (#[(i, x), (j, y)].map fun ((i, x) : Nat × Operand) => (i, a.eval x)).toList = [(i, a.eval x), (j, a.eval y)] := by simp
  refine wpList_build hg t _ ho (by rw [e, hb]; rfl) ?_
  rw [e, hb]; exact h
end Go.Proofs.Ytdoodkabmeojmaa
/- The walk over the program's newParting. -/
namespace Go.Proofs.Ytdoodkabmeojmaa
open Go.RowKit
/-- What a coder's or a decoder's block begins with: the range, the chances. -/
def parF (size : Nat) (ch : Nat → Nat) (j : Nat) : Value := if j = 0 then .int .u64 (size : Nat) else .int .u64 (ch (j - 1) : Nat)
theorem parF_one (size : Nat) (ch : Nat → Nat) (j : Nat) : (parF size ch j).oneCell' = true := by unfold parF; split <;> rfl
theorem Try.infoPart : (Try.prog.info? 89).map (fun i => (i.zero, i.size)) = some (some (.agg (vL 1601 (parF 0 fun _ => 0)).toArray), 1601) := by kernel_rfl
theorem Try.builtPart : Try.prog.built 89 [(0, .int .u64 4294967295)] = some (vL 1601 (parF 4294967295 fun _ => 0)).toArray := by kernel_rfl
end Go.Proofs.Ytdoodkabmeojmaa
/- What the program's literals of a coder and of a decoder build. -/
namespace Go.Proofs.Ytdoodkabmeojmaa
open Go.RowKit
/-- A coder's or a decoder's block. -/
def cdF (size : Nat) (ch : Nat → Nat) (x : Nat) (v : Value) (j : Nat) : Value := if j ≤ 1600 then parF size ch j else if j = 1601 then .int .u64 (x : Nat) else v
theorem Try.infoCod : (Try.prog.info? 92).map (fun i => (i.zero, i.size)) = some (some (.agg (vL 1603 (cdF 0 (fun _ => 0) 0 (.slice none 0 0))).toArray), 1603) := by kernel_rfl
theorem Try.infoDecP : (Try.prog.info? 106).map (fun i => (i.zero, i.size)) = some (some (.agg (vL 1603 (cdF 0 (fun _ => 0) 0 (.string ByteArray.empty))).toArray), 1603) := by kernel_rfl
theorem Try.fieldsCod : ∃ fields, Try.prog.underlying 92 = some (.struct fields) ∧ fields.toList.mapM (fun f => (Try.prog.info? f.type).map fun i => (f.offset, i.size)) = some [(0, 1601), (1601, 1), (1602, 1)] := ⟨_, Try.underlying92, by kernel_rfl⟩
theorem Try.fieldsDec : ∃ fields, Try.prog.underlying 106 = some (.struct fields) ∧ fields.toList.mapM (fun f => (Try.prog.info? f.type).map fun i => (f.offset, i.size)) = some [(0, 1601), (1601, 1), (1602, 1)] := ⟨_, Try.underlying106, by kernel_rfl⟩
theorem Try.builtCod (size : Nat) (ch : Nat → Nat) : Try.prog.built 92 [(0, .agg (vL 1601 (parF size ch)).toArray)] = some (vL 1603 (cdF size ch 0 (.slice none 0 0))).toArray := by
  obtain ⟨fields, h1, h2⟩ := Try.fieldsCod
  rw [built_of _ Try.infoCod h1 h2, fill_V _ 1603 0 0 1601 _ _ _ rfl (by omega)]
  apply fill_end
  intro j hj
  unfold laid cdF
  by_cases e : j ≤ 1600
  · rw [if_pos (by omega), if_pos e, Nat.sub_zero]
  · rw [if_neg (by omega), if_neg e, if_neg e]
theorem Try.builtDec (size : Nat) (ch : Nat → Nat) (t : ByteArray) : Try.prog.built 106 [(0, .agg (vL 1601 (parF size ch)).toArray), (2, .string t)] = some (vL 1603 (cdF size ch 0 (.string t))).toArray := by
  obtain ⟨fields, h1, h2⟩ := Try.fieldsDec
  rw [built_of _ Try.infoDecP h1 h2, fill_V _ 1603 0 0 1601 _ _ _ rfl (by omega), fill_1 _ 1603 2 1602 _ (.string t) rfl _ rfl (by omega)]
  apply fill_end
  intro j hj
  unfold laid cdF
  by_cases e : j ≤ 1600
  · rw [if_neg (by omega), if_pos (by omega), if_pos e, Nat.sub_zero]
  · by_cases e2 : j = 1601
    · rw [if_neg (by omega), if_neg (by omega), if_neg e, if_pos e2, if_neg e, if_pos e2]
    · rw [if_pos (by omega), if_neg e, if_neg e2]
end Go.Proofs.Ytdoodkabmeojmaa
/- The walks over the program's bound, narrow, widen. -/
namespace Go.Proofs.Ytdoodkabmeojmaa
open Go.RowKit
theorem cd_cells {w : World} {g T size x : Nat} {ch : Nat → Nat} {v : Value} (h : w.rowIs g T 1603 (cdF size ch x v)) :
    w.cell? ⟨g, 0, none⟩ = some (.int .u64 (size : Nat)) ∧ w.cell? ⟨g, 1601, none⟩ = some (.int .u64 (x : Nat)) ∧ w.cell? ⟨g, 1602, none⟩ = some v ∧ ∀ c, c < 1600 → w.cell? ⟨g, 1 + c, none⟩ = some (.int .u64 (ch c : Nat)) := by
  refine ⟨h.cell (i := 0) (by omega), h.cell (i := 1601) (by omega), h.cell (i := 1602) (by omega), fun c hc => ?_⟩
  rw [h.cell (i := 1 + c) (by omega)]
  unfold cdF parF
  rw [if_pos (by omega), if_neg (by omega), show 1 + c - 1 = c by omega]
theorem cd_set {w : World} {g T size x : Nat} {ch : Nat → Nat} {v : Value} (h : w.rowIs g T 1603 (cdF size ch x v)) :
    (∀ y : Nat, (w.setCell ⟨g, 0, none⟩ (.int .u64 (y : Int))).rowIs g T 1603 (cdF y ch x v)) ∧ (∀ y : Nat, (w.setCell ⟨g, 1601, none⟩ (.int .u64 (y : Int))).rowIs g T 1603 (cdF size ch y v)) ∧ (∀ u, (w.setCell ⟨g, 1602, none⟩ u).rowIs g T 1603 (cdF size ch x u)) ∧ (∀ c y : Nat, c < 1600 → (w.setCell ⟨g, 1 + c, none⟩ (.int .u64 (y : Int))).rowIs g T 1603 (cdF size (setCh ch c y) x v)) := by
  refine ⟨fun y => (h.set 0 _).congr fun i hi => ?_, fun y => (h.set 1601 _).congr fun i hi => ?_, fun u => (h.set 1602 _).congr fun i hi => ?_, fun c y hc => (h.set (1 + c) _).congr fun i hi => ?_⟩
  · show (if i = 0 then Value.int .u64 (y : Int) else cdF size ch x v i) = _
    unfold cdF parF
    by_cases e : i = 0
    · rw [if_pos e, if_pos (by omega), if_pos e]
    · rw [if_neg e, if_neg e, if_neg e]
  · show (if i = 1601 then Value.int .u64 (y : Int) else cdF size ch x v i) = _
    unfold cdF
    by_cases e : i = 1601
    · rw [if_pos e, if_neg (by omega), if_pos e]
    · rw [if_neg e, if_neg e, if_neg e]
  · show (if i = 1602 then u else cdF size ch x v i) = _
    unfold cdF
    by_cases e : i = 1602
    · rw [if_pos e, if_neg (by omega), if_neg (by omega)]
    · rw [if_neg e]
      by_cases e1 : i ≤ 1600
      · rw [if_pos e1, if_pos e1]
      · rw [if_neg e1, if_neg e1, if_pos (by omega), if_pos (by omega)]
  · show (if i = 1 + c then Value.int .u64 (y : Int) else cdF size ch x v i) = _
    unfold cdF parF setCh
    by_cases e : i = 1 + c
    · rw [if_pos e, if_pos (by omega), if_neg (by omega), if_pos (by omega)]
    · rw [if_neg e]
      by_cases e1 : i ≤ 1600
      · rw [if_pos e1, if_pos e1]
        by_cases e0 : i = 0
        · rw [if_pos e0, if_pos e0]
        · rw [if_neg e0, if_neg e0, if_neg (by omega)]
      · rw [if_neg e1, if_neg e1]
theorem grown0 (w : World) (r : Option Nat) : w.grownBy w r := ⟨rfl, rfl, rfl, Nat.le_refl _, fun _ _ _ => rfl⟩
set_option maxRecDepth 100000 in
set_option maxHeartbeats 800000 in
theorem imp_bound (g T size x c : Nat) (ch : Nat → Nat) (v : Value) (w : World) (hs : size ≤ 4294967295) (hc : c < 1600) (hp : ch c ≤ 2048) (hr : w.rowIs g T 1603 (cdF size ch x v)) :
    Calls Try.prog 66 #[.pointer (some ⟨g, 0, none⟩), .int .i64 (c : Int)] w fun e w' => e = .returned (.int .u64 ((size / 2048 * ch c : Nat) : Int)) ∧ ∃ n, w' = w.drewN n := by
  obtain ⟨c0, _, _, c4⟩ := cd_cells hr
  have c3 := c4 c hc
  clear c4
  obtain ⟨p, ep⟩ : ∃ p, p = ch c := ⟨_, rfl⟩
  rw [← ep] at c3 hp ⊢
  obtain ⟨q, eq⟩ : ∃ q, q = size / 2048 := ⟨_, rfl⟩
  obtain ⟨b, eb⟩ : ∃ b, b = q * p := ⟨_, rfl⟩
  have hb : b ≤ 4294967296 := by
    have h1 : q ≤ 2097151 := by omega
    have := Nat.mul_le_mul h1 hp
    omega
  have k1 : (size : Int) / 2048 = (q : Int) := by omega
  have k2 : IntKind.u64.wrap ((q : Int) * (p : Int)) = (b : Int) := by
    have e : (q : Int) * (p : Int) = (b : Int) := by rw [eb]; simp
    rw [e, IntKind.wrap_u64]; omega
  have k3 : IntKind.u64.wrap (q : Int) = (q : Int) := by rw [IntKind.wrap_u64]; omega
  have hc' : (c : Int) < 1600 := by omega
  have HE := hide (show (size / 2048 * p : Nat) = b by rw [eb, eq])
  clear ep eq eb hr
  go_enter Try.func66, Try.ntmps66
  go_wp2_with fail
  go_quiet (fail)
  go_wp2_with fail
  go_ret
  exact ⟨by rw [HE.out]; rfl, _, rfl⟩
set_option maxRecDepth 100000 in
set_option maxHeartbeats 800000 in
theorem imp_narrow (g T size x c b : Nat) (one : Bool) (ch : Nat → Nat) (v : Value) (w : World) (hs : size ≤ 4294967295) (hb : b ≤ size) (hc : c < 1600) (hp : ch c ≤ 2048) (hr : w.rowIs g T 1603 (cdF size ch x v)) :
    Calls Try.prog 68 #[.pointer (some ⟨g, 0, none⟩), .agg #[.int .i64 (c : Int), .bool one], .int .u64 (b : Int)] w fun e w' => e = .returned (.tuple #[]) ∧ w'.rowIs g T 1603 (if one = true then cdF (size - b) (setCh ch c (chOne (ch c))) x v else cdF b (setCh ch c (chNot (ch c))) x v) ∧ w.grownBy w' (some g) := by
  have hgl := hr.lt
  have R1 := hr.alloc (.cells #[.int .i64 (c : Int), .bool one] 28)
  have G1 := World.grownBy_alloc w (.cells #[.int .i64 (c : Int), .bool one] 28) (some g)
  have b0 : (w.alloc (.cells #[.int .i64 (c : Int), .bool one] 28)).cell? ⟨w.heap.size, 0, none⟩ = some (.int .i64 (c : Int)) := by simp
  have b1 : (w.alloc (.cells #[.int .i64 (c : Int), .bool one] 28)).cell? ⟨w.heap.size, 1, none⟩ = some (.bool one) := by simp
  obtain ⟨p, ep⟩ : ∃ p, p = ch c := ⟨_, rfl⟩
  obtain ⟨d, ed⟩ : ∃ d, d = p / 32 := ⟨_, rfl⟩
  obtain ⟨q, eq⟩ : ∃ q, q = 2048 - p := ⟨_, rfl⟩
  obtain ⟨u, eu⟩ : ∃ u, u = q / 32 := ⟨_, rfl⟩
  obtain ⟨p1, ep1⟩ : ∃ x, x = p - d := ⟨_, rfl⟩
  obtain ⟨p0, ep0⟩ : ∃ x, x = p + u := ⟨_, rfl⟩
  obtain ⟨sb, esb⟩ : ∃ x, x = size - b := ⟨_, rfl⟩
  have hp2 : p ≤ 2048 := by omega
  have k1 : (p : Int) / 32 = (d : Int) := by omega
  have k2 : (2048 : Int) - (p : Int) = (q : Int) := by omega
  have k3 : (q : Int) / 32 = (u : Int) := by omega
  have k4 : (p : Int) - (d : Int) = (p1 : Int) := by omega
  have k5 : (p : Int) + (u : Int) = (p0 : Int) := by omega
  have k6 : (size : Int) - (b : Int) = (sb : Int) := by omega
  have j1 : IntKind.u64.wrap (d : Int) = (d : Int) := by rw [IntKind.wrap_u64]; omega
  have j2 : IntKind.u64.wrap ((2048 : Int) - (p : Int)) = (q : Int) := by rw [IntKind.wrap_u64]; omega
  have j3 : IntKind.u64.wrap (u : Int) = (u : Int) := by rw [IntKind.wrap_u64]; omega
  have j4 : IntKind.u64.wrap ((p : Int) - (d : Int)) = (p1 : Int) := by rw [IntKind.wrap_u64]; omega
  have j5 : IntKind.u64.wrap ((p : Int) + (u : Int)) = (p0 : Int) := by rw [IntKind.wrap_u64]; omega
  have j6 : IntKind.u64.wrap ((size : Int) - (b : Int)) = (sb : Int) := by rw [IntKind.wrap_u64]; omega
  have hc' : (c : Int) < 1600 := by omega
  have HO := hide (show chOne (ch c) = p1 ∧ chNot (ch c) = p0 ∧ size - b = sb from ⟨by unfold chOne; rw [← ep]; omega, by unfold chNot; rw [← ep]; omega, esb.symm⟩)
  rw [HO.out.1, HO.out.2.1, HO.out.2.2]
  have CE := hide ep
  clear ep ed eq eu ep1 ep0 esb hr HO
  cases one with
  | true =>
    go_enter Try.func68, Try.ntmps68
    go_wp2_with fail
    generalize w.alloc (.cells #[.int .i64 (c : Int), .bool true] 28) = W1 at *
    have hz : g ≠ w.heap.size := by omega
    generalize w.heap.size = z at *
    obtain ⟨c0, _, _, c4⟩ := cd_cells R1
    have c3 := c4 c hc
    rw [← CE.out] at c3
    clear c4
    go_quiet (fail)
    have R2 : (W1.drewN nq).rowIs g T 1603 (cdF size ch x v) := R1
    have G2 : w.grownBy (W1.drewN nq) (some g) := ⟨G1.os, G1.tape, G1.output, G1.size, G1.block⟩
    have b0' : (W1.drewN nq).cell? ⟨z, 0, none⟩ = some (.int .i64 (c : Int)) := b0
    have b1' : (W1.drewN nq).cell? ⟨z, 1, none⟩ = some (.bool true) := b1
    have c0' : (W1.drewN nq).cell? ⟨g, 0, none⟩ = some (.int .u64 (size : Nat)) := c0
    have f0 := R2.frozen 0
    generalize W1.drewN nq = W2 at *
    clear c0 c3 b0 b1 G1 R1
    go_wp2_with fail
    have R3 := (cd_set R2).1 sb
    have G3 := grownBy_set (i := 0) G2 (.int .u64 (sb : Nat))
    have d0 := cell_far (k := 0) (v := .int .u64 (sb : Nat)) hz b0'
    generalize W2.setCell ⟨g, 0, none⟩ (.int .u64 (sb : Nat)) = W3 at *
    obtain ⟨_, _, _, c4⟩ := cd_cells R3
    have c3 := c4 c hc
    rw [← CE.out] at c3
    have f3 := R3.frozen (1 + c)
    have H := hide (And.intro R3 G3)
    clear c4 b0' b1' c0' f0 R2 G2 R3 G3
    go_region
    have R4 := (cd_set H.out.1).2.2.2 c p1 hc
    have G4 := grownBy_set (i := 1 + c) H.out.2 (.int .u64 (p1 : Nat))
    go_wp2_with fail
    exact bodyPost_ret (v := .tuple #[]) (by simp [results, Try.results68]) rfl ⟨rfl, R4.drew, grownBy_drew G4⟩
  | false =>
    go_enter Try.func68, Try.ntmps68
    go_wp2_with fail
    generalize w.alloc (.cells #[.int .i64 (c : Int), .bool false] 28) = W1 at *
    have hz : g ≠ w.heap.size := by omega
    generalize w.heap.size = z at *
    obtain ⟨c0, _, _, c4⟩ := cd_cells R1
    have c3 := c4 c hc
    rw [← CE.out] at c3
    clear c4
    go_quiet (fail)
    have R2 : (W1.drewN nq).rowIs g T 1603 (cdF size ch x v) := R1
    have G2 : w.grownBy (W1.drewN nq) (some g) := ⟨G1.os, G1.tape, G1.output, G1.size, G1.block⟩
    have b0' : (W1.drewN nq).cell? ⟨z, 0, none⟩ = some (.int .i64 (c : Int)) := b0
    have b1' : (W1.drewN nq).cell? ⟨z, 1, none⟩ = some (.bool false) := b1
    have c0' : (W1.drewN nq).cell? ⟨g, 0, none⟩ = some (.int .u64 (size : Nat)) := c0
    have f0 := R2.frozen 0
    generalize W1.drewN nq = W2 at *
    clear c0 c3 b0 b1 G1 R1
    go_wp2_with fail
    have R3 := (cd_set R2).1 b
    have G3 := grownBy_set (i := 0) G2 (.int .u64 (b : Nat))
    have d0 := cell_far (k := 0) (v := .int .u64 (b : Nat)) hz b0'
    generalize W2.setCell ⟨g, 0, none⟩ (.int .u64 (b : Nat)) = W3 at *
    obtain ⟨_, _, _, c4⟩ := cd_cells R3
    have c3 := c4 c hc
    rw [← CE.out] at c3
    have f3 := R3.frozen (1 + c)
    have H := hide (And.intro R3 G3)
    clear c4 b0' b1' c0' f0 R2 G2 R3 G3
    go_region
    have R4 := (cd_set H.out.1).2.2.2 c p0 hc
    have G4 := grownBy_set (i := 1 + c) H.out.2 (.int .u64 (p0 : Nat))
    go_wp2_with fail
    go_end0
    exact ⟨rfl, R4.drew, grownBy_drew G4⟩
set_option maxRecDepth 100000 in
set_option maxHeartbeats 400000 in
theorem imp_widen_yes (g T size x : Nat) (ch : Nat → Nat) (v : Value) (w : World) (h : size < 16777216) (hr : w.rowIs g T 1603 (cdF size ch x v)) :
    Calls Try.prog 69 #[.pointer (some ⟨g, 0, none⟩)] w fun e w' => e = .returned (.bool true) ∧ w'.rowIs g T 1603 (cdF (256 * size) ch x v) ∧ w.grownBy w' (some g) := by
  obtain ⟨c0, _, _, _⟩ := cd_cells hr
  have f0 := hr.frozen 0
  have h' : ¬ (16777216 : Int) ≤ (size : Int) := by omega
  have R1 := (cd_set hr).1 (256 * size)
  have G1 := grownBy_set (i := 0) (grown0 w (some g)) (.int .u64 (256 * size : Nat))
  obtain ⟨s1, e1⟩ : ∃ s1, s1 = 256 * size := ⟨_, rfl⟩
  rw [← e1] at R1 G1 ⊢
  have k1 : IntKind.u64.wrap ((size : Int) * 256) = (s1 : Int) := by rw [IntKind.wrap_u64]; omega
  have k2 : (size : Int) * 256 = (s1 : Int) := by omega
  have H := hide (And.intro R1 G1)
  clear e1 R1 G1 hr
  go_enter Try.func69, Try.ntmps69
  go_wp2_with fail
  go_ret
  exact ⟨rfl, H.out.1, H.out.2⟩
set_option maxRecDepth 100000 in
set_option maxHeartbeats 400000 in
theorem imp_widen_no (g T size x : Nat) (ch : Nat → Nat) (v : Value) (w : World) (h : ¬ size < 16777216) (hr : w.rowIs g T 1603 (cdF size ch x v)) :
    Calls Try.prog 69 #[.pointer (some ⟨g, 0, none⟩)] w fun e w' => e = .returned (.bool false) ∧ w' = w := by
  obtain ⟨c0, _, _, _⟩ := cd_cells hr
  have h' : (16777216 : Int) ≤ (size : Int) := by omega
  clear hr
  go_enter Try.func69, Try.ntmps69
  go_wp2_with fail
  go_ret
  exact ⟨rfl, rfl⟩
end Go.Proofs.Ytdoodkabmeojmaa
/- The walk over the program's carry. -/
namespace Go.Proofs.Ytdoodkabmeojmaa
open Go.RowKit
set_option maxRecDepth 100000 in
set_option maxHeartbeats 800000 in
theorem imp_carry (base g go n cap low size V : Nat) (ch : Nat → Nat) (w : World) (hn : 0 < n) (hn2 : n ≤ 100000) (hV : V + 1 < 256 ^ n) (hrow : w.rowIs g 92 1603 (cdF size ch low (.slice (some ⟨go, 0, none⟩) n cap))) (hown : ownB w base (.slice (some ⟨go, 0, none⟩) n cap) n (byN n V)) (hne : go ≠ g) :
    Calls Try.prog 89 #[.pointer (some ⟨g, 0, none⟩)] w fun e w' => e = .returned (.tuple #[]) ∧ ownB w' base (.slice (some ⟨go, 0, none⟩) n cap) n (byN n (V + 1)) ∧ w.grownBy w' (some go) := by
  have c0 := (cd_cells hrow).2.2.1
  have hHR := hide hrow
  clear hrow
  have hcap : n ≤ cap := by
    obtain ⟨_, ⟨h, _⟩ | ⟨g', cap', cur, h, _, _, h2, _⟩⟩ := hown
    · cases h
    · cases h; exact h2
  have hcap2 : (n : Int) ≤ (cap : Int) := by omega
  go_enter Try.func89, Try.ntmps89
  go_wp2_with fail
  clear c0
  go_loopw [2] (fun i wx => ∃ (k : Nat) (f : Nat → UInt8), k ≤ n ∧ i = .int .i64 ((n : Int) - 1 - (k : Int)) ∧ Hid (∀ j, j < n → f j = cutZ n V k j) ∧ Hid (V % 256 ^ k = 256 ^ k - 1) ∧ Hid (ownB wx base (.slice (some ⟨go, 0, none⟩) n cap) n f) ∧ Hid (w.grownBy wx (some go))) (fun i _ => (intOf i + 1).toNat)
  case atStart => exact ⟨0, byN n V, by omega, by go_num, fun j hj => by rw [cutZ, if_neg (by omega)], by unfold Hid; rw [Nat.pow_zero, Nat.mod_one], hown, ⟨rfl, rfl, rfl, Nat.le_refl _, fun _ _ _ => rfl⟩⟩
  case round =>
    obtain ⟨k, f, hk, rfl, hf, hm, how, hgr⟩ := hrel
    have hrow := hHR.out.of_block (hgr.out.block g hHR.out.lt (by simp; omega))
    by_cases hlt : k < n
    · obtain ⟨i, ei⟩ : ∃ i, i = n - 1 - k := ⟨_, rfl⟩
      have e1 : (n : Int) - 1 - (k : Int) = (i : Int) := by omega
      rw [e1]
      have hi : i < n := by omega
      have hi' : (i : Int) < (n : Int) := by omega
      have c0 := (cd_cells hrow).2.2.1
      have ci := how.out.cell i hi
      have fi := World.ownsRow.frozenAt how.out i
      obtain ⟨b, hb⟩ : ∃ b, b = V / 256 ^ k % 256 := ⟨_, rfl⟩
      have hfi : f i = UInt8.ofNat b := by rw [hf.out i hi, cutZ, if_neg (by omega), byN, show n - 1 - i = k by omega, hb]
      have hb8 : b < 256 := by omega
      rw [hfi, show ((UInt8.ofNat b).toNat : Int) = (b : Int) by rw [UInt8.toNat_ofNat']; omega] at ci
      by_cases h255 : b = 255
      · obtain ⟨b1, hb1⟩ : ∃ x : Nat, x = 0 := ⟨_, rfl⟩
        have hw : IntKind.u8.wrap ((b : Int) + 1) = (b1 : Int) := by rw [IntKind.wrap_u8]; omega
        have hb1' : ((b1 : Int) == 0) = true := by simp; omega
        have how2 := hide (how.out.set (Y := UInt8.ofNat b1) hi (show b1 = (UInt8.ofNat b1).toNat by rw [UInt8.toNat_ofNat']; omega))
        have hgr2 := hide (grownBy_setB (i := i) hgr.out (.int .u8 (b1 : Int)))
        have c0' : (wr.setCell ⟨go, i, none⟩ (.int .u8 (b1 : Int))).cell? ⟨g, 1602, none⟩ = some (.slice (some ⟨go, 0, none⟩) n cap) := cell_far hne c0
        have ci' : (wr.setCell ⟨go, i, none⟩ (.int .u8 (b1 : Int))).cell? ⟨go, i, none⟩ = some (.int .u8 (b1 : Int)) := World.cell?_setCell_same _ _ _ ci
        have hf' := hide (show ∀ j, j < n → (if j = i then UInt8.ofNat b1 else f j) = cutZ n V (k + 1) j from fun j hj => by
          by_cases e : j = i
          · rw [if_pos e, cutZ, if_pos (by omega), hb1]; rfl
          · rw [if_neg e, hf.out j hj, cutZ, cutZ]
            by_cases e2 : n - k ≤ j
            · rw [if_pos e2, if_pos (by omega)]
            · rw [if_neg e2, if_neg (by omega)])
        have hm' := hide (carry_more V k hm.out (by rw [← hb]; exact h255))
        have HI1 := hide (show (i : Int) - 1 = (n : Int) - 1 - ((k + 1 : Nat) : Int) by omega)
        clear ei hb e1 hfi h255 hb1 hf hm how hgr hrow
        go_wp2_with fail
        go_roundw
        case rel => exact ⟨k + 1, _, by omega, by rw [← HI1.out], hf', hm', how2, hgr2⟩
        case measure => simp [intOf]
      · obtain ⟨b1, hb1⟩ : ∃ x : Nat, x = b + 1 := ⟨_, rfl⟩
        have hw : IntKind.u8.wrap ((b : Int) + 1) = (b1 : Int) := by rw [IntKind.wrap_u8]; omega
        have hb1' : ((b1 : Int) == 0) = false := by simp; omega
        have how2 := how.out.set (Y := UInt8.ofNat b1) hi (show b1 = (UInt8.ofNat b1).toNat by rw [UInt8.toNat_ofNat']; omega)
        have hgr2 := hide (grownBy_setB (i := i) hgr.out (.int .u8 (b1 : Int)))
        have c0' : (wr.setCell ⟨go, i, none⟩ (.int .u8 (b1 : Int))).cell? ⟨g, 1602, none⟩ = some (.slice (some ⟨go, 0, none⟩) n cap) := cell_far hne c0
        have ci' : (wr.setCell ⟨go, i, none⟩ (.int .u8 (b1 : Int))).cell? ⟨go, i, none⟩ = some (.int .u8 (b1 : Int)) := World.cell?_setCell_same _ _ _ ci
        have hf' := (show ∀ j, j < n → (if j = i then UInt8.ofNat b1 else f j) = byN n (V + 1) j from fun j hj => by
          rw [carry_by n V k j hlt hj hm.out (by rw [← hb]; exact h255), ← hb, ← ei]
          by_cases e : j = i
          · rw [if_pos e, if_pos e, hb1]
          · rw [if_neg e, if_neg e, hf.out j hj])
        have how3 := hide (how2.congr hf')
        clear hf' how2 hf hm ei hb e1 hfi h255 hb1 how hgr hrow
        go_wp2_with fail
        exact bodyPost_ret (v := .tuple #[]) (by simp [results, Try.results89]) rfl ⟨rfl, how3.out, hgr2.out⟩
    · exact absurd (carry_never n V hV (by rw [show n = k by omega]; exact hm.out)) id
end Go.Proofs.Ytdoodkabmeojmaa
/- The walk over the program's shift (written by mkshift.py). -/
namespace Go.Proofs.Ytdoodkabmeojmaa
open Go.RowKit
/-- A coder of the program at work. -/
def CodP (w : World) (base g size : Nat) (ch : Nat → Nat) (low n : Nat) : Prop :=
  ∃ ov, w.rowIs g 92 1603 (cdF size ch (low % 4294967296) ov) ∧ ownB w base ov n (byN n (low / 4294967296)) ∧ ov.ownBlock ≠ some g
set_option maxRecDepth 100000 in
set_option maxHeartbeats 1600000 in
theorem imp_shiftK (base g size low nn : Nat) (ch : Nat → Nat) (ov : Value) (w : World) (hnb : nn ≤ 100000) (hbg : base ≤ g) (hr : w.rowIs g 92 1603 (cdF size ch (low % 4294967296) ov)) (ho : ownB w base ov nn (byN nn (low / 4294967296))) (hd1 : ov.ownBlock ≠ some g) :
    Calls Try.prog 70 #[.pointer (some ⟨g, 0, none⟩)] w fun e w' => e = .returned (.tuple #[]) ∧ (∃ ov', w'.rowIs g 92 1603 (cdF size ch (256 * low % 4294967296) ov') ∧ ownB w' base ov' (nn + 1) (byN (nn + 1) (256 * low / 4294967296)) ∧ ov'.ownBlock ≠ some g ∧ ∀ k, ov'.ownBlock = some k → ov.ownBlock = some k ∨ w.heap.size ≤ k) ∧ Below base w w' ∧ ∀ k, k < w.heap.size → k ≠ g → ov.ownBlock ≠ some k → w'.heap[k]? = w.heap[k]? := by
  obtain ⟨l, hl⟩ : ∃ l, l = low % 4294967296 := ⟨_, rfl⟩
  rw [← hl] at hr
  obtain ⟨_, c1, c0, _⟩ := cd_cells hr
  have f0 := hr.frozen 1602
  have hl32 : l < 4294967296 := by omega
  obtain ⟨b, hb⟩ : ∃ b : UInt8, b = UInt8.ofNat (l / 16777216) := ⟨_, rfl⟩
  have hbn : b.toNat = l / 16777216 := by rw [hb, UInt8.toNat_ofNat']; omega
  obtain ⟨y, hy⟩ : ∃ y, y = l / 16777216 := ⟨_, rfl⟩
  have m1 : (l : Int) / 16777216 = (y : Int) := by omega
  have m2 : IntKind.u8.wrap (y : Int) = (y : Int) := by rw [IntKind.wrap_u8]; omega
  have hy8 : (y : Int) ≤ 255 := by omega
  obtain ⟨i0, hi0, hz0, hz1, hz2⟩ := info_parts Try.infoB8r
  have HT := hide (And.intro hl (And.intro hbn hy))
  clear hl hb hbn hy
  go_enter Try.func70, Try.ntmps70
  go_wp2_with fail
  refine wp_region_held_drew (S := fun w' => w'.cell? ⟨g, 1601, none⟩ = some (.int .u64 (l : Nat))) (by kernel_rfl) c1 (fun hHeld => ?_)
  refine takeD (i := 0) (v := .pointer (some ⟨g, 0, none⟩)) (some 2) rfl rfl (by kernel_rfl) (by kernel_rfl) (by kernel_rfl) (fun _ _ _ h => h) (Or.inl ⟨by rfl, fun w hSw => by go_simp⟩) hHeld ?_
  simp only [Act.put, List.setIfInBounds_toArray, List.set_cons_zero, List.set_cons_succ]
  refine takeD (i := 1) (v := .pointer (some ⟨g, 0, none⟩)) (some 3) rfl rfl (by kernel_rfl) (by kernel_rfl) (by kernel_rfl) (fun _ _ _ h => h) (Or.inl ⟨by rfl, fun w hSw => by go_simp⟩) hHeld ?_
  simp only [Act.put, List.setIfInBounds_toArray, List.set_cons_zero, List.set_cons_succ]
  refine takeD (i := 2) (v := .pointer (some ⟨g, 0, none⟩)) (some 4) rfl rfl (by kernel_rfl) (by kernel_rfl) (by kernel_rfl) (fun _ _ _ h => h) (Or.inl ⟨by rfl, fun w hSw => by go_simp⟩) hHeld ?_
  simp only [Act.put, List.setIfInBounds_toArray, List.set_cons_zero, List.set_cons_succ]
  refine takeD (i := 3) (v := .pointer (some ⟨g, 1602, none⟩)) (some 5) rfl rfl (by kernel_rfl) (by kernel_rfl) (by kernel_rfl) (fun _ _ _ h => h) (Or.inl ⟨by rfl, fun w hSw => by go_simp⟩) hHeld ?_
  simp only [Act.put, List.setIfInBounds_toArray, List.set_cons_zero, List.set_cons_succ]
  refine takeD (i := 5) (v := .pointer (some ⟨g, 0, none⟩)) (some 7) rfl rfl (by kernel_rfl) (by kernel_rfl) (by kernel_rfl) (fun _ _ _ h => h) (Or.inl ⟨by rfl, fun w hSw => by go_simp⟩) hHeld ?_
  simp only [Act.put, List.setIfInBounds_toArray, List.set_cons_zero, List.set_cons_succ]
  refine takeD (i := 6) (v := .pointer (some ⟨g, 0, none⟩)) (some 8) rfl rfl (by kernel_rfl) (by kernel_rfl) (by kernel_rfl) (fun _ _ _ h => h) (Or.inl ⟨by rfl, fun w hSw => by go_simp⟩) hHeld ?_
  simp only [Act.put, List.setIfInBounds_toArray, List.set_cons_zero, List.set_cons_succ]
  refine takeD (i := 7) (v := .pointer (some ⟨g, 1601, none⟩)) (some 9) rfl rfl (by kernel_rfl) (by kernel_rfl) (by kernel_rfl) (fun _ _ _ h => h) (Or.inl ⟨by rfl, fun w hSw => by go_simp⟩) hHeld ?_
  simp only [Act.put, List.setIfInBounds_toArray, List.set_cons_zero, List.set_cons_succ]
  refine takeD (i := 8) (v := .int .u64 (l : Int)) (some 10) rfl rfl (by kernel_rfl) (by kernel_rfl) (by kernel_rfl) (fun _ _ _ h => h) (Or.inl ⟨by rfl, fun w hSw => by go_simp⟩) hHeld ?_
  simp only [Act.put, List.setIfInBounds_toArray, List.set_cons_zero, List.set_cons_succ]
  refine takeD (i := 9) (v := .int .u64 (y : Int)) (some 11) rfl rfl (by kernel_rfl) (by kernel_rfl) (by kernel_rfl) (fun _ _ _ h => h) (Or.inl ⟨by rfl, fun w hSw => by go_simp⟩) hHeld ?_
  simp only [Act.put, List.setIfInBounds_toArray, List.set_cons_zero, List.set_cons_succ]
  refine takeD (i := 10) (v := .int .u8 (y : Int)) (some 12) rfl rfl (by kernel_rfl) (by kernel_rfl) (by kernel_rfl) (fun _ _ _ h => h) (Or.inl ⟨by rfl, fun w hSw => by go_simp⟩) hHeld ?_
  simp only [Act.put, List.setIfInBounds_toArray, List.set_cons_zero, List.set_cons_succ]
  have ra := hr.drew.alloc (.cells #[.int .u8 (y : Int)] 5)
  have ca0 : (w.drew.alloc (.cells #[.int .u8 (y : Int)] 5)).cell? ⟨g, 1602, none⟩ = some ov := (cd_cells ra).2.2.1
  have ca1 : (w.drew.alloc (.cells #[.int .u8 (y : Int)] 5)).cell? ⟨g, 1601, none⟩ = some (.int .u64 (l : Nat)) := (cd_cells ra).2.1
  have oa := World.ownsRow.alloc (World.ownsRow.drew ho) (.cells #[.int .u8 (y : Int)] 5)
  have hba := (Below.refl base w).drew.alloc (show base ≤ w.drew.heap.size by have := hr.lt; exact Nat.le_trans hbg (Nat.le_of_lt this)) (.cells #[.int .u8 (y : Int)] 5)
  have AA := hide (And.intro oa hba)
  have KA := hide (show ∀ k, k < w.heap.size → (w.drew.alloc (.cells #[.int .u8 (y : Int)] 5)).heap[k]? = w.heap[k]? from fun k hk => Below.heap_alloc w.drew _ k hk)
  have hglt := hr.lt
  clear oa hba
  refine wpAnyH_ready (rs := [4, 11]) (by kernel_rfl) (by simp) ?_
  refine AllReadyH.cons rfl (fun KK hK => ?_) (AllReadyH.cons rfl (fun KK hK => ?_) AllReadyH.nil)
  · go_simp
    refine hK.out _ _ c1 (fun hHeld => ?_)
    clear hK KK
    refine wpAnyH_ready (rs := [11]) (by kernel_rfl) (by simp) ?_
    refine AllReadyH.cons rfl (fun KK hK => ?_) AllReadyH.nil
    go_simp
    refine hK.out _ _ ca1 (fun hHeld => ?_)
    clear hK KK
    refine wpAnyH_ready (rs := [12]) (by kernel_rfl) (by simp) ?_
    refine AllReadyH.cons rfl (fun KK hK => ?_) AllReadyH.nil
    refine step_append_D _ (some 14) rfl rfl (.tmp 6) (.tmp 13) 22 rfl base 5 i0 (.int .u8 0) 1 1 Try.underlying22 hi0 hz0 hz1 hz2 rfl (by omega) ov nn _ rfl AA.out.1 ⟨w.heap.size, 0, none⟩ 1 1 [.int .u8 (y : Int)] rfl rfl (one_cell w.drew _ _) (one_oneCell .u8 _) (by omega) (by unfold maxLen; omega) (by omega) (by simp; omega) (w.heap.size + 1) (by simp) ?_
    intro g' cap' w2 hown' hgr' hat' hlt'
    have r2 := ra.of_block (hgr'.block g (by simp; omega) (fun e => hd1 e.symm))
    simp only [Act.put, List.setIfInBounds_toArray, List.set_cons_zero, List.set_cons_succ]
    refine hK.out _ _ (cd_cells r2).2.1 (fun hHeld => ?_)
    clear hK KK
    refine takeD (i := 13) (v := .pointer (some ⟨g, 0, none⟩)) (some 15) rfl rfl (by kernel_rfl) (by kernel_rfl) (by kernel_rfl) (fun _ _ _ h => h) (Or.inl ⟨by rfl, fun w hSw => by go_simp⟩) hHeld ?_
    simp only [Act.put, List.setIfInBounds_toArray, List.set_cons_zero, List.set_cons_succ]
    refine takeD (i := 14) (v := .pointer (some ⟨g, 1602, none⟩)) (some 16) rfl rfl (by kernel_rfl) (by kernel_rfl) (by kernel_rfl) (fun _ _ _ h => h) (Or.inl ⟨by rfl, fun w hSw => by go_simp⟩) hHeld ?_
    simp only [Act.put, List.setIfInBounds_toArray, List.set_cons_zero, List.set_cons_succ]
    have c20 := (cd_cells r2).2.2.1
    have f20 := r2.frozen 1602
    refine wpAnyH_ready (rs := [15]) (by kernel_rfl) (by simp) ?_
    refine AllReadyH.cons rfl (fun KK hK => ?_) AllReadyH.nil
    go_simp
    have r3 := (cd_set r2).2.2.1 (.slice (some ⟨g', 0, none⟩) (nn + 1) cap')
    refine hK.out _ _ (cd_cells r3).2.1 (fun hHeld => ?_)
    clear hK KK
    refine wpAnyH_done (by kernel_rfl) ?_ _
    have hg'g : (Value.slice (some ⟨g', 0, none⟩) (nn + 1) cap').ownBlock ≠ some g := by
      intro e
      have e1 : g' = g := by simpa [Value.ownBlock] using e
      rcases hat' with h | h
      · exact hd1 (by rw [h, e1])
      · omega
    have ho3 := (ownB_snoc b (y := y) (by have := HT.out; omega) hown').far (g := g) (k := 1602) (x := .slice (some ⟨g', 0, none⟩) (nn + 1) cap') hg'g
    have hb3 := (AA.out.2.grown hgr' (by simp; omega) (fun x hx => (World.ownsRow.lt AA.out.1 x hx).1)).setCell (p := ⟨g, 1602, none⟩) hbg (.slice (some ⟨g', 0, none⟩) (nn + 1) cap')
    have KB := hide (show ∀ k, k < w.heap.size → k ≠ g → ov.ownBlock ≠ some k → (w2.setCell ⟨g, 1602, none⟩ (.slice (some ⟨g', 0, none⟩) (nn + 1) cap')).heap[k]? = w.heap[k]? from fun k h1 h2 h3 => by
      rw [Below.heap_setCell _ _ _ _ h2]
      exact (hgr'.block k (by simp; omega) (fun e => h3 e.symm)).trans (KA.out k h1))
    have KC := hide (show ∀ k, (Value.slice (some ⟨g', 0, none⟩) (nn + 1) cap').ownBlock = some k → ov.ownBlock = some k ∨ w.heap.size ≤ k from fun k hk => by
      obtain rfl : g' = k := by simpa [Value.ownBlock] using hk
      rcases hat' with h | h
      · exact .inl h
      · exact .inr (by omega))
    obtain ⟨l2, hl2⟩ : ∃ x, x = 256 * l % 4294967296 := ⟨_, rfl⟩
    have a1 : bits .and .u64 ((l : Int) * 256) 4294967295 = (l2 : Int) := by
      have h := and64 (256 * l) (by omega)
      rw [show ((256 * l : Nat) : Int) = (l : Int) * 256 by omega] at h
      rw [h, hl2]
    have HLZ := hide hl2
    clear hl2 hown' hgr' hat' hlt' c20 f20 r2 AA ra ca0 ca1 c0 c1 f0 hr ho m1 m2
    generalize w2.setCell ⟨g, 1602, none⟩ (.slice (some ⟨g', 0, none⟩) (nn + 1) cap') = W3 at *
    have d1 := (cd_cells r3).2.1
    have e1 := r3.frozen 1601
    go_wp2_with fail
    go_end0
    refine ⟨rfl, ⟨_, ?_, ?_, hg'g, KC.out⟩, hb3.setCell (p := ⟨g, 1601, none⟩) hbg _, fun k h1 h2 h3 => by rw [Below.heap_setCell _ _ _ _ h2]; exact KB.out k h1 h2 h3⟩
    · rw [(low_shift low).2, ← HT.out.1, ← HLZ.out]
      exact (cd_set r3).2.1 l2
    · rw [(low_shift low).1, ← HT.out.1, ← HT.out.2.1]
      refine (ho3.far (g := g) (k := 1601) hg'g).congr (fun j hj => ?_)
      rw [byN_snoc nn _ b j hj]
  · go_simp
    refine hK.out _ _ ca1 (fun hHeld => ?_)
    clear hK KK
    refine wpAnyH_ready (rs := [4]) (by kernel_rfl) (by simp) ?_
    refine AllReadyH.cons rfl (fun KK hK => ?_) AllReadyH.nil
    go_simp
    refine hK.out _ _ ca1 (fun hHeld => ?_)
    clear hK KK
    refine wpAnyH_ready (rs := [12]) (by kernel_rfl) (by simp) ?_
    refine AllReadyH.cons rfl (fun KK hK => ?_) AllReadyH.nil
    refine step_append_D _ (some 14) rfl rfl (.tmp 6) (.tmp 13) 22 rfl base 5 i0 (.int .u8 0) 1 1 Try.underlying22 hi0 hz0 hz1 hz2 rfl (by omega) ov nn _ rfl AA.out.1 ⟨w.heap.size, 0, none⟩ 1 1 [.int .u8 (y : Int)] rfl rfl (one_cell w.drew _ _) (one_oneCell .u8 _) (by omega) (by unfold maxLen; omega) (by omega) (by simp; omega) (w.heap.size + 1) (by simp) ?_
    intro g' cap' w2 hown' hgr' hat' hlt'
    have r2 := ra.of_block (hgr'.block g (by simp; omega) (fun e => hd1 e.symm))
    simp only [Act.put, List.setIfInBounds_toArray, List.set_cons_zero, List.set_cons_succ]
    refine hK.out _ _ (cd_cells r2).2.1 (fun hHeld => ?_)
    clear hK KK
    refine takeD (i := 13) (v := .pointer (some ⟨g, 0, none⟩)) (some 15) rfl rfl (by kernel_rfl) (by kernel_rfl) (by kernel_rfl) (fun _ _ _ h => h) (Or.inl ⟨by rfl, fun w hSw => by go_simp⟩) hHeld ?_
    simp only [Act.put, List.setIfInBounds_toArray, List.set_cons_zero, List.set_cons_succ]
    refine takeD (i := 14) (v := .pointer (some ⟨g, 1602, none⟩)) (some 16) rfl rfl (by kernel_rfl) (by kernel_rfl) (by kernel_rfl) (fun _ _ _ h => h) (Or.inl ⟨by rfl, fun w hSw => by go_simp⟩) hHeld ?_
    simp only [Act.put, List.setIfInBounds_toArray, List.set_cons_zero, List.set_cons_succ]
    have c20 := (cd_cells r2).2.2.1
    have f20 := r2.frozen 1602
    refine wpAnyH_ready (rs := [15]) (by kernel_rfl) (by simp) ?_
    refine AllReadyH.cons rfl (fun KK hK => ?_) AllReadyH.nil
    go_simp
    have r3 := (cd_set r2).2.2.1 (.slice (some ⟨g', 0, none⟩) (nn + 1) cap')
    refine hK.out _ _ (cd_cells r3).2.1 (fun hHeld => ?_)
    clear hK KK
    refine wpAnyH_done (by kernel_rfl) ?_ _
    have hg'g : (Value.slice (some ⟨g', 0, none⟩) (nn + 1) cap').ownBlock ≠ some g := by
      intro e
      have e1 : g' = g := by simpa [Value.ownBlock] using e
      rcases hat' with h | h
      · exact hd1 (by rw [h, e1])
      · omega
    have ho3 := (ownB_snoc b (y := y) (by have := HT.out; omega) hown').far (g := g) (k := 1602) (x := .slice (some ⟨g', 0, none⟩) (nn + 1) cap') hg'g
    have hb3 := (AA.out.2.grown hgr' (by simp; omega) (fun x hx => (World.ownsRow.lt AA.out.1 x hx).1)).setCell (p := ⟨g, 1602, none⟩) hbg (.slice (some ⟨g', 0, none⟩) (nn + 1) cap')
    have KB := hide (show ∀ k, k < w.heap.size → k ≠ g → ov.ownBlock ≠ some k → (w2.setCell ⟨g, 1602, none⟩ (.slice (some ⟨g', 0, none⟩) (nn + 1) cap')).heap[k]? = w.heap[k]? from fun k h1 h2 h3 => by
      rw [Below.heap_setCell _ _ _ _ h2]
      exact (hgr'.block k (by simp; omega) (fun e => h3 e.symm)).trans (KA.out k h1))
    have KC := hide (show ∀ k, (Value.slice (some ⟨g', 0, none⟩) (nn + 1) cap').ownBlock = some k → ov.ownBlock = some k ∨ w.heap.size ≤ k from fun k hk => by
      obtain rfl : g' = k := by simpa [Value.ownBlock] using hk
      rcases hat' with h | h
      · exact .inl h
      · exact .inr (by omega))
    obtain ⟨l2, hl2⟩ : ∃ x, x = 256 * l % 4294967296 := ⟨_, rfl⟩
    have a1 : bits .and .u64 ((l : Int) * 256) 4294967295 = (l2 : Int) := by
      have h := and64 (256 * l) (by omega)
      rw [show ((256 * l : Nat) : Int) = (l : Int) * 256 by omega] at h
      rw [h, hl2]
    have HLZ := hide hl2
    clear hl2 hown' hgr' hat' hlt' c20 f20 r2 AA ra ca0 ca1 c0 c1 f0 hr ho m1 m2
    generalize w2.setCell ⟨g, 1602, none⟩ (.slice (some ⟨g', 0, none⟩) (nn + 1) cap') = W3 at *
    have d1 := (cd_cells r3).2.1
    have e1 := r3.frozen 1601
    go_wp2_with fail
    go_end0
    refine ⟨rfl, ⟨_, ?_, ?_, hg'g, KC.out⟩, hb3.setCell (p := ⟨g, 1601, none⟩) hbg _, fun k h1 h2 h3 => by rw [Below.heap_setCell _ _ _ _ h2]; exact KB.out k h1 h2 h3⟩
    · rw [(low_shift low).2, ← HT.out.1, ← HLZ.out]
      exact (cd_set r3).2.1 l2
    · rw [(low_shift low).1, ← HT.out.1, ← HT.out.2.1]
      refine (ho3.far (g := g) (k := 1601) hg'g).congr (fun j hj => ?_)
      rw [byN_snoc nn _ b j hj]
theorem imp_shift (base g size low nn : Nat) (ch : Nat → Nat) (w : World) (hnb : nn ≤ 100000) (hbg : base ≤ g) (hcod : CodP w base g size ch low nn) :
    Calls Try.prog 70 #[.pointer (some ⟨g, 0, none⟩)] w fun e w' => e = .returned (.tuple #[]) ∧ CodP w' base g size ch (256 * low) (nn + 1) ∧ Below base w w' := by
  obtain ⟨ov, hr, ho, hd1⟩ := hcod
  exact (imp_shiftK base g size low nn ch ov w hnb hbg hr ho hd1).mono fun e w' ⟨h1, ⟨ov', h2, h3, h4, _⟩, h6, _⟩ => ⟨h1, ⟨ov', h2, h3, h4⟩, h6⟩
end Go.Proofs.Ytdoodkabmeojmaa
/- The walk over the program's add. -/
namespace Go.Proofs.Ytdoodkabmeojmaa
open Go.RowKit
theorem add_carry {low b n : Nat} (h : low + b < 4294967296 * 256 ^ n) (hc : 4294967296 ≤ low % 4294967296 + b) (hb : b ≤ 4294967295) : 0 < n ∧ (low + b) / 4294967296 = low / 4294967296 + 1 ∧ low / 4294967296 + 1 < 256 ^ n ∧ (low + b) % 4294967296 = (low % 4294967296 + b) % 4294967296 := by
  have h2 : (low + b) / 4294967296 = low / 4294967296 + 1 := by omega
  have h3 : low / 4294967296 + 1 < 256 ^ n := by
    rw [← h2]
    exact (Nat.div_lt_iff_lt_mul (by decide)).2 (by rw [Nat.mul_comm]; exact h)
  refine ⟨?_, h2, h3, by omega⟩
  rcases Nat.eq_zero_or_pos n with h0 | h0
  · subst h0; rw [Nat.pow_zero] at h3; omega
  · exact h0
set_option maxRecDepth 100000 in
set_option maxHeartbeats 800000 in
theorem imp_addK (base g size low n b : Nat) (ch : Nat → Nat) (w : World) (hn2 : n ≤ 100000) (hb : b ≤ 4294967295) (hfit : low + b < 4294967296 * 256 ^ n) (hbg : base ≤ g) (ov : Value) (hr : w.rowIs g 92 1603 (cdF size ch (low % 4294967296) ov)) (ho : ownB w base ov n (byN n (low / 4294967296))) (hd1 : ov.ownBlock ≠ some g) :
    Calls Try.prog 67 #[.pointer (some ⟨g, 0, none⟩), .int .u64 (b : Int)] w fun e w' => e = .returned (.tuple #[]) ∧ (w'.rowIs g 92 1603 (cdF size ch ((low + b) % 4294967296) ov) ∧ ownB w' base ov n (byN n ((low + b) / 4294967296))) ∧ Below base w w' ∧ ∀ k, k < w.heap.size → k ≠ g → ov.ownBlock ≠ some k → w'.heap[k]? = w.heap[k]? := by
  obtain ⟨l, hl⟩ : ∃ l, l = low % 4294967296 := ⟨_, rfl⟩
  rw [← hl] at hr
  have c1 := (cd_cells hr).2.1
  have f1 := hr.frozen 1601
  obtain ⟨m, hm⟩ : ∃ m, m = l + b := ⟨_, rfl⟩
  have k1 : (l : Int) + (b : Int) = (m : Int) := by omega
  have k2 : IntKind.u64.wrap ((l : Int) + (b : Int)) = (m : Int) := by rw [IntKind.wrap_u64]; omega
  have k3 : IntKind.u64.wrap (m : Int) = (m : Int) := by rw [IntKind.wrap_u64]; omega
  have hm3 : (m : Int) ≤ 8589934592 := by omega
  have R1 := (cd_set hr).2.1 m
  have O1 := ho.far (g := g) (k := 1601) (x := .int .u64 (m : Int)) hd1
  have B1 := (Below.refl base w).setCell (p := ⟨g, 1601, none⟩) hbg (.int .u64 (m : Int))
  have K1 : ∀ v k, k < w.heap.size → k ≠ g → (w.setCell ⟨g, 1601, none⟩ v).heap[k]? = w.heap[k]? := fun v k _ hk => Below.heap_setCell _ _ _ _ hk
  have d1 := (cd_cells R1).2.1
  have e1 := R1.frozen 1601
  have KK := hide K1
  clear K1
  by_cases hc : 4294967296 ≤ m
  · have hc' : (4294967295 : Int) < (m : Int) := by omega
    obtain ⟨q1, q2, q3, q4⟩ := add_carry hfit (show 4294967296 ≤ low % 4294967296 + b by omega) hb
    obtain ⟨go, cap, rfl, hgo, _⟩ := ho.form q1
    have hne : go ≠ g := fun e => hd1 (by rw [e]; rfl)
    obtain ⟨m2, hm2⟩ : ∃ x, x = m % 4294967296 := ⟨_, rfl⟩
    have a1 : bits .and .u64 (m : Int) 4294967295 = (m2 : Int) := by rw [and64 m (by omega), hm2]
    have R2 := (cd_set R1).2.1 m2
    have O2 := O1.far (g := g) (k := 1601) (x := .int .u64 (m2 : Int)) hd1
    have B2 := B1.setCell (p := ⟨g, 1601, none⟩) hbg (.int .u64 (m2 : Int))
    have HL := hide (show (low + b) % 4294967296 = m2 by rw [q4, ← hl, ← hm, hm2])
    have HV := hide q2
    have H := hide (And.intro R2 (And.intro O2 B2))
    clear hm hm2 hl R2 O2 B2 q4 q2 R1 O1 B1 hr ho
    go_enter Try.func67, Try.ntmps67
    go_wp2_with fail
    refine (imp_carry base g go n cap m2 size (low / 4294967296) ch _ q1 hn2 q3 H.out.1 H.out.2.1 hne).mono ?_
    rintro e w3 ⟨rfl, ho3, hg3⟩
    go_wp2_with fail
    go_end0
    refine ⟨rfl, ⟨?_, ?_⟩, ?_, fun k h1 h2 h3 => ?_⟩
    · rw [HL.out]
      exact H.out.1.of_block (hg3.block g H.out.1.lt (by simpa using fun e => hne e.symm))
    · rw [HV.out]; exact ho3
    · exact H.out.2.2.trans (grownBy_below hg3 hgo (Nat.le_trans hbg (Nat.le_of_lt H.out.1.lt)))
    · refine (hg3.block k (by simpa [World.setCell] using h1) (fun e => h3 (by rw [e]; rfl))).trans ?_
      rw [Below.heap_setCell _ _ _ _ h2]; exact KK.out _ k h1 h2
  · have hc' : ¬ (4294967295 : Int) < (m : Int) := by omega
    have HL := hide (show (low + b) % 4294967296 = m by omega)
    have HV := hide (show (low + b) / 4294967296 = low / 4294967296 by omega)
    have H := hide (And.intro R1 (And.intro O1 B1))
    clear hm hl R1 O1 B1 hr ho
    go_enter Try.func67, Try.ntmps67
    go_wp2_with fail
    go_end0
    exact ⟨rfl, ⟨by rw [HL.out]; exact H.out.1, by rw [HV.out]; exact H.out.2.1⟩, H.out.2.2, fun k h1 h2 _ => KK.out _ k h1 h2⟩
end Go.Proofs.Ytdoodkabmeojmaa

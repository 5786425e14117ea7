/- Put together: Val, RngN, RngB. -/
import Derived.Test.YtconcnndghmdfaaGreatDoorSa18
import Derived.Test.YtconcnndghmdfaaGreatDoorRows
import Derived.Test.YtconcnndghmdfaaGreatDoorSa11
import Derived.OwnWalk
namespace Go.Proofs.YtconcnndghmdfaaGreatDoor
open Go Go.RowKit
/-- The cells of a row of n cells f. -/
def vL (n : Nat) (f : Nat → Value) : List Value := (List.range n).map f
theorem vL_len (n : Nat) (f : Nat → Value) : (vL n f).length = n := by simp [vL]
theorem vL_at (n : Nat) (f : Nat → Value) (j : Nat) (h : j < n) : (vL n f)[j]? = some (f j) := by simp [vL, h]
theorem vL_get {n : Nat} {f : Nat → Value} {j : Nat} {v : Value} (h : (vL n f)[j]? = some v) : j < n ∧ v = f j := by
  have hj : j < n := by
    have := (List.getElem?_eq_some_iff.1 h).1
    rwa [vL_len] at this
  rw [vL_at n f j hj] at h
  exact ⟨hj, (Option.some.inj h).symm⟩
theorem vL_congr {n : Nat} {f g : Nat → Value} (h : ∀ j, j < n → f j = g j) : vL n f = vL n g := by
  apply List.map_congr_left
  intro j hj
  exact h j (List.mem_range.1 hj)
theorem vL_size (n : Nat) (f : Nat → Value) : (vL n f).toArray.size = n := by rw [List.size_toArray, vL_len]
theorem vL_one {n : Nat} {f : Nat → Value} (h : ∀ j, j < n → (f j).oneCell' = true) : ∀ v ∈ vL n f, v.oneCell' = true := by
  intro v hv
  obtain ⟨j, hj, rfl⟩ := List.mem_map.1 hv
  exact h j (List.mem_range.1 hj)
theorem vrow_heap {w : World} {g t n : Nat} {f : Nat → Value} (h : w.rowIs g t n f) : w.heap[g]? = some (.cells (vL n f).toArray t (0, 0)) := by
  obtain ⟨c, hb, hn, hc⟩ := h
  have e : c = (vL n f).toArray := by
    apply Array.ext_getElem?
    intro i
    by_cases hi : i < n
    · rw [hc i hi, List.getElem?_toArray, vL_at n f i hi]
    · rw [Array.getElem?_eq_none (by omega), Array.getElem?_eq_none (by rw [vL_size]; omega)]
  rw [hb, e]
theorem vrow_of_heap {w : World} {g t n : Nat} {f : Nat → Value} (h : w.heap[g]? = some (.cells (vL n f).toArray t (0, 0))) : w.rowIs g t n f :=
  ⟨_, h, vL_size n f, fun i hi => by rw [List.getElem?_toArray, vL_at n f i hi]⟩
theorem vrow_alloc (w : World) (t n : Nat) (f : Nat → Value) : (w.alloc (.cells (vL n f).toArray t)).rowIs w.heap.size t n f := vrow_of_heap (heap_alloc_new w _)
theorem vrow_range {w : World} {g t N n o : Nat} {f k : Nat → Value} (h : w.rowIs g t N f) (hn : o + n ≤ N) (hk : ∀ j, j < n → k j = f (o + j)) : w.rangeAt g o (vL n k) := by
  intro j v hv
  obtain ⟨hj, rfl⟩ := vL_get hv
  rw [h.cell (i := o + j) (by omega), hk j hj]
theorem vrow_there {w : World} {g t N n o : Nat} {f : Nat → Value} (h : w.rowIs g t N f) (hn : o + n ≤ N) : w.there g o n := fun j hj => ⟨by rw [h.cell (i := o + j) (by omega)]; rfl, h.frozen _⟩
theorem vrow_setCells {w : World} {g t N n o : Nat} {f k : Nat → Value} (h : w.rowIs g t N f) (hn : o + n ≤ N) : (w.setCells g o (vL n k)).rowIs g t N (fun j => if o ≤ j ∧ j < o + n then k (j - o) else f j) := by
  have hh := vrow_heap h
  obtain ⟨c', h2, h3⟩ := setCells_heap g t (0, 0) (vL n k) o w _ hh
  rw [vL_size] at h3
  refine ⟨c', h2, h3, fun i hi => ?_⟩
  have hcell := cell_of_row _ g i c' t (0, 0) h2
  rw [← hcell]
  show (w.setCells g o (vL n k)).cell? ⟨g, i, none⟩ = some (if o ≤ i ∧ i < o + n then k (i - o) else f i)
  by_cases e : o ≤ i ∧ i < o + n
  · have hin := World.cell?_setCells_in g (vL n k) o w (fun j hj => by rw [vL_len] at hj; rw [h.cell (i := o + j) (by omega)]; rfl) (i - o) (by rw [vL_len]; omega)
    rw [show o + (i - o) = i by omega] at hin
    rw [hin]
    have e2 := vL_at n k (i - o) (by omega)
    rw [List.getElem?_eq_getElem (by rw [vL_len]; omega)] at e2
    rw [e2, if_pos e]
  · rw [World.cell?_setCells_out g _ o w ⟨g, i, none⟩ (fun _ _ => by rw [vL_len]; show i < o ∨ o + n ≤ i; omega), h.cell hi, if_neg e]
theorem vrow_setCells0 {w : World} {g t n : Nat} {f k : Nat → Value} (h : w.rowIs g t n f) : (w.setCells g 0 (vL n k)).rowIs g t n k :=
  (vrow_setCells h (by omega)).congr fun i hi => by
    show (if 0 ≤ i ∧ i < 0 + n then k (i - 0) else f i) = k i
    rw [if_pos ⟨by omega, by omega⟩, Nat.sub_zero]
theorem wpList_load_V {P : Program} {ops : Array Oper} {rest : List Oper} {op : Oper} {a : Act} {w : World} {Q : Exit → Act → World → Prop} (hgd : op.guard = none) (ty : TypeId) (x : Operand) (ho : op.op = .load ty x)
    (g o : Nat) (hx : a.eval x = .pointer (some ⟨g, o, none⟩)) (t N n : Nat) (f k : Nat → Value) (d : TypeDesc) (hrow : w.rowIs g t N f) (hn : o + n ≤ N) (hk : ∀ j, j < n → k j = f (o + j))
    (hu : P.underlying ty = some d) (hd : d.isRow = true) (hi : (P.info? ty).map (·.size) = some n)
    (h : wpList P ops Q rest (a.put op.dst (.agg (vL n k).toArray)) w) : wpList P ops Q (op :: rest) a w :=
  wpList_load_mid hgd ty x ho g o hx (vL n k) d (vrow_range hrow hn hk) hu hd (by rw [vL_len]; exact hi) h
theorem wpList_store_V {P : Program} {ops : Array Oper} {rest : List Oper} {op : Oper} {a : Act} {w : World} {Q : Exit → Act → World → Prop} (hgd : op.guard = none) (ty : TypeId) (x y : Operand) (ho : op.op = .store ty x y)
    (g o n : Nat) (k : Nat → Value) (hx : a.eval x = .pointer (some ⟨g, o, none⟩)) (hy : a.eval y = .agg (vL n k).toArray) (ht : w.there g o n) (hi : (P.info? ty).map (·.size) = some n) (h1 : ∀ j, j < n → (k j).oneCell' = true)
    (h : wpList P ops Q rest (a.put op.dst undef) (w.setCells g o (vL n k))) : wpList P ops Q (op :: rest) a w :=
  wpList_store_mid hgd ty x y ho g o (vL n k).toArray hx hy (by rw [vL_size]; exact ht) (by rw [vL_size]; exact hi) (all_oneCell_toArray (vL_one h1)) h
theorem ret_V {P : Program} {fn : Func} {p : Tmp} {ty : TypeId} (h : fn.results = #[.cell p ty]) (tmps : Array Value) (w : World) (g n : Nat) (t : TypeId) (k : Nat → Value) (d : TypeDesc)
    (hp : tmps.getD p undef = .pointer (some ⟨g, 0, none⟩)) (hrow : w.rowIs g t n k) (hu : P.underlying ty = some d) (hd : d.isRow = true) (hi : (P.info? ty).map (·.size) = some n) :
    (results fn tmps).run P w = .ok (.agg (vL n k).toArray) w :=
  results_cell_row h tmps w g t _ (0, 0) d hp (vrow_heap hrow) hu (by cases d <;> simp_all) (by rw [vL_size]; exact hi)
/-- A row with a part of it laid anew. -/
def laid (o n : Nat) (k f : Nat → Value) (i : Nat) : Value := if o ≤ i ∧ i < o + n then k (i - o) else f i
theorem lay_list (off : Nat) : ∀ (l : List Value) (k : Nat) (cs : Array Value), ((l.zipIdx k).foldl (fun cs (x : Value × Nat) => cs.setIfInBounds (off + x.2) x.1) cs).size = cs.size ∧
    ∀ i, i < cs.size → ((l.zipIdx k).foldl (fun cs (x : Value × Nat) => cs.setIfInBounds (off + x.2) x.1) cs)[i]? = if off + k ≤ i ∧ i < off + k + l.length then l[i - (off + k)]? else cs[i]?
  | [], k, cs => ⟨rfl, fun i _ => by rw [if_neg (by simp)]; rfl⟩
  | v :: l, k, cs => by
    obtain ⟨h1, h2⟩ := lay_list off l (k + 1) (cs.setIfInBounds (off + k) v)
    rw [Array.size_setIfInBounds] at h1 h2
    refine ⟨by rw [List.zipIdx_cons, List.foldl_cons]; exact h1, fun i hi => ?_⟩
    rw [List.zipIdx_cons, List.foldl_cons, h2 i hi, Array.getElem?_setIfInBounds, List.length_cons]
    by_cases e : i = off + k
    · subst e
      rw [if_neg (by omega), if_pos rfl, if_pos hi, if_pos (by omega), Nat.sub_self]; rfl
    · by_cases e2 : off + (k + 1) ≤ i ∧ i < off + (k + 1) + l.length
      · rw [if_pos e2, if_pos (by omega), show i - (off + k) = (i - (off + (k + 1))) + 1 by omega]; rfl
      · rw [if_neg e2, if_neg (by omega), if_neg (by omega)]
theorem lay_vL (off n N : Nat) (k f : Nat → Value) : (vL n k).toArray.zipIdx.foldl (fun cs (c, j) => cs.setIfInBounds (off + j) c) (vL N f).toArray = (vL N (laid off n k f)).toArray := by
  rw [← Array.foldl_toList, Array.toList_zipIdx]
  obtain ⟨h1, h2⟩ := lay_list off (vL n k) 0 (vL N f).toArray
  rw [vL_size] at h1 h2
  rw [vL_len] at h2
  apply Array.ext_getElem?
  intro i
  by_cases hi : i < N
  · have h3 := h2 i hi
    refine h3.trans ?_
    rw [List.getElem?_toArray, List.getElem?_toArray, vL_at N _ i hi, vL_at N _ i hi]
    unfold laid
    rw [Nat.add_zero]
    by_cases e : off ≤ i ∧ i < off + n
    · rw [if_pos e, if_pos e, vL_at n k _ (by omega)]
    · rw [if_neg e, if_neg e]
  · rw [Array.getElem?_eq_none (xs := (vL N (laid off n k f)).toArray) (by rw [vL_size]; omega)]
    exact Array.getElem?_eq_none (Nat.le_trans (Nat.le_of_eq h1) (by omega))
theorem fill_V (place : Nat → Option (Nat × Nat)) (N i off n : Nat) (f k : Nat → Value) (rest : List (Nat × Value)) (hp : place i = some (off, n)) (h : off + n ≤ N) :
    Instr.fill place (vL N f).toArray ((i, .agg (vL n k).toArray) :: rest) = Instr.fill place (vL N (laid off n k f)).toArray rest := by
  conv => lhs; unfold Instr.fill
  rw [hp]
  show (if ((vL n k).toArray.size ≠ n || off + (vL n k).toArray.size > (vL N f).toArray.size) = true then none else Instr.fill place ((vL n k).toArray.zipIdx.foldl (fun cs (c, j) => cs.setIfInBounds (off + j) c) (vL N f).toArray) rest) = _
  rw [lay_vL off n N k f, vL_size, vL_size, if_neg (by simp; omega)]
theorem fill_1 (place : Nat → Option (Nat × Nat)) (N i off : Nat) (f : Nat → Value) (v : Value) (hv : v.cells = #[v]) (rest : List (Nat × Value)) (hp : place i = some (off, 1)) (h : off + 1 ≤ N) :
    Instr.fill place (vL N f).toArray ((i, v) :: rest) = Instr.fill place (vL N (laid off 1 (fun _ => v) f)).toArray rest := by
  rw [← fill_V place N i off 1 f (fun _ => v) rest hp h]
  unfold Instr.fill
  rw [hp, hv]; rfl
theorem fill_end (place : Nat → Option (Nat × Nat)) {n : Nat} {f g : Nat → Value} (h : ∀ j, j < n → f j = g j) : Instr.fill place (vL n f).toArray [] = some (vL n g).toArray := by rw [vL_congr h]; rfl
theorem built_of {P : Program} {t : TypeId} {z : Array Value} {n : Nat} {fields : Array Field} {places : List (Nat × Nat)} (parts : List (Nat × Value)) (hi : (P.info? t).map (fun i => (i.zero, i.size)) = some (some (.agg z), n)) (hu : P.underlying t = some (.struct fields))
    (hp : fields.toList.mapM (fun f => (P.info? f.type).map fun i => (f.offset, i.size)) = some places) : P.built t parts = Instr.fill (places.toArray[·]?) z parts := by
  obtain ⟨it, h1, h2⟩ := Option.map_eq_some_iff.1 hi
  have h3 : it.zero = some (.agg z) := congrArg Prod.fst h2
  unfold Program.built
  rw [h1, hu]
  show (match it.zero, fields.toList.mapM (fun f => (P.info? f.type).map fun i => (f.offset, i.size)) with
    | some z, some places => Instr.fill (places.toArray[·]?) z.cells parts
    | _, _ => none) = _
  rw [h3, hp]; rfl
theorem wpList_build_1 {P : Program} {ops : Array Oper} {rest : List Oper} {o : Oper} {a : Act} {w : World} {Q : Exit → Act → World → Prop} (hg : o.guard = none) (t : TypeId) (i : Nat) (x : Operand) (ho : o.op = .build t #[(i, x)])
    (v : Value) (hv : a.eval x = v) (cells : Array Value) (hb : P.built t [(i, v)] = some cells)
    (h : wpList P ops Q rest (a.put o.dst (.agg cells)) w) : wpList P ops Q (o :: rest) a w := by
  subst hv
  have e : (#[(i, x)].map fun ((i, x) : Nat × Operand) => (i, a.eval x)).toList = [(i, a.eval x)] := by simp
  refine wpList_build hg t _ ho (by rw [e, hb]; rfl) ?_
  rw [e, hb]; exact h
theorem wpList_build_2 {P : Program} {ops : Array Oper} {rest : List Oper} {o : Oper} {a : Act} {w : World} {Q : Exit → Act → World → Prop} (hg : o.guard = none) (t : TypeId) (i : Nat) (x : Operand) (j : Nat) (y : Operand) (ho : o.op = .build t #[(i, x), (j, y)])
    (v : Value) (hv : a.eval x = v) (u : Value) (hu : a.eval y = u) (cells : Array Value) (hb : P.built t [(i, v), (j, u)] = some cells)
    (h : wpList P ops Q rest (a.put o.dst (.agg cells)) w) : wpList P ops Q (o :: rest) a w := by
  subst hv hu
  have e : (#[(i, x), (j, y)].map fun ((i, x) : Nat × Operand) => (i, a.eval x)).toList = [(i, a.eval x), (j, a.eval y)] := by simp
  refine wpList_build hg t _ ho (by rw [e, hb]; rfl) ?_
  rw [e, hb]; exact h
end Go.Proofs.YtconcnndghmdfaaGreatDoor
namespace Go.Proofs.YtconcnndghmdfaaGreatDoor
open Go.RowKit
/-- What a coder's or a decoder's block begins with: the range, the chances. -/
def parF (size : Nat) (ch : Nat → Nat) (j : Nat) : Value := if j = 0 then .int .u64 (size : Nat) else .int .u64 (ch (j - 1) : Nat)
theorem parF_one (size : Nat) (ch : Nat → Nat) (j : Nat) : (parF size ch j).oneCell' = true := by unfold parF; split <;> rfl
theorem Tryz.infoPart : (Tryz.prog.info? 109).map (fun i => (i.zero, i.size)) = some (some (.agg (vL 1601 (parF 0 fun _ => 0)).toArray), 1601) := by kernel_rfl
theorem Tryz.builtPart : Tryz.prog.built 109 [(0, .int .u64 4294967295)] = some (vL 1601 (parF 4294967295 fun _ => 0)).toArray := by kernel_rfl
end Go.Proofs.YtconcnndghmdfaaGreatDoor
namespace Go.Proofs.YtconcnndghmdfaaGreatDoor
open Go.RowKit
/-- A coder's or a decoder's block. -/
def cdF (size : Nat) (ch : Nat → Nat) (x : Nat) (v : Value) (j : Nat) : Value := if j ≤ 1600 then parF size ch j else if j = 1601 then .int .u64 (x : Nat) else v
theorem Tryz.infoCod : (Tryz.prog.info? 112).map (fun i => (i.zero, i.size)) = some (some (.agg (vL 1603 (cdF 0 (fun _ => 0) 0 (.slice none 0 0))).toArray), 1603) := by kernel_rfl
theorem Tryz.infoDecP : (Tryz.prog.info? 199).map (fun i => (i.zero, i.size)) = some (some (.agg (vL 1603 (cdF 0 (fun _ => 0) 0 (.string ByteArray.empty))).toArray), 1603) := by kernel_rfl
theorem Tryz.fieldsCod : ∃ fields, Tryz.prog.underlying 112 = some (.struct fields) ∧ fields.toList.mapM (fun f => (Tryz.prog.info? f.type).map fun i => (f.offset, i.size)) = some [(0, 1601), (1601, 1), (1602, 1)] := ⟨_, Tryz.underlying112, by kernel_rfl⟩
theorem Tryz.fieldsDec : ∃ fields, Tryz.prog.underlying 199 = some (.struct fields) ∧ fields.toList.mapM (fun f => (Tryz.prog.info? f.type).map fun i => (f.offset, i.size)) = some [(0, 1601), (1601, 1), (1602, 1)] := ⟨_, Tryz.underlying199, by kernel_rfl⟩
theorem Tryz.builtCod (size : Nat) (ch : Nat → Nat) : Tryz.prog.built 112 [(0, .agg (vL 1601 (parF size ch)).toArray)] = some (vL 1603 (cdF size ch 0 (.slice none 0 0))).toArray := by
  obtain ⟨fields, h1, h2⟩ := Tryz.fieldsCod
  rw [built_of _ Tryz.infoCod h1 h2, fill_V _ 1603 0 0 1601 _ _ _ rfl (by omega)]
  apply fill_end
  intro j hj
  unfold laid cdF
  by_cases e : j ≤ 1600
  · rw [if_pos (by omega), if_pos e, Nat.sub_zero]
  · rw [if_neg (by omega), if_neg e, if_neg e]
theorem Tryz.builtDec (size : Nat) (ch : Nat → Nat) (t : ByteArray) : Tryz.prog.built 199 [(0, .agg (vL 1601 (parF size ch)).toArray), (2, .string t)] = some (vL 1603 (cdF size ch 0 (.string t))).toArray := by
  obtain ⟨fields, h1, h2⟩ := Tryz.fieldsDec
  rw [built_of _ Tryz.infoDecP h1 h2, fill_V _ 1603 0 0 1601 _ _ _ rfl (by omega), fill_1 _ 1603 2 1602 _ (.string t) rfl _ rfl (by omega)]
  apply fill_end
  intro j hj
  unfold laid cdF
  by_cases e : j ≤ 1600
  · rw [if_neg (by omega), if_pos (by omega), if_pos e, Nat.sub_zero]
  · by_cases e2 : j = 1601
    · rw [if_neg (by omega), if_neg (by omega), if_neg e, if_pos e2, if_neg e, if_pos e2]
    · rw [if_pos (by omega), if_neg e, if_neg e2]
end Go.Proofs.YtconcnndghmdfaaGreatDoor

/- Put together: Val, RngN, RngB, RngP, RngC. -/
import Derived.Test.YtconcnndghmdfaaGreatDoorSc12
import Derived.Test.YtconcnndghmdfaaGreatDoorRows
import Derived.Test.YtconcnndghmdfaaGreatDoorSc8
import Derived.OwnWalk
import Derived.Test.YtconcnndghmdfaaGreatDoorSc6
import Derived.Deep.QuietTactic
import Derived.BigRegion
import Derived.BigQuiet
namespace Go.Proofs.YtconcnndghmdfaaGreatDoor
open Go Go.RowKit
/-- The cells of a row of n cells f. -/
def vL (n : Nat) (f : Nat → Value) : List Value := (List.range n).map f
theorem vL_len (n : Nat) (f : Nat → Value) : (vL n f).length = n := by simp [vL]
theorem vL_at (n : Nat) (f : Nat → Value) (j : Nat) (h : j < n) : (vL n f)[j]? = some (f j) := by simp [vL, h]
theorem vL_get {n : Nat} {f : Nat → Value} {j : Nat} {v : Value} (h : (vL n f)[j]? = some v) : j < n ∧ v = f j := by
  have hj : j < n := by
    have := (List.getElem?_eq_some_iff.1 h).1
    rwa [vL_len] at this
  rw [vL_at n f j hj] at h
  exact ⟨hj, (Option.some.inj h).symm⟩
theorem vL_congr {n : Nat} {f g : Nat → Value} (h : ∀ j, j < n → f j = g j) : vL n f = vL n g := by
  apply List.map_congr_left
  intro j hj
  exact h j (List.mem_range.1 hj)
theorem vL_size (n : Nat) (f : Nat → Value) : (vL n f).toArray.size = n := by rw [List.size_toArray, vL_len]
theorem vL_one {n : Nat} {f : Nat → Value} (h : ∀ j, j < n → (f j).oneCell' = true) : ∀ v ∈ vL n f, v.oneCell' = true := by
  intro v hv
  obtain ⟨j, hj, rfl⟩ := List.mem_map.1 hv
  exact h j (List.mem_range.1 hj)
theorem vrow_heap {w : World} {g t n : Nat} {f : Nat → Value} (h : w.rowIs g t n f) : w.heap[g]? = some (.cells (vL n f).toArray t (0, 0)) := by
  obtain ⟨c, hb, hn, hc⟩ := h
  have e : c = (vL n f).toArray := by
    apply Array.ext_getElem?
    intro i
    by_cases hi : i < n
    · rw [hc i hi, List.getElem?_toArray, vL_at n f i hi]
    · rw [Array.getElem?_eq_none (by omega), Array.getElem?_eq_none (by rw [vL_size]; omega)]
  rw [hb, e]
theorem vrow_of_heap {w : World} {g t n : Nat} {f : Nat → Value} (h : w.heap[g]? = some (.cells (vL n f).toArray t (0, 0))) : w.rowIs g t n f :=
  ⟨_, h, vL_size n f, fun i hi => by rw [List.getElem?_toArray, vL_at n f i hi]⟩
theorem vrow_alloc (w : World) (t n : Nat) (f : Nat → Value) : (w.alloc (.cells (vL n f).toArray t)).rowIs w.heap.size t n f := vrow_of_heap (heap_alloc_new w _)
theorem vrow_range {w : World} {g t N n o : Nat} {f k : Nat → Value} (h : w.rowIs g t N f) (hn : o + n ≤ N) (hk : ∀ j, j < n → k j = f (o + j)) : w.rangeAt g o (vL n k) := by
  intro j v hv
  obtain ⟨hj, rfl⟩ := vL_get hv
  rw [h.cell (i := o + j) (by omega), hk j hj]
theorem vrow_there {w : World} {g t N n o : Nat} {f : Nat → Value} (h : w.rowIs g t N f) (hn : o + n ≤ N) : w.there g o n := fun j hj => ⟨by rw [h.cell (i := o + j) (by omega)]; rfl, h.frozen _⟩
theorem vrow_setCells {w : World} {g t N n o : Nat} {f k : Nat → Value} (h : w.rowIs g t N f) (hn : o + n ≤ N) : (w.setCells g o (vL n k)).rowIs g t N (fun j => if o ≤ j ∧ j < o + n then k (j - o) else f j) := by
  have hh := vrow_heap h
  obtain ⟨c', h2, h3⟩ := setCells_heap g t (0, 0) (vL n k) o w _ hh
  rw [vL_size] at h3
  refine ⟨c', h2, h3, fun i hi => ?_⟩
  have hcell := cell_of_row _ g i c' t (0, 0) h2
  rw [← hcell]
  show (w.setCells g o (vL n k)).cell? ⟨g, i, none⟩ = some (if o ≤ i ∧ i < o + n then k (i - o) else f i)
  by_cases e : o ≤ i ∧ i < o + n
  · have hin := World.cell?_setCells_in g (vL n k) o w (fun j hj => by rw [vL_len] at hj; rw [h.cell (i := o + j) (by omega)]; rfl) (i - o) (by rw [vL_len]; omega)
    rw [show o + (i - o) = i by omega] at hin
    rw [hin]
    have e2 := vL_at n k (i - o) (by omega)
    rw [List.getElem?_eq_getElem (by rw [vL_len]; omega)] at e2
    rw [e2, if_pos e]
  · rw [World.cell?_setCells_out g _ o w ⟨g, i, none⟩ (fun _ _ => by rw [vL_len]; show i < o ∨ o + n ≤ i; omega), h.cell hi, if_neg e]
theorem vrow_setCells0 {w : World} {g t n : Nat} {f k : Nat → Value} (h : w.rowIs g t n f) : (w.setCells g 0 (vL n k)).rowIs g t n k :=
  (vrow_setCells h (by omega)).congr fun i hi => by
    show (if 0 ≤ i ∧ i < 0 + n then k (i - 0) else f i) = k i
    rw [if_pos ⟨by omega, by omega⟩, Nat.sub_zero]
theorem wpList_load_V {P : Program} {ops : Array Oper} {rest : List Oper} {op : Oper} {a : Act} {w : World} {Q : Exit → Act → World → Prop} (hgd : op.guard = none) (ty : TypeId) (x : Operand) (ho : op.op = .load ty x)
    (g o : Nat) (hx : a.eval x = .pointer (some ⟨g, o, none⟩)) (t N n : Nat) (f k : Nat → Value) (d : TypeDesc) (hrow : w.rowIs g t N f) (hn : o + n ≤ N) (hk : ∀ j, j < n → k j = f (o + j))
    (hu : P.underlying ty = some d) (hd : d.isRow = true) (hi : (P.info? ty).map (·.size) = some n)
    (h : wpList P ops Q rest (a.put op.dst (.agg (vL n k).toArray)) w) : wpList P ops Q (op :: rest) a w :=
  wpList_load_mid hgd ty x ho g o hx (vL n k) d (vrow_range hrow hn hk) hu hd (by rw [vL_len]; exact hi) h
theorem wpList_store_V {P : Program} {ops : Array Oper} {rest : List Oper} {op : Oper} {a : Act} {w : World} {Q : Exit → Act → World → Prop} (hgd : op.guard = none) (ty : TypeId) (x y : Operand) (ho : op.op = .store ty x y)
    (g o n : Nat) (k : Nat → Value) (hx : a.eval x = .pointer (some ⟨g, o, none⟩)) (hy : a.eval y = .agg (vL n k).toArray) (ht : w.there g o n) (hi : (P.info? ty).map (·.size) = some n) (h1 : ∀ j, j < n → (k j).oneCell' = true)
    (h : wpList P ops Q rest (a.put op.dst undef) (w.setCells g o (vL n k))) : wpList P ops Q (op :: rest) a w :=
  wpList_store_mid hgd ty x y ho g o (vL n k).toArray hx hy (by rw [vL_size]; exact ht) (by rw [vL_size]; exact hi) (all_oneCell_toArray (vL_one h1)) h
theorem ret_V {P : Program} {fn : Func} {p : Tmp} {ty : TypeId} (h : fn.results = #[.cell p ty]) (tmps : Array Value) (w : World) (g n : Nat) (t : TypeId) (k : Nat → Value) (d : TypeDesc)
    (hp : tmps.getD p undef = .pointer (some ⟨g, 0, none⟩)) (hrow : w.rowIs g t n k) (hu : P.underlying ty = some d) (hd : d.isRow = true) (hi : (P.info? ty).map (·.size) = some n) :
    (results fn tmps).run P w = .ok (.agg (vL n k).toArray) w :=
  results_cell_row h tmps w g t _ (0, 0) d hp (vrow_heap hrow) hu (by cases d <;> simp_all) (by rw [vL_size]; exact hi)
/-- A row with a part of it laid anew. -/
def laid (o n : Nat) (k f : Nat → Value) (i : Nat) : Value := if o ≤ i ∧ i < o + n then k (i - o) else f i
theorem lay_list (off : Nat) : ∀ (l : List Value) (k : Nat) (cs : Array Value), ((l.zipIdx k).foldl (fun cs (x : Value × Nat) => cs.setIfInBounds (off + x.2) x.1) cs).size = cs.size ∧
    ∀ i, i < cs.size → ((l.zipIdx k).foldl (fun cs (x : Value × Nat) => cs.setIfInBounds (off + x.2) x.1) cs)[i]? = if off + k ≤ i ∧ i < off + k + l.length then l[i - (off + k)]? else cs[i]?
  | [], k, cs => ⟨rfl, fun i _ => by rw [if_neg (by simp)]; rfl⟩
  | v :: l, k, cs => by
    obtain ⟨h1, h2⟩ := lay_list off l (k + 1) (cs.setIfInBounds (off + k) v)
    rw [Array.size_setIfInBounds] at h1 h2
    refine ⟨by rw [List.zipIdx_cons, List.foldl_cons]; exact h1, fun i hi => ?_⟩
    rw [List.zipIdx_cons, List.foldl_cons, h2 i hi, Array.getElem?_setIfInBounds, List.length_cons]
    by_cases e : i = off + k
    · subst e
      rw [if_neg (by omega), if_pos rfl, if_pos hi, if_pos (by omega), Nat.sub_self]; rfl
    · by_cases e2 : off + (k + 1) ≤ i ∧ i < off + (k + 1) + l.length
      · rw [if_pos e2, if_pos (by omega), show i - (off + k) = (i - (off + (k + 1))) + 1 by omega]; rfl
      · rw [if_neg e2, if_neg (by omega), if_neg (by omega)]
theorem lay_vL (off n N : Nat) (k f : Nat → Value) : (vL n k).toArray.zipIdx.foldl (fun cs (c, j) => cs.setIfInBounds (off + j) c) (vL N f).toArray = (vL N (laid off n k f)).toArray := by
  rw [← Array.foldl_toList, Array.toList_zipIdx]
  obtain ⟨h1, h2⟩ := lay_list off (vL n k) 0 (vL N f).toArray
  rw [vL_size] at h1 h2
  rw [vL_len] at h2
  apply Array.ext_getElem?
  intro i
  by_cases hi : i < N
  · have h3 := h2 i hi
    refine h3.trans ?_
    rw [List.getElem?_toArray, List.getElem?_toArray, vL_at N _ i hi, vL_at N _ i hi]
    unfold laid
    rw [Nat.add_zero]
    by_cases e : off ≤ i ∧ i < off + n
    · rw [if_pos e, if_pos e, vL_at n k _ (by omega)]
    · rw [if_neg e, if_neg e]
  · rw [Array.getElem?_eq_none (xs := (vL N (laid off n k f)).toArray) (by rw [vL_size]; omega)]
    exact Array.getElem?_eq_none (Nat.le_trans (Nat.le_of_eq h1) (by omega))
theorem fill_V (place : Nat → Option (Nat × Nat)) (N i off n : Nat) (f k : Nat → Value) (rest : List (Nat × Value)) (hp : place i = some (off, n)) (h : off + n ≤ N) :
    Instr.fill place (vL N f).toArray ((i, .agg (vL n k).toArray) :: rest) = Instr.fill place (vL N (laid off n k f)).toArray rest := by
  conv => lhs; unfold Instr.fill
  rw [hp]
  show (if ((vL n k).toArray.size ≠ n || off + (vL n k).toArray.size > (vL N f).toArray.size) = true then none else Instr.fill place ((vL n k).toArray.zipIdx.foldl (fun cs (c, j) => cs.setIfInBounds (off + j) c) (vL N f).toArray) rest) = _
  rw [lay_vL off n N k f, vL_size, vL_size, if_neg (by simp; omega)]
theorem fill_1 (place : Nat → Option (Nat × Nat)) (N i off : Nat) (f : Nat → Value) (v : Value) (hv : v.cells = #[v]) (rest : List (Nat × Value)) (hp : place i = some (off, 1)) (h : off + 1 ≤ N) :
    Instr.fill place (vL N f).toArray ((i, v) :: rest) = Instr.fill place (vL N (laid off 1 (fun _ => v) f)).toArray rest := by
  rw [← fill_V place N i off 1 f (fun _ => v) rest hp h]
  unfold Instr.fill
  rw [hp, hv]; rfl
theorem fill_end (place : Nat → Option (Nat × Nat)) {n : Nat} {f g : Nat → Value} (h : ∀ j, j < n → f j = g j) : Instr.fill place (vL n f).toArray [] = some (vL n g).toArray := by rw [vL_congr h]; rfl
theorem built_of {P : Program} {t : TypeId} {z : Array Value} {n : Nat} {fields : Array Field} {places : List (Nat × Nat)} (parts : List (Nat × Value)) (hi : (P.info? t).map (fun i => (i.zero, i.size)) = some (some (.agg z), n)) (hu : P.underlying t = some (.struct fields))
    (hp : fields.toList.mapM (fun f => (P.info? f.type).map fun i => (f.offset, i.size)) = some places) : P.built t parts = Instr.fill (places.toArray[·]?) z parts := by
  obtain ⟨it, h1, h2⟩ := Option.map_eq_some_iff.1 hi
  have h3 : it.zero = some (.agg z) := congrArg Prod.fst h2
  unfold Program.built
  rw [h1, hu]
  show (match it.zero, fields.toList.mapM (fun f => (P.info? f.type).map fun i => (f.offset, i.size)) with
    | some z, some places => Instr.fill (places.toArray[·]?) z.cells parts
    | _, _ => none) = _
  rw [h3, hp]; rfl
theorem wpList_build_1 {P : Program} {ops : Array Oper} {rest : List Oper} {o : Oper} {a : Act} {w : World} {Q : Exit → Act → World → Prop} (hg : o.guard = none) (t : TypeId) (i : Nat) (x : Operand) (ho : o.op = .build t #[(i, x)])
    (v : Value) (hv : a.eval x = v) (cells : Array Value) (hb : P.built t [(i, v)] = some cells)
    (h : wpList P ops Q rest (a.put o.dst (.agg cells)) w) : wpList P ops Q (o :: rest) a w := by
  subst hv
  have e : (#[(i, x)].map fun ((i, x) : Nat × Operand) => (i, a.eval x)).toList = [(i, a.eval x)] := by simp
  refine wpList_build hg t _ ho (by rw [e, hb]; rfl) ?_
  rw [e, hb]; exact h
theorem wpList_build_2 {P : Program} {ops : Array Oper} {rest : List Oper} {o : Oper} {a : Act} {w : World} {Q : Exit → Act → World → Prop} (hg : o.guard = none) (t : TypeId) (i : Nat) (x : Operand) (j : Nat) (y : Operand) (ho : o.op = .build t #[(i, x), (j, y)])
    (v : Value) (hv : a.eval x = v) (u : Value) (hu : a.eval y = u) (cells : Array Value) (hb : P.built t [(i, v), (j, u)] = some cells)
    (h : wpList P ops Q rest (a.put o.dst (.agg cells)) w) : wpList P ops Q (o :: rest) a w := by
  subst hv hu
  have e : (#[(i, x), (j, y)].map fun ((i, x) : Nat × Operand) => (i, a.eval x)).toList = [(i, a.eval x), (j, a.eval y)] := by simp
  refine wpList_build hg t _ ho (by rw [e, hb]; rfl) ?_
  rw [e, hb]; exact h
end Go.Proofs.YtconcnndghmdfaaGreatDoor
namespace Go.Proofs.YtconcnndghmdfaaGreatDoor
open Go.RowKit
/-- What a coder's or a decoder's block begins with: the range, the chances. -/
def parF (size : Nat) (ch : Nat → Nat) (j : Nat) : Value := if j = 0 then .int .u64 (size : Nat) else .int .u64 (ch (j - 1) : Nat)
theorem parF_one (size : Nat) (ch : Nat → Nat) (j : Nat) : (parF size ch j).oneCell' = true := by unfold parF; split <;> rfl
theorem Tryz.infoPart : (Tryz.prog.info? 109).map (fun i => (i.zero, i.size)) = some (some (.agg (vL 1601 (parF 0 fun _ => 0)).toArray), 1601) := by kernel_rfl
theorem Tryz.builtPart : Tryz.prog.built 109 [(0, .int .u64 4294967295)] = some (vL 1601 (parF 4294967295 fun _ => 0)).toArray := by kernel_rfl
end Go.Proofs.YtconcnndghmdfaaGreatDoor
namespace Go.Proofs.YtconcnndghmdfaaGreatDoor
open Go.RowKit
/-- A coder's or a decoder's block. -/
def cdF (size : Nat) (ch : Nat → Nat) (x : Nat) (v : Value) (j : Nat) : Value := if j ≤ 1600 then parF size ch j else if j = 1601 then .int .u64 (x : Nat) else v
theorem Tryz.infoCod : (Tryz.prog.info? 112).map (fun i => (i.zero, i.size)) = some (some (.agg (vL 1603 (cdF 0 (fun _ => 0) 0 (.slice none 0 0))).toArray), 1603) := by kernel_rfl
theorem Tryz.infoDecP : (Tryz.prog.info? 199).map (fun i => (i.zero, i.size)) = some (some (.agg (vL 1603 (cdF 0 (fun _ => 0) 0 (.string ByteArray.empty))).toArray), 1603) := by kernel_rfl
theorem Tryz.fieldsCod : ∃ fields, Tryz.prog.underlying 112 = some (.struct fields) ∧ fields.toList.mapM (fun f => (Tryz.prog.info? f.type).map fun i => (f.offset, i.size)) = some [(0, 1601), (1601, 1), (1602, 1)] := ⟨_, Tryz.underlying112, by kernel_rfl⟩
theorem Tryz.fieldsDec : ∃ fields, Tryz.prog.underlying 199 = some (.struct fields) ∧ fields.toList.mapM (fun f => (Tryz.prog.info? f.type).map fun i => (f.offset, i.size)) = some [(0, 1601), (1601, 1), (1602, 1)] := ⟨_, Tryz.underlying199, by kernel_rfl⟩
theorem Tryz.builtCod (size : Nat) (ch : Nat → Nat) : Tryz.prog.built 112 [(0, .agg (vL 1601 (parF size ch)).toArray)] = some (vL 1603 (cdF size ch 0 (.slice none 0 0))).toArray := by
  obtain ⟨fields, h1, h2⟩ := Tryz.fieldsCod
  rw [built_of _ Tryz.infoCod h1 h2, fill_V _ 1603 0 0 1601 _ _ _ rfl (by omega)]
  apply fill_end
  intro j hj
  unfold laid cdF
  by_cases e : j ≤ 1600
  · rw [if_pos (by omega), if_pos e, Nat.sub_zero]
  · rw [if_neg (by omega), if_neg e, if_neg e]
theorem Tryz.builtDec (size : Nat) (ch : Nat → Nat) (t : ByteArray) : Tryz.prog.built 199 [(0, .agg (vL 1601 (parF size ch)).toArray), (2, .string t)] = some (vL 1603 (cdF size ch 0 (.string t))).toArray := by
  obtain ⟨fields, h1, h2⟩ := Tryz.fieldsDec
  rw [built_of _ Tryz.infoDecP h1 h2, fill_V _ 1603 0 0 1601 _ _ _ rfl (by omega), fill_1 _ 1603 2 1602 _ (.string t) rfl _ rfl (by omega)]
  apply fill_end
  intro j hj
  unfold laid cdF
  by_cases e : j ≤ 1600
  · rw [if_neg (by omega), if_pos (by omega), if_pos e, Nat.sub_zero]
  · by_cases e2 : j = 1601
    · rw [if_neg (by omega), if_neg (by omega), if_neg e, if_pos e2, if_neg e, if_pos e2]
    · rw [if_pos (by omega), if_neg e, if_neg e2]
end Go.Proofs.YtconcnndghmdfaaGreatDoor
namespace Go.Proofs.YtconcnndghmdfaaGreatDoor
open Go.RowKit
theorem parF_set {w : World} {g T size c X : Nat} {ch : Nat → Nat} {n : Nat} (h : w.rowIs g T n (parF size ch)) : (w.setCell ⟨g, 1 + c, none⟩ (.int .u64 (X : Int))).rowIs g T n (parF size (setCh ch c X)) := by
  refine (h.set (1 + c) _).congr ?_
  intro i _
  show (if i = 1 + c then Value.int .u64 (X : Int) else parF size ch i) = parF size (setCh ch c X) i
  unfold parF setCh
  by_cases e : i = 1 + c
  · rw [if_pos e, if_neg (by omega), if_pos (by omega)]
  · rw [if_neg e]
    by_cases e0 : i = 0
    · rw [if_pos e0, if_pos e0]
    · rw [if_neg e0, if_neg e0, if_neg (by omega)]
set_option maxRecDepth 100000 in
set_option maxHeartbeats 800000 in
theorem imp_parting (w : World) :
    Calls Tryz.prog 79 #[] w fun e w' => e = .returned (.agg (vL 1601 (parF 4294967295 fun _ => 1024)).toArray) ∧ Below w.heap.size w w' := by
  obtain ⟨hz, hsz⟩ := zero_of_info Tryz.infoPart
  have hbt := hide Tryz.builtPart
  have r0 := vrow_alloc w 109 1601 (parF 0 fun _ => 0)
  have r1 := vrow_alloc (w.alloc (.cells (vL 1601 (parF 0 fun _ => 0)).toArray 109)) 109 1601 (parF 0 fun _ => 0)
  rw [World.size_alloc] at r1
  have hth := vrow_there (o := 0) (n := 1601) r1 (by omega)
  have r2 := vrow_setCells0 (k := parF 4294967295 fun _ => 0) r1
  have r3 := row_setCells_other (b := w.heap.size + 1) (o := 0) (vs := vL 1601 (parF 4294967295 fun _ => 0)) (r0.alloc (.cells (vL 1601 (parF 0 fun _ => 0)).toArray 109)) (by omega)
  have rb := below_setCells' (b := w.heap.size + 1) (o := 0) (vs := vL 1601 (parF 4294967295 fun _ => 0)) (((Below.refl w.heap.size w).alloc (Nat.le_refl _) (.cells (vL 1601 (parF 0 fun _ => 0)).toArray 109)).alloc (by simp) (.cells (vL 1601 (parF 0 fun _ => 0)).toArray 109)) (by omega)
  have H := hide (And.intro r2 (And.intro r3 rb))
  clear r0 r1 r2 r3 rb
  go_enter Tryz.func79, Tryz.ntmps79
  go_wp2_with (first | (with_reducible (show wpList _ _ _ ({ dst := _, op := .build _ _, type := _, pos := _, after := _, guard := _ } :: _) _ _); refine wpList_build_1 rfl 109 0 _ rfl (.int .u64 4294967295) rfl _ hbt.out ?_) | (with_reducible (show wpList _ _ _ ({ dst := _, op := .store _ _ _, type := _, pos := _, after := _, guard := _ } :: _) _ _); refine wpList_store_V rfl 109 _ _ rfl (w.heap.size + 1) 0 1601 (parF 4294967295 fun _ => 0) rfl rfl hth hsz (fun j _ => parF_one _ _ j) ?_))
  clear hz hbt hth
  obtain ⟨r2, r3, rb⟩ := H.out
  generalize ((w.alloc (.cells (vL 1601 (parF 0 fun _ => 0)).toArray 109)).alloc (.cells (vL 1601 (parF 0 fun _ => 0)).toArray 109)).setCells (w.heap.size + 1) 0 (vL 1601 (parF 4294967295 fun _ => 0)) = W1 at *
  clear H
  go_loopw [4] (fun i wx => ∃ (k : Nat) (f : Nat → Nat), k ≤ 1600 ∧ i = .int .i64 k ∧ Hid (∀ j, j < k → f j = 1024) ∧ wx.rowIs (w.heap.size + 1) 109 1601 (parF 4294967295 f) ∧ wx.rowIs w.heap.size 109 1601 (parF 0 fun _ => 0) ∧ Below w.heap.size w wx) (fun i _ => 1600 - (intOf i).toNat)
  case atStart => exact ⟨0, fun _ => 0, by omega, rfl, fun j hj => by omega, r2, r3, rb⟩
  case round =>
    clear r2 r3 rb
    obtain ⟨k, f, hk, rfl, hf, hrw, hres, hbl⟩ := hrel
    by_cases hlt : k < 1600
    · have ck := hrw.cell (i := 1 + k) (by omega)
      have hfz := hrw.frozen (1 + k)
      have hlt' : (k : Int) < 1600 := by omega
      clear hsz
      go_wp2_with fail
      refine ⟨⟨k + 1, setCh f k 1024, by omega, by go_num, fun j hj => ?_, parF_set hrw, hres.setOther (by simp) _, hbl.setCell (by simp) _⟩, by simp [intOf]; omega⟩
      unfold setCh
      by_cases e : j = k
      · rw [if_pos e]
      · rw [if_neg e]; exact hf.out j (by omega)
    · have hlt' : ¬ (k : Int) < 1600 := by omega
      have hrw2 : wr.rowIs (w.heap.size + 1) 109 1601 (parF 4294967295 fun _ => 1024) := hrw.congr fun i hi => by
        unfold parF
        by_cases e : i = 0
        · rw [if_pos e, if_pos e]
        · rw [if_neg e, if_neg e, hf.out (i - 1) (by omega)]
      have hth := vrow_there (o := 0) (n := 1601) hres (by omega)
      have hfin := vrow_setCells0 (k := parF 4294967295 fun _ => 1024) hres
      clear hf hrw
      go_wp2_with (first | (with_reducible (show wpList _ _ _ ({ dst := _, op := .load _ _, type := _, pos := _, after := _, guard := _ } :: _) _ _); refine wpList_load_V rfl 109 _ rfl (w.heap.size + 1) 0 rfl _ _ 1601 _ (parF 4294967295 fun _ => 1024) _ hrw2 (by omega) (fun j _ => by rw [Nat.zero_add]) Tryz.underlying109 rfl hsz ?_) | (with_reducible (show wpList _ _ _ ({ dst := _, op := .store _ _ _, type := _, pos := _, after := _, guard := _ } :: _) _ _); refine wpList_store_V rfl 109 _ _ rfl w.heap.size 0 1601 (parF 4294967295 fun _ => 1024) rfl rfl hth hsz (fun j _ => parF_one _ _ j) ?_))
      exact bodyPost_ret (ret_V Tryz.results79 _ _ w.heap.size 1601 _ (parF 4294967295 fun _ => 1024) _ rfl hfin Tryz.underlying109 rfl hsz) rfl ⟨rfl, below_setCells' hbl (Nat.le_refl _)⟩
end Go.Proofs.YtconcnndghmdfaaGreatDoor
namespace Go.Proofs.YtconcnndghmdfaaGreatDoor
open Go.RowKit
theorem cd_cells {w : World} {g T size x : Nat} {ch : Nat → Nat} {v : Value} (h : w.rowIs g T 1603 (cdF size ch x v)) :
    w.cell? ⟨g, 0, none⟩ = some (.int .u64 (size : Nat)) ∧ w.cell? ⟨g, 1601, none⟩ = some (.int .u64 (x : Nat)) ∧ w.cell? ⟨g, 1602, none⟩ = some v ∧ ∀ c, c < 1600 → w.cell? ⟨g, 1 + c, none⟩ = some (.int .u64 (ch c : Nat)) := by
  refine ⟨h.cell (i := 0) (by omega), h.cell (i := 1601) (by omega), h.cell (i := 1602) (by omega), fun c hc => ?_⟩
  rw [h.cell (i := 1 + c) (by omega)]
  unfold cdF parF
  rw [if_pos (by omega), if_neg (by omega), show 1 + c - 1 = c by omega]
theorem cd_set {w : World} {g T size x : Nat} {ch : Nat → Nat} {v : Value} (h : w.rowIs g T 1603 (cdF size ch x v)) :
    (∀ y : Nat, (w.setCell ⟨g, 0, none⟩ (.int .u64 (y : Int))).rowIs g T 1603 (cdF y ch x v)) ∧ (∀ y : Nat, (w.setCell ⟨g, 1601, none⟩ (.int .u64 (y : Int))).rowIs g T 1603 (cdF size ch y v)) ∧ (∀ u, (w.setCell ⟨g, 1602, none⟩ u).rowIs g T 1603 (cdF size ch x u)) ∧ (∀ c y : Nat, c < 1600 → (w.setCell ⟨g, 1 + c, none⟩ (.int .u64 (y : Int))).rowIs g T 1603 (cdF size (setCh ch c y) x v)) := by
  refine ⟨fun y => (h.set 0 _).congr fun i hi => ?_, fun y => (h.set 1601 _).congr fun i hi => ?_, fun u => (h.set 1602 _).congr fun i hi => ?_, fun c y hc => (h.set (1 + c) _).congr fun i hi => ?_⟩
  · show (if i = 0 then Value.int .u64 (y : Int) else cdF size ch x v i) = _
    unfold cdF parF
    by_cases e : i = 0
    · rw [if_pos e, if_pos (by omega), if_pos e]
    · rw [if_neg e, if_neg e, if_neg e]
  · show (if i = 1601 then Value.int .u64 (y : Int) else cdF size ch x v i) = _
    unfold cdF
    by_cases e : i = 1601
    · rw [if_pos e, if_neg (by omega), if_pos e]
    · rw [if_neg e, if_neg e, if_neg e]
  · show (if i = 1602 then u else cdF size ch x v i) = _
    unfold cdF
    by_cases e : i = 1602
    · rw [if_pos e, if_neg (by omega), if_neg (by omega)]
    · rw [if_neg e]
      by_cases e1 : i ≤ 1600
      · rw [if_pos e1, if_pos e1]
      · rw [if_neg e1, if_neg e1, if_pos (by omega), if_pos (by omega)]
  · show (if i = 1 + c then Value.int .u64 (y : Int) else cdF size ch x v i) = _
    unfold cdF parF setCh
    by_cases e : i = 1 + c
    · rw [if_pos e, if_pos (by omega), if_neg (by omega), if_pos (by omega)]
    · rw [if_neg e]
      by_cases e1 : i ≤ 1600
      · rw [if_pos e1, if_pos e1]
        by_cases e0 : i = 0
        · rw [if_pos e0, if_pos e0]
        · rw [if_neg e0, if_neg e0, if_neg (by omega)]
      · rw [if_neg e1, if_neg e1]
theorem grown0 (w : World) (r : Option Nat) : w.grownBy w r := ⟨rfl, rfl, rfl, Nat.le_refl _, fun _ _ _ => rfl⟩
set_option maxRecDepth 100000 in
set_option maxHeartbeats 800000 in
theorem imp_bound (g T size x c : Nat) (ch : Nat → Nat) (v : Value) (w : World) (hs : size ≤ 4294967295) (hc : c < 1600) (hp : ch c ≤ 2048) (hr : w.rowIs g T 1603 (cdF size ch x v)) :
    Calls Tryz.prog 116 #[.pointer (some ⟨g, 0, none⟩), .int .i64 (c : Int)] w fun e w' => e = .returned (.int .u64 ((size / 2048 * ch c : Nat) : Int)) ∧ ∃ n, w' = w.drewN n := by
  obtain ⟨c0, _, _, c4⟩ := cd_cells hr
  have c3 := c4 c hc
  clear c4
  obtain ⟨p, ep⟩ : ∃ p, p = ch c := ⟨_, rfl⟩
  rw [← ep] at c3 hp ⊢
  obtain ⟨q, eq⟩ : ∃ q, q = size / 2048 := ⟨_, rfl⟩
  obtain ⟨b, eb⟩ : ∃ b, b = q * p := ⟨_, rfl⟩
  have hb : b ≤ 4294967296 := by
    have h1 : q ≤ 2097151 := by omega
    have := Nat.mul_le_mul h1 hp
    omega
  have k1 : (size : Int) / 2048 = (q : Int) := by omega
  have k2 : IntKind.u64.wrap ((q : Int) * (p : Int)) = (b : Int) := by
    have e : (q : Int) * (p : Int) = (b : Int) := by rw [eb]; simp
    rw [e, IntKind.wrap_u64]; omega
  have k3 : IntKind.u64.wrap (q : Int) = (q : Int) := by rw [IntKind.wrap_u64]; omega
  have hc' : (c : Int) < 1600 := by omega
  have HE := hide (show (size / 2048 * p : Nat) = b by rw [eb, eq])
  clear ep eq eb hr
  go_enter Tryz.func116, Tryz.ntmps116
  go_wp2_with fail
  go_quiet (fail)
  go_wp2_with fail
  go_ret
  exact ⟨by rw [HE.out]; rfl, _, rfl⟩
set_option maxRecDepth 100000 in
set_option maxHeartbeats 800000 in
theorem imp_narrow (g T size x c b : Nat) (one : Bool) (ch : Nat → Nat) (v : Value) (w : World) (hs : size ≤ 4294967295) (hb : b ≤ size) (hc : c < 1600) (hp : ch c ≤ 2048) (hr : w.rowIs g T 1603 (cdF size ch x v)) :
    Calls Tryz.prog 118 #[.pointer (some ⟨g, 0, none⟩), .agg #[.int .i64 (c : Int), .bool one], .int .u64 (b : Int)] w fun e w' => e = .returned (.tuple #[]) ∧ w'.rowIs g T 1603 (if one = true then cdF (size - b) (setCh ch c (chOne (ch c))) x v else cdF b (setCh ch c (chNot (ch c))) x v) ∧ w.grownBy w' (some g) := by
  have hgl := hr.lt
  have R1 := hr.alloc (.cells #[.int .i64 (c : Int), .bool one] 122)
  have G1 := World.grownBy_alloc w (.cells #[.int .i64 (c : Int), .bool one] 122) (some g)
  have b0 : (w.alloc (.cells #[.int .i64 (c : Int), .bool one] 122)).cell? ⟨w.heap.size, 0, none⟩ = some (.int .i64 (c : Int)) := by simp
  have b1 : (w.alloc (.cells #[.int .i64 (c : Int), .bool one] 122)).cell? ⟨w.heap.size, 1, none⟩ = some (.bool one) := by simp
  obtain ⟨p, ep⟩ : ∃ p, p = ch c := ⟨_, rfl⟩
  obtain ⟨d, ed⟩ : ∃ d, d = p / 32 := ⟨_, rfl⟩
  obtain ⟨q, eq⟩ : ∃ q, q = 2048 - p := ⟨_, rfl⟩
  obtain ⟨u, eu⟩ : ∃ u, u = q / 32 := ⟨_, rfl⟩
  obtain ⟨p1, ep1⟩ : ∃ x, x = p - d := ⟨_, rfl⟩
  obtain ⟨p0, ep0⟩ : ∃ x, x = p + u := ⟨_, rfl⟩
  obtain ⟨sb, esb⟩ : ∃ x, x = size - b := ⟨_, rfl⟩
  have hp2 : p ≤ 2048 := by omega
  have k1 : (p : Int) / 32 = (d : Int) := by omega
  have k2 : (2048 : Int) - (p : Int) = (q : Int) := by omega
  have k3 : (q : Int) / 32 = (u : Int) := by omega
  have k4 : (p : Int) - (d : Int) = (p1 : Int) := by omega
  have k5 : (p : Int) + (u : Int) = (p0 : Int) := by omega
  have k6 : (size : Int) - (b : Int) = (sb : Int) := by omega
  have j1 : IntKind.u64.wrap (d : Int) = (d : Int) := by rw [IntKind.wrap_u64]; omega
  have j2 : IntKind.u64.wrap ((2048 : Int) - (p : Int)) = (q : Int) := by rw [IntKind.wrap_u64]; omega
  have j3 : IntKind.u64.wrap (u : Int) = (u : Int) := by rw [IntKind.wrap_u64]; omega
  have j4 : IntKind.u64.wrap ((p : Int) - (d : Int)) = (p1 : Int) := by rw [IntKind.wrap_u64]; omega
  have j5 : IntKind.u64.wrap ((p : Int) + (u : Int)) = (p0 : Int) := by rw [IntKind.wrap_u64]; omega
  have j6 : IntKind.u64.wrap ((size : Int) - (b : Int)) = (sb : Int) := by rw [IntKind.wrap_u64]; omega
  have hc' : (c : Int) < 1600 := by omega
  have HO := hide (show chOne (ch c) = p1 ∧ chNot (ch c) = p0 ∧ size - b = sb from ⟨by unfold chOne; rw [← ep]; omega, by unfold chNot; rw [← ep]; omega, esb.symm⟩)
  rw [HO.out.1, HO.out.2.1, HO.out.2.2]
  have CE := hide ep
  clear ep ed eq eu ep1 ep0 esb hr HO
  cases one with
  | true =>
    go_enter Tryz.func118, Tryz.ntmps118
    go_wp2_with fail
    generalize w.alloc (.cells #[.int .i64 (c : Int), .bool true] 122) = W1 at *
    have hz : g ≠ w.heap.size := by omega
    generalize w.heap.size = z at *
    obtain ⟨c0, _, _, c4⟩ := cd_cells R1
    have c3 := c4 c hc
    rw [← CE.out] at c3
    clear c4
    go_quiet (fail)
    have R2 : (W1.drewN nq).rowIs g T 1603 (cdF size ch x v) := R1
    have G2 : w.grownBy (W1.drewN nq) (some g) := ⟨G1.os, G1.tape, G1.output, G1.size, G1.block⟩
    have b0' : (W1.drewN nq).cell? ⟨z, 0, none⟩ = some (.int .i64 (c : Int)) := b0
    have b1' : (W1.drewN nq).cell? ⟨z, 1, none⟩ = some (.bool true) := b1
    have c0' : (W1.drewN nq).cell? ⟨g, 0, none⟩ = some (.int .u64 (size : Nat)) := c0
    have f0 := R2.frozen 0
    generalize W1.drewN nq = W2 at *
    clear c0 c3 b0 b1 G1 R1
    go_wp2_with fail
    have R3 := (cd_set R2).1 sb
    have G3 := grownBy_set (i := 0) G2 (.int .u64 (sb : Nat))
    have d0 := cell_far (k := 0) (v := .int .u64 (sb : Nat)) hz b0'
    generalize W2.setCell ⟨g, 0, none⟩ (.int .u64 (sb : Nat)) = W3 at *
    obtain ⟨_, _, _, c4⟩ := cd_cells R3
    have c3 := c4 c hc
    rw [← CE.out] at c3
    have f3 := R3.frozen (1 + c)
    have H := hide (And.intro R3 G3)
    clear c4 b0' b1' c0' f0 R2 G2 R3 G3
    go_region
    have R4 := (cd_set H.out.1).2.2.2 c p1 hc
    have G4 := grownBy_set (i := 1 + c) H.out.2 (.int .u64 (p1 : Nat))
    go_wp2_with fail
    exact bodyPost_ret (v := .tuple #[]) (by simp [results, Tryz.results118]) rfl ⟨rfl, R4.drew, grownBy_drew G4⟩
  | false =>
    go_enter Tryz.func118, Tryz.ntmps118
    go_wp2_with fail
    generalize w.alloc (.cells #[.int .i64 (c : Int), .bool false] 122) = W1 at *
    have hz : g ≠ w.heap.size := by omega
    generalize w.heap.size = z at *
    obtain ⟨c0, _, _, c4⟩ := cd_cells R1
    have c3 := c4 c hc
    rw [← CE.out] at c3
    clear c4
    go_quiet (fail)
    have R2 : (W1.drewN nq).rowIs g T 1603 (cdF size ch x v) := R1
    have G2 : w.grownBy (W1.drewN nq) (some g) := ⟨G1.os, G1.tape, G1.output, G1.size, G1.block⟩
    have b0' : (W1.drewN nq).cell? ⟨z, 0, none⟩ = some (.int .i64 (c : Int)) := b0
    have b1' : (W1.drewN nq).cell? ⟨z, 1, none⟩ = some (.bool false) := b1
    have c0' : (W1.drewN nq).cell? ⟨g, 0, none⟩ = some (.int .u64 (size : Nat)) := c0
    have f0 := R2.frozen 0
    generalize W1.drewN nq = W2 at *
    clear c0 c3 b0 b1 G1 R1
    go_wp2_with fail
    have R3 := (cd_set R2).1 b
    have G3 := grownBy_set (i := 0) G2 (.int .u64 (b : Nat))
    have d0 := cell_far (k := 0) (v := .int .u64 (b : Nat)) hz b0'
    generalize W2.setCell ⟨g, 0, none⟩ (.int .u64 (b : Nat)) = W3 at *
    obtain ⟨_, _, _, c4⟩ := cd_cells R3
    have c3 := c4 c hc
    rw [← CE.out] at c3
    have f3 := R3.frozen (1 + c)
    have H := hide (And.intro R3 G3)
    clear c4 b0' b1' c0' f0 R2 G2 R3 G3
    go_region
    have R4 := (cd_set H.out.1).2.2.2 c p0 hc
    have G4 := grownBy_set (i := 1 + c) H.out.2 (.int .u64 (p0 : Nat))
    go_wp2_with fail
    go_end0
    exact ⟨rfl, R4.drew, grownBy_drew G4⟩
set_option maxRecDepth 100000 in
set_option maxHeartbeats 400000 in
theorem imp_widen_yes (g T size x : Nat) (ch : Nat → Nat) (v : Value) (w : World) (h : size < 16777216) (hr : w.rowIs g T 1603 (cdF size ch x v)) :
    Calls Tryz.prog 119 #[.pointer (some ⟨g, 0, none⟩)] w fun e w' => e = .returned (.bool true) ∧ w'.rowIs g T 1603 (cdF (256 * size) ch x v) ∧ w.grownBy w' (some g) := by
  obtain ⟨c0, _, _, _⟩ := cd_cells hr
  have f0 := hr.frozen 0
  have h' : ¬ (16777216 : Int) ≤ (size : Int) := by omega
  have R1 := (cd_set hr).1 (256 * size)
  have G1 := grownBy_set (i := 0) (grown0 w (some g)) (.int .u64 (256 * size : Nat))
  obtain ⟨s1, e1⟩ : ∃ s1, s1 = 256 * size := ⟨_, rfl⟩
  rw [← e1] at R1 G1 ⊢
  have k1 : IntKind.u64.wrap ((size : Int) * 256) = (s1 : Int) := by rw [IntKind.wrap_u64]; omega
  have k2 : (size : Int) * 256 = (s1 : Int) := by omega
  have H := hide (And.intro R1 G1)
  clear e1 R1 G1 hr
  go_enter Tryz.func119, Tryz.ntmps119
  go_wp2_with fail
  go_ret
  exact ⟨rfl, H.out.1, H.out.2⟩
set_option maxRecDepth 100000 in
set_option maxHeartbeats 400000 in
theorem imp_widen_no (g T size x : Nat) (ch : Nat → Nat) (v : Value) (w : World) (h : ¬ size < 16777216) (hr : w.rowIs g T 1603 (cdF size ch x v)) :
    Calls Tryz.prog 119 #[.pointer (some ⟨g, 0, none⟩)] w fun e w' => e = .returned (.bool false) ∧ w' = w := by
  obtain ⟨c0, _, _, _⟩ := cd_cells hr
  have h' : (16777216 : Int) ≤ (size : Int) := by omega
  clear hr
  go_enter Tryz.func119, Tryz.ntmps119
  go_wp2_with fail
  go_ret
  exact ⟨rfl, rfl⟩
end Go.Proofs.YtconcnndghmdfaaGreatDoor

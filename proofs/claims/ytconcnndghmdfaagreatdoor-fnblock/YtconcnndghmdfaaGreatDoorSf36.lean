/- Put together: PastK, PastP, PastO, AppOld. -/
import Derived.Test.YtconcnndghmdfaaGreatDoorSf35
import Derived.Test.YtconcnndghmdfaaGreatDoorChecked
import Derived.Laws.ResultCell
namespace Go.Proofs.YtconcnndghmdfaaGreatDoor
open Go Go.RowKit
open Go.WideMaps (KeyLaw)
theorem Tryz.laidOutP : laidOutB Tryz.prog = true := by kernel_rfl
theorem Tryz.wideO : (match Tryz.prog.underlying 153 with | some (.array _ _) | some (.struct _) => true | _ => false) = true := by rw [Tryz.underlying153]
set_option maxRecDepth 100000 in
theorem Tryz.lawO : KeyLaw Tryz.prog 153 := deep_law_laid Tryz.laidOutP (m := 2) (by omega) (of_decide_eq_true (by kernel_rfl)) (by kernel_rfl) Tryz.wideO
theorem Tryz.zeroO (w : World) : (zeroValue 160).run Tryz.prog w = .ok (.slice none 0 0) w := by kernel_rfl
theorem Tryz.cellsO : Tryz.prog.cellsOf 153 = 3 := by kernel_rfl
theorem Tryz.cellsU : Tryz.prog.cellsOf 5 = 1 := by kernel_rfl
theorem Tryz.keyTypeO : Tryz.prog.keyType 153 = true := by kernel_rfl
theorem Tryz.typesO : Tryz.prog.types.size + 1 = (269 - 1) + 1 + 1 := by kernel_rfl
theorem Tryz.keyO (f : Nat → UInt8) : ∃ l, keyOf Tryz.prog 153 (kV f) = some l := by
 have e : kV f = .agg #[.int .u8 ((f 0).toNat : Int), .int .u8 ((f 1).toNat : Int), .int .u8 ((f 2).toNat : Int)] := by
  simp [kV, bL, u8V, List.range_succ]
 rw [e]
 have wf : ∀ b : UInt8, (Lit.int .u8 (b.toNat : Int)).wf = true := fun b => by have := b.toNat_lt; have h1 : IntKind.u8.min = 0 := rfl; have h2 : IntKind.u8.max = 255 := rfl; simp [Lit.wf, h1, h2]; omega
 refine ⟨.string (keyBytes [.int .u8 ((f 0).toNat : Int), .int .u8 ((f 1).toNat : Int), .int .u8 ((f 2).toNat : Int)]), ?_⟩
 unfold keyOf
 simp only [Tryz.underlying153]
 rw [if_pos (by simp [Tryz.keyTypeO, Value.formed, Tryz.underlying153, Tryz.cellsO]), Tryz.typesO]
 unfold Program.keyLits
 simp only [Tryz.underlying153, Value.cells]
 rw [if_pos (by rw [Tryz.cellsO]; rfl), show List.range 3 = [0, 1, 2] from rfl, List.mapM_cons, List.mapM_cons, List.mapM_cons, List.mapM_nil]
 simp [Tryz.cellsU, Program.keyLits, Tryz.underlying5, wf]
end Go.Proofs.YtconcnndghmdfaaGreatDoor
namespace Go.Proofs.YtconcnndghmdfaaGreatDoor
open Go Go.RowKit
structure Pst (w : World) (p tb mb N cap : Nat) (T : Nat → UInt8) : Prop where
 c0 : w.cell? ⟨p, 0, none⟩ = some (.slice (some ⟨tb, 0, none⟩) N cap)
 c1 : w.cell? ⟨p, 1, none⟩ = some (.map (some mb))
 row : rowC w tb N T
 cap : N ≤ cap
 lt : p < w.heap.size
theorem Pst.of_blocks {w w' : World} {p tb mb N cap : Nat} {T : Nat → UInt8} (h : Pst w p tb mb N cap T) (hs : w.heap.size ≤ w'.heap.size) (hp : w'.heap[p]? = w.heap[p]?) (ht : w'.heap[tb]? = w.heap[tb]?) : Pst w' p tb mb N cap T :=
 ⟨(World.cell?_of_block (w := w) (a := ⟨p, 0, none⟩) hp).trans h.c0, (World.cell?_of_block (w := w) (a := ⟨p, 1, none⟩) hp).trans h.c1, h.row.of_block (Nat.lt_of_lt_of_le h.row.1 hs) ht, h.cap, Nat.lt_of_lt_of_le h.lt hs⟩
theorem Pst.below {w w' : World} {p tb mb N cap : Nat} {T : Nat → UInt8} (h : Pst w p tb mb N cap T) (hb : Below w.heap.size w w') : Pst w' p tb mb N cap T :=
 h.of_blocks hb.size (hb.block p h.lt) (hb.block tb h.row.1)
theorem Pst.alloc {w : World} {p tb mb N cap : Nat} {T : Nat → UInt8} (h : Pst w p tb mb N cap T) (o : Obj) : Pst (w.alloc o) p tb mb N cap T := h.below ((Below.refl _ _).alloc (Nat.le_refl _) _)
theorem Pst.drew {w : World} {p tb mb N cap : Nat} {T : Nat → UInt8} (h : Pst w p tb mb N cap T) : Pst w.drew p tb mb N cap T := ⟨h.c0, h.c1, h.row.drew, h.cap, h.lt⟩
set_option maxRecDepth 100000 in
set_option maxHeartbeats 800000 in
theorem imp_newPast (t : ByteArray) (w : World) :
 Calls Tryz.prog 81 #[.string t] w fun e w' => ∃ cap, e = .returned (.pointer (some ⟨w.heap.size + 2, 0, none⟩)) ∧ Pst w' (w.heap.size + 2) w.heap.size (w.heap.size + 1) t.size cap (bF t) ∧ w'.heap[w.heap.size + 1]? = some (.map #[] 0) ∧ w'.heap.size = w.heap.size + 3 ∧ Below w.heap.size w w' := by
 have hcv := fun (w : World) => run_bytes_of_string (P := Tryz.prog) w 9 22 5 t Tryz.underlying9 Tryz.underlying22 Tryz.underlying5
 have hmm := @run_makeMap Tryz.prog
 have hcap := grownCap_ge w t.size 0 5
 have hrow0 := hasRow.of_text w w.heap.size 5 (grownCap w t.size 0 5) t hcap (Nat.le_refl _)
 have hbl0 := hide ((Below.refl w.heap.size w).alloc (Nat.le_refl _) (.cells (bytesRow t (grownCap w t.size 0 5)) 5 ((bytesRow t (grownCap w t.size 0 5)).size, (bytesRow t (grownCap w t.size 0 5)).size + 1)))
 have HR0 := hide (rowC.of_text hrow0 (bF_at t t.size rfl))
 have HC := hide hcap
 clear hrow0 hcap
 go_enter Tryz.func81, Tryz.ntmps81
 go_wp2_with fail
 go_ret
 generalize hW : (w.alloc (.cells (bytesRow t (grownCap w t.size 0 5)) 5 ((bytesRow t (grownCap w t.size 0 5)).size, (bytesRow t (grownCap w t.size 0 5)).size + 1))) = W at *
 have hWs : W.heap.size = w.heap.size + 1 := by rw [← hW]; simp
 refine ⟨_, rfl, ⟨?_, ?_, ?_, HC.out, by simp [hWs]⟩, ?_, by simp [hWs], ((hbl0.out.alloc hbl0.out.size _).alloc (by simp; have := hbl0.out.size; omega) _).drew⟩
 · have e : w.heap.size + 2 = (W.alloc (.map #[] 0)).heap.size := by simp [hWs]
   rw [e, World.cell?_drew]; simp
 · have e : w.heap.size + 2 = (W.alloc (.map #[] 0)).heap.size := by simp [hWs]
   rw [e, World.cell?_drew]; simp
 · exact ((HR0.out.alloc _).alloc _).drew
 · show ((W.alloc (.map #[] 0)).alloc _).heap[w.heap.size + 1]? = _
   rw [Below.heap_alloc _ _ _ (by simp [hWs])]
   rw [← hWs]; exact heap_alloc_new W _
set_option maxRecDepth 100000 in
set_option maxHeartbeats 800000 in
theorem imp_cut (p tb mb N cap fr many : Nat) (T : Nat → UInt8) (w : World) (h : Pst w p tb mb N cap T) (hN : N ≤ 4000) (hm1 : 1 ≤ many) (hm : fr + many ≤ N) :
 Calls Tryz.prog 113 #[.pointer (some ⟨p, 0, none⟩), .int .i64 (fr : Int), .int .i64 (many : Int)] w fun e w' => e = .returned (.slice (some ⟨tb, fr, none⟩) many many) ∧ w' = w := by
 have c0 := h.c0
 have hcap := h.cap
 obtain ⟨q, hq⟩ : ∃ q, q = fr + many := ⟨_, rfl⟩
 have s1 : (fr : Int) + (many : Int) = (q : Int) := by omega
 have s1w : IntKind.i64.wrap ((fr : Int) + (many : Int)) = (q : Int) := by simp only [IntKind.wrap_i64]; omega
 have h1 : (fr : Int) ≤ (q : Int) := by omega
 have h2 : (q : Int) ≤ (cap : Int) := by omega
 have h3 : q - fr = many := by omega
 have hq4 : (q : Int) ≤ 4000 := by omega
 have hm0 : many ≠ 0 := by omega
 clear h hm hq
 go_enter Tryz.func113, Tryz.ntmps113
 go_wp2_with fail
 go_ret
 exact ⟨rfl, rfl⟩
def alikeG (A B : Nat → UInt8) : Nat → Nat → Nat
 | 0, n => n
 | k + 1, n => if B n = A n then alikeG A B k (n + 1) else n
set_option maxRecDepth 100000 in
set_option maxHeartbeats 800000 in
theorem imp_alike (tb a b m N : Nat) (T : Nat → UInt8) (w : World) (h : rowC w tb N T) (ha : a + m ≤ N) (hb : b + m ≤ N) (hN : N ≤ 4000) :
 Calls Tryz.prog 115 #[.slice (some ⟨tb, a, none⟩) m m, .slice (some ⟨tb, b, none⟩) m m] w fun e w' => e = .returned (.int .i64 (alikeG (fun j => T (a + j)) (fun j => T (b + j)) m 0 : Nat)) ∧ w' = w := by
 go_enter Tryz.func115, Tryz.ntmps115
 go_wp2_with fail
 go_loopw [9] (fun i wx => ∃ k : Nat, k ≤ m ∧ i = .int .i64 (k : Int) ∧ Hid (alikeG (fun j => T (a + j)) (fun j => T (b + j)) (m - k) k = alikeG (fun j => T (a + j)) (fun j => T (b + j)) m 0) ∧ wx = w) (fun i _ => m - (intOf i).toNat)
 case atStart => exact ⟨0, by omega, rfl, rfl, rfl⟩
 case round =>
  obtain ⟨k, hk, rfl, hl, rfl⟩ := hrel
  by_cases hlt : k < m
  · have hlt' : (k : Int) < (m : Int) := by omega
    have c1 := (h.2 (a + k) (by omega)).1
    have c2 := (h.2 (b + k) (by omega)).1
    have hm4 : (m : Int) ≤ 4000 := by omega
    by_cases he : T (b + k) = T (a + k)
    · have hd : (((T (b + k)).toNat : Int) != ((T (a + k)).toNat : Int)) = false := by rw [he]; simp
      have HL := hide (show alikeG (fun j => T (a + j)) (fun j => T (b + j)) (m - (k + 1)) (k + 1) = alikeG (fun j => T (a + j)) (fun j => T (b + j)) m 0 by
       rw [← hl.out, show m - k = (m - (k + 1)) + 1 by omega]
       show _ = if T (b + k) = T (a + k) then _ else _
       rw [if_pos he])
      clear he hl
      go_wp2_with fail
      go_roundw
      case rel => exact ⟨k + 1, by omega, by go_num, HL, trivial⟩
      case measure => simp [intOf]; omega
    · have hd : (((T (b + k)).toNat : Int) != ((T (a + k)).toNat : Int)) = true := by
       simp only [bne_iff_ne, ne_eq, Int.natCast_inj]
       exact fun e => he (UInt8.toNat_inj.1 e)
      have HL := hide (show alikeG (fun j => T (a + j)) (fun j => T (b + j)) m 0 = k by
       rw [← hl.out, show m - k = (m - (k + 1)) + 1 by omega]
       show (if T (b + k) = T (a + k) then _ else _) = _
       rw [if_neg he])
      clear he hl
      go_wp2_with fail
      go_ret
      exact ⟨by rw [HL.out]; rfl, rfl⟩
  · have hlt' : ¬ (k : Int) < (m : Int) := by omega
    have hm4 : (m : Int) ≤ 4000 := by omega
    have HL := hide (show alikeG (fun j => T (a + j)) (fun j => T (b + j)) m 0 = m by
     rw [← hl.out, show k = m by omega, Nat.sub_self]
     rfl)
    clear hl
    go_wp2_with fail
    go_ret
    exact ⟨by rw [HL.out]; rfl, rfl⟩
theorem Tryz.size3 : (Tryz.prog.info? 153).map (·.size) = some 3 := by kernel_rfl
theorem ret_BT {P : Program} {fn : Func} {p u : Tmp} {ty : TypeId} (h : fn.results = #[.cell p ty, .tmp u]) (tmps : Array Value) (w : World) (g n : Nat) (t : TypeId) (k : Nat → UInt8) (d : TypeDesc)
 (hp : tmps.getD p undef = .pointer (some ⟨g, 0, none⟩)) (hrow : w.rowIs g t n (u8V k)) (hu : P.underlying ty = some d) (hd : d.isRow = true) (hi : (P.info? ty).map (·.size) = some n) :
 (results fn tmps).run P w = .ok (.tuple #[.agg (bL n k).toArray, tmps.getD u undef]) w := by
 rw [results_cell_tmp h, hp]
 simp [asAddr, run_loadVar_row w g t ty _ (0, 0) d (row_heap hrow) hu (by cases d <;> simp_all) (by rw [bL_size]; exact hi), Result.andThen]
def opF (T : Nat → UInt8) (N here j : Nat) : UInt8 := if here + j < N then T (here + j) else 0
set_option maxRecDepth 100000 in
set_option maxHeartbeats 800000 in
theorem imp_openingAt (p tb mb N cap here : Nat) (T : Nat → UInt8) (w : World) (h : Pst w p tb mb N cap T) (hN : N ≤ 4000) (hh : here < N) (ok : Bool) (hok : ok = decide (here + 3 ≤ N)) :
 Calls Tryz.prog 112 #[.pointer (some ⟨p, 0, none⟩), .int .i64 (here : Int)] w fun e w' => e = .returned (.tuple #[.agg (bL 3 (opF T N here)).toArray, .bool ok]) ∧ Below w.heap.size w w' := by
 obtain ⟨m, hm⟩ : ∃ m, m = Nat.min (N - here) 3 := ⟨_, rfl⟩
 have hm3 : m ≤ 3 := by rw [hm]; exact Nat.min_le_right _ _
 have hmN : m ≤ N - here := by rw [hm]; exact Nat.min_le_left _ _
 have hmc : m = 3 ∨ m = N - here := by rw [hm]; show (if N - here ≤ 3 then N - here else 3) = 3 ∨ (if N - here ≤ 3 then N - here else 3) = N - here; split <;> omega
 have hmk : ((m : Int) == 3) = ok := by
  rw [hok]
  by_cases e : here + 3 ≤ N
  · rw [decide_eq_true e]
    have : m = 3 := by omega
    rw [this]; rfl
  · rw [decide_eq_false e, beq_eq_false_iff_ne]
    omega
 have h0 : w.heap.size < w.heap.size + 1 := Nat.lt_succ_self _
 obtain ⟨W, hW⟩ : ∃ W, W = (w.alloc (.cells #[.int .u8 0, .int .u8 0, .int .u8 0] 153)).alloc (.cells #[.int .u8 0, .int .u8 0, .int .u8 0] 153) := ⟨_, rfl⟩
 have r4 : W.rowIs w.heap.size 153 3 (u8V fun _ => 0) := by rw [hW]; exact (zeros8_row 3 w _ _ rfl).alloc _
 have r6 : W.rowIs (w.heap.size + 1) 153 3 (u8V fun _ => 0) := by
  have := zeros8_row 3 (w.alloc (.cells #[.int .u8 0, .int .u8 0, .int .u8 0] 153)) #[.int .u8 0, .int .u8 0, .int .u8 0] 153 rfl
  rw [hW]; simpa using this
 have HP := h
 have hP : Pst W p tb mb N cap T := by rw [hW]; exact (h.alloc _).alloc _
 have hB : Below w.heap.size w W := by rw [hW]; exact ((Below.refl _ w).alloc (Nat.le_refl _) _).alloc (by simp) _
 have hcap := h.cap
 have hhc : (here : Int) ≤ (N : Int) := by omega
 have htb : tb < w.heap.size := h.row.1
 have hpl : p < w.heap.size := h.lt
 clear h hok HP
 go_enter Tryz.func112, Tryz.ntmps112
 go_wp2_with fail
 rw [← hW]
 clear hW
 have c0 : W.drew.cell? ⟨p, 0, none⟩ = some (.slice (some ⟨tb, 0, none⟩) N cap) := hP.c0
 have hne : here < cap := by omega
 have hmin := hide (show m = Nat.min (N - here) 3 from hm)
 have hrg : W.drew.rangeAt tb here (bL m (fun j => T (here + j))) := by
  intro j v hv
  have hj : j < m := by
   rcases Nat.lt_or_ge j m with h | h
   · exact h
   · rw [List.getElem?_eq_none (by rw [bL_len]; exact h)] at hv; cases hv
  have e : (bL m (fun j => T (here + j)))[j]? = some (u8V (fun j => T (here + j)) j) := by simp [bL, hj]
  rw [e] at hv
  rw [← Option.some.inj hv]
  exact (hP.row.drew.2 (here + j) (by omega)).1
 have hth := row_there (w := W.drew) (o := 0) (n := m) r6 (by omega)
 have hnc : cap - here ≠ 0 := by omega
 have c0' : (W.drew.setCells (w.heap.size + 1) 0 (bL m (fun j => T (here + j)))).cell? ⟨p, 0, none⟩ = some (.slice (some ⟨tb, 0, none⟩) N cap) :=
  (World.cell?_of_block (w := W.drew) (a := ⟨p, 0, none⟩) (setCells_far (w.heap.size + 1) _ 0 W.drew p (by omega))).trans c0
 clear hm
 refine wp_region_held_drew (S := fun w' => w'.cell? ⟨p, 0, none⟩ = some (.slice (some ⟨tb, 0, none⟩) N cap)) (by kernel_rfl) c0 (fun hHeld => ?_)
 refine takeD (i := 0) (v := .slice (some ⟨w.heap.size + 1, 0, none⟩) 3 3) (some 8) rfl rfl (by kernel_rfl) (by kernel_rfl) (by kernel_rfl) (fun _ _ _ h => h) (Or.inl ⟨by rfl, fun w hSw => by go_simp⟩) hHeld ?_
 simp only [Act.put, List.setIfInBounds_toArray, List.set_cons_zero, List.set_cons_succ]
 refine takeD (i := 1) (v := .pointer (some ⟨p, 0, none⟩)) (some 9) rfl rfl (by kernel_rfl) (by kernel_rfl) (by kernel_rfl) (fun _ _ _ h => h) (Or.inl ⟨by rfl, fun w hSw => by go_simp⟩) hHeld ?_
 simp only [Act.put, List.setIfInBounds_toArray, List.set_cons_zero, List.set_cons_succ]
 refine takeD (i := 2) (v := .pointer (some ⟨p, 0, none⟩)) (some 10) rfl rfl (by kernel_rfl) (by kernel_rfl) (by kernel_rfl) (fun _ _ _ h => h) (Or.inl ⟨by rfl, fun w hSw => by go_simp⟩) hHeld ?_
 simp only [Act.put, List.setIfInBounds_toArray, List.set_cons_zero, List.set_cons_succ]
 refine takeD (i := 3) (v := .pointer (some ⟨p, 0, none⟩)) (some 11) rfl rfl (by kernel_rfl) (by kernel_rfl) (by kernel_rfl) (fun _ _ _ h => h) (Or.inl ⟨by rfl, fun w hSw => by go_simp⟩) hHeld ?_
 simp only [Act.put, List.setIfInBounds_toArray, List.set_cons_zero, List.set_cons_succ]
 refine takeD (i := 4) (v := .slice (some ⟨tb, 0, none⟩) N cap) (some 12) rfl rfl (by kernel_rfl) (by kernel_rfl) (by kernel_rfl) (fun _ _ _ h => h) (Or.inl ⟨by rfl, fun w hSw => by go_simp⟩) hHeld ?_
 simp only [Act.put, List.setIfInBounds_toArray, List.set_cons_zero, List.set_cons_succ]
 refine takeD (i := 5) (v := .int .i64 (here : Int)) (some 13) rfl rfl (by kernel_rfl) (by kernel_rfl) (by kernel_rfl) (fun _ _ _ h => h) (Or.inl ⟨by rfl, fun w hSw => by go_simp⟩) hHeld ?_
 simp only [Act.put, List.setIfInBounds_toArray, List.set_cons_zero, List.set_cons_succ]
 refine takeD (i := 6) (v := .slice (some ⟨tb, here, none⟩) (N - here) (cap - here)) (some 14) rfl rfl (by kernel_rfl) (by kernel_rfl) (by kernel_rfl) (fun _ _ _ h => h) (Or.inl ⟨by rfl, fun w hSw => by go_simp; omega⟩) hHeld ?_
 simp only [Act.put, List.setIfInBounds_toArray, List.set_cons_zero, List.set_cons_succ]
 refine wpAnyH_ready (rs := [7]) (by kernel_rfl) (by simp) ?_
 refine AllReadyH.cons rfl (fun KK hK => ?_) AllReadyH.nil
 refine step_copy_BD (some 15) rfl rfl (.tmp 8) (.tmp 14) 22 22 rfl 5 Tryz.underlying22 (by kernel_rfl) (w.heap.size + 1) 0 3 3 tb here (N - here) (cap - here) rfl rfl m (fun j => T (here + j)) hmin.out hrg hth ?_
 simp only [Act.put, List.setIfInBounds_toArray, List.set_cons_zero, List.set_cons_succ]
 refine hK.out _ _ c0' (fun hHeld => ?_)
 clear hK KK
 refine takeD (i := 8) (v := goInt m) (some 7) rfl rfl (by kernel_rfl) (by kernel_rfl) (by kernel_rfl) (fun _ _ _ h => h) (Or.inl ⟨by rfl, fun w hSw => by go_simp⟩) hHeld ?_
 simp only [Act.put, List.setIfInBounds_toArray, List.set_cons_zero, List.set_cons_succ]
 refine wpAnyH_done (by kernel_rfl) ?_ _
 have s4 := row_setCells_other (b := w.heap.size + 1) (o := 0) (vs := bL m (fun j => T (here + j))) r4.drew (by omega)
 have s6 := (row_setCells (o := 0) (n := m) (k := fun j => T (here + j)) r6.drew (by omega)).congr (g := u8V (opF T N here)) (fun i hi => by
  show Value.int .u8 _ = Value.int .u8 _
  congr 3
  show (if 0 ≤ i ∧ i < 0 + m then T (here + (i - 0)) else 0) = if here + i < N then T (here + i) else 0
  by_cases e : i < m
  · rw [if_pos (show 0 ≤ i ∧ i < 0 + m by omega), if_pos (show here + i < N by omega), Nat.sub_zero]
  · rw [if_neg (show ¬ (0 ≤ i ∧ i < 0 + m) by omega), if_neg (show ¬ here + i < N by omega)])
 have sb := below_setCells' (b := w.heap.size + 1) (o := 0) (vs := bL m (fun j => T (here + j))) hB.drew (by omega)
 generalize W.drew.setCells (w.heap.size + 1) 0 (bL m (fun j => T (here + j))) = W5 at *
 clear r4 r6 hrg hth hmin c0 c0' hP hB
 have hth := row_there (o := 0) (n := 3) s4 (by omega)
 have hfin := row_setCells0 (k := opF T N here) s4
 obtain ⟨K, hK⟩ : ∃ K, K = opF T N here := ⟨_, rfl⟩
 rw [← hK] at s6 hfin
 have HK := hide hK
 clear hK hHeld
 go_wp2_with (first | (refine wpList_load_B rfl 153 (.tmp 6) rfl (w.heap.size + 1) 0 rfl _ _ 3 _ K _ s6 (by omega) (fun j _ => by rw [Nat.zero_add]) Tryz.underlying153 rfl Tryz.size3 ?_) | (refine wpList_store_B rfl 153 (.tmp 4) (.tmp 16) rfl w.heap.size 0 3 K rfl rfl hth Tryz.size3 ?_))
 exact bodyPost_ret (ret_BT Tryz.results112 _ _ w.heap.size 3 _ _ _ rfl hfin Tryz.underlying153 rfl Tryz.size3) rfl ⟨by rw [← HK.out]; rfl, below_setCells' sb (Nat.le_refl _)⟩
end Go.Proofs.YtconcnndghmdfaaGreatDoor
namespace Go.Proofs.YtconcnndghmdfaaGreatDoor
open Go.RowKit Go
section
variable {P : Program} (w : World)
theorem run_append_old (t ty : TypeId) (base : Nat) (e : TypeId) (i : TypeInfo) (z : Value) (bytes : Nat) (ht : P.underlying t = some (.slice e)) (hi : P.info? e = some i) (hz : i.zero = some z)
 (hsize : i.size = 1) (hby : i.bytes = bytes) (hzs : z.cells.size = 1)
 (g0 cap0 n : Nat) (xs : List Value) (hown : w.ownsRow base e 1 (.slice (some ⟨g0, 0, none⟩) n cap0) n xs)
 (ad : Addr) (c : Nat) (x : Value) (hx : w.cell? (ad.add 0) = some x) (h1 : x.oneCell' = true)
 (h63 : n + 1 ≤ maxLen) (hbytes : (n + 1) * bytes ≤ 140737488355328) (hbase : base ≤ w.heap.size) (H : Nat) (hH : w.heap.size = H) :
 ∃ g cap w', (Builtin.append_ #[t, t] ty #[.slice (some ⟨g0, 0, none⟩) n cap0, .slice (some ad) 1 c]).run P w = .ok (.slice (some ⟨g, 0, none⟩) (n + 1) cap) w' ∧
  w'.ownsRow base e 1 (.slice (some ⟨g, 0, none⟩) (n + 1) cap) (n + 1) (xs ++ [x]) ∧ w.grownBy w' (some g0) ∧ (g0 = g ∨ g = H) ∧ g < w'.heap.size ∧ ∀ j, j < n → w'.cell? ⟨g0, j, none⟩ = w.cell? ⟨g0, j, none⟩ := by
 have hnews : ∀ j u, [x][j]? = some u → w.cell? (ad.add j) = some u := by
  intro j u hj
  match j, hj with
  | 0, hj => simp at hj; subst hj; exact hx
 have hone : ∀ u ∈ [x], u.oneCell' = true := by intro u hu; simp at hu; subst hu; exact h1
 obtain ⟨g, cap, w', hr, h2, h3, h4, h5⟩ := run_append_lies (P := P) w t ty base e i z 1 bytes ht hi hz hsize hby hzs (by decide) _ n xs hown ad 1 c [x] rfl hnews hone (by decide) h63 hbytes hbase H hH
 refine ⟨g, cap, w', hr, h2, h3, ?_, h5, ?_⟩
 · rcases h4 with h | h
   · exact .inl (by simpa [Value.ownBlock] using h)
   · exact .inr h
 have hlt := (hown.lt g0 rfl).2
 rcases h4 with h | h
 · have e0 : g0 = g := by simpa [Value.ownBlock] using h
   subst e0
   intro j hj
   have hxl : xs.length = n := by have := hown.1; omega
   rw [h2.cellAt j (by omega), hown.cellAt j (by omega), List.getElem?_append_left (by omega)]
 · intro j hj
   obtain ⟨_, ⟨e0, _⟩ | ⟨g1, cap1, cur, e1, hbg, hg, hnc, hcm, hcs, htake⟩⟩ := hown
   · cases e0
   have e2 : g1 = g0 ∧ cap1 = cap0 := by
    have := e1
    simp at this
    exact ⟨this.1.symm, this.2.symm⟩
   obtain ⟨rfl, rfl⟩ := e2
   by_cases hroom : n + 1 ≤ cap1
   · have hr2 := run_append_room (P := P) w t ty e i ht hi g1 n cap1 cur hg ad 1 c [x] (by rw [hsize]; rfl) hnews hone hroom (by rw [hsize, hcs]; show n * 1 + 1 ≤ cap1 * 1; omega)
     rw [hr2] at hr
     have e3 := (Result.ok.inj hr).1
     have e4 : g1 = g := by simpa [Value.ownBlock] using congrArg Value.ownBlock e3
     omega
   · have hxl : xs.length = n * i.size := by rw [← htake, hsize, List.length_take, Array.length_toList, hcs]; omega
     have hr2 := run_append_grow (P := P) w t ty e i z ht hi hz ⟨g1, 0, none⟩ n cap1 xs hxl (World.ownsRow.cells (g := g1) (w := w) (base := base) (e := e) (size := 1) (n := n) (v := .slice (some ⟨g1, 0, none⟩) n cap1) ⟨by rw [hxl, hsize], .inr ⟨g1, cap1, cur, rfl, hbg, hg, hnc, hcm, hcs, htake⟩⟩ rfl) ad 1 c [x] (by rw [hsize]; rfl) hnews (by omega) (by unfold maxLen at h63; omega) (growslice_fits (by omega) (by rw [hby]; exact hbytes))
     rw [hr2] at hr
     have hw := (Result.ok.inj hr).2
     rw [← hw]
     exact World.cell?_of_block (w := w) (a := ⟨g1, j, none⟩) (Below.heap_alloc w.drew _ g1 (show g1 < w.drew.heap.size from hlt))
theorem wpList_append_old {ops : Array Oper} {rest : List Oper} {o : Oper} {a : Act} {Q : Exit → Act → World → Prop} (hgd : o.guard = none) (s x : Operand) (t : TypeId)
 (ho : o.op = .call { callee := .builtin .append, args := #[s, x], argTypes := #[t, t] })
 (base : Nat) (e : TypeId) (i : TypeInfo) (z : Value) (bytes : Nat) (ht : P.underlying t = some (.slice e)) (hi : P.info? e = some i) (hz : i.zero = some z)
 (hsize : i.size = 1) (hby : i.bytes = bytes) (hzs : z.cells.size = 1)
 (g0 cap0 n : Nat) (xs : List Value) (hs : a.eval s = .slice (some ⟨g0, 0, none⟩) n cap0) (hown : w.ownsRow base e 1 (.slice (some ⟨g0, 0, none⟩) n cap0) n xs)
 (ad : Addr) (c : Nat) (u : Value) (hx : a.eval x = .slice (some ad) 1 c) (hu : w.cell? (ad.add 0) = some u) (h1 : u.oneCell' = true)
 (h63 : n + 1 ≤ maxLen) (hbytes : (n + 1) * bytes ≤ 140737488355328) (hbase : base ≤ w.heap.size) (H : Nat) (hH : w.heap.size = H)
 (h : ∀ g cap w', w'.ownsRow base e 1 (.slice (some ⟨g, 0, none⟩) (n + 1) cap) (n + 1) (xs ++ [u]) → w.grownBy w' (some g0) → (g0 = g ∨ g = H) → g < w'.heap.size → (∀ j, j < n → w'.cell? ⟨g0, j, none⟩ = w.cell? ⟨g0, j, none⟩) → wpList P ops Q rest (a.put o.dst (.slice (some ⟨g, 0, none⟩) (n + 1) cap)) w') : wpList P ops Q (o :: rest) a w := by
 refine wpList_plain hgd fun K hK => ?_
 obtain ⟨g, cap, w', hr, h2, h3, h4, h5, h6⟩ := run_append_old (P := P) w t o.type base e i z bytes ht hi hz hsize hby hzs g0 cap0 n xs hown ad c u hu h1 h63 hbytes hbase H hH
 unfold Oper.wp execOp
 simp only [ho, resolve, invoke, builtin, Sem.run_bind, Sem.run_pure, Result.andThen_ok, List.map_toArray, List.map_cons, List.map_nil, hs, hx, hr]
 exact hK _ _ (h g cap w' h2 h3 h4 h5 h6)
end
end Go.Proofs.YtconcnndghmdfaaGreatDoor

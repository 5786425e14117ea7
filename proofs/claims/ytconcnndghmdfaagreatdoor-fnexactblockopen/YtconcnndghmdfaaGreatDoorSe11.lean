/- Put together: MatchG, RangeS. -/
import Derived.Test.YtconcnndghmdfaaGreatDoorSe10
import Derived.Test.YtconcnndghmdfaaGreatDoorSe9
import Derived.Test.YtconcnndghmdfaaGreatDoorSe6
import Derived.Test.YtconcnndghmdfaaGreatDoorRows
import Derived.Test.YtconcnndghmdfaaGreatDoorSe5
import Derived.OwnWalk
import Derived.Deep.AppendLies
import Derived.BigRegion
import Derived.BigQuiet
import Derived.Deep.RegionHeld3
namespace Go.Proofs.YtconcnndghmdfaaGreatDoor
open Go.RowKit
theorem Tryz.infoTok : (Tryz.prog.info? 80).map (fun i => (i.zero, i.size, i.bytes)) = some (some (.agg #[.int .i64 0, .int .i64 0, .int .i64 0]), 3, 24) := by kernel_rfl
/-- Parse. -/
def parS (t : ByteArray) : List Tok := if t.size ≤ 4000 then parseL (bF t) t.size else []
theorem parS_len (t : ByteArray) : (parS t).length ≤ 4000 ∧ (parS t).length ≤ t.size := by
  unfold parS
  split
  · have := parseG_len (bF t) t.size t.size 0
    exact ⟨by show (parseG (bF t) t.size t.size 0).length ≤ 4000; omega, by show (parseG (bF t) t.size t.size 0).length ≤ _; omega⟩
  · exact ⟨Nat.zero_le _, Nat.zero_le _⟩
set_option maxRecDepth 100000 in
set_option maxHeartbeats 1600000 in
theorem spec_parse0 (t : ByteArray) (w : World) (hN : t.size ≤ 4000) :
    Calls Tryz.prog 95 #[.string t] w fun e w' => ∃ v, e = .returned v ∧ w'.ownsRow w.heap.size 80 3 v (parseL (bF t) t.size).length (tokC (parseL (bF t) t.size)) ∧ Below w.heap.size w w' := by
  obtain ⟨i0, hi, hz0, hz1, hz2⟩ := info_parts Tryz.infoTok
  have hown0 := (show (w.alloc (.cells #[] 80)).ownsRow w.heap.size 80 3 (.slice (some ⟨w.heap.size, 0, none⟩) 0 0) 0 [] by
    have h := World.ownsRow_made (e := 80) (size := 3) (base := w.heap.size) w #[] 0 (Nat.le_refl _) (by decide) (by simp)
    simpa using h)
  have hb0 := hide ((Below.refl w.heap.size w).alloc (Nat.le_refl _) (.cells #[] 80))
  go_enter Tryz.func95, Tryz.ntmps95
  go_wp2_with fail
  generalize w.alloc (.cells #[] 80) = W0 at *
  go_loopw [3, 4] (fun ov i wx => ∃ (p : Nat) (l : List Tok), p ≤ t.size ∧ i = .int .i64 p ∧ wx.ownsRow w.heap.size 80 3 ov l.length (tokC l) ∧ l.length ≤ p ∧ Hid (l ++ parseG (bF t) t.size (t.size - p) p = parseL (bF t) t.size) ∧ Hid (Below w.heap.size w wx)) (fun _ i _ => t.size - (intOf i).toNat)
  case atStart => exact ⟨0, [], by omega, rfl, hown0, Nat.le_refl _, rfl, hb0⟩
  case round =>
    clear hown0 hb0
    obtain ⟨p, l, hp, rfl, hown, hlp, hpl, hbl⟩ := hrel
    by_cases hlt : p < t.size
    · have hlt' : (p : Int) < (t.size : Int) := by omega
      obtain ⟨K, hK⟩ : ∃ K, K = min 1024 p := ⟨_, rfl⟩
      have HPB := hide (show bestAt (bF t) t.size p = best (bF t) t.size p K by rw [hK]; rfl)
      have HOWN := hide hown
      have hws := hbl.out.size
      clear hown
      go_wp2_with fail
      go_loopw [5, 6, 7] (fun m f i wx => ∃ j : Nat, j ≤ K ∧ i = .int .i64 ((j : Int) + 1) ∧ m = .int .i64 ((best (bF t) t.size p j).1 : Nat) ∧ f = .int .i64 ((best (bF t) t.size p j).2 : Nat) ∧ Hid (Below wr.heap.size wr wx)) (fun _ _ i _ => 1025 - (intOf i).toNat)
      case atStart => exact ⟨0, by omega, rfl, rfl, rfl, Below.refl _ _⟩
      case round =>
        obtain ⟨j, hj, rfl, rfl, rfl, hbi⟩ := hrel
        obtain ⟨m, hm⟩ : ∃ m, m = (best (bF t) t.size p j).1 := ⟨_, rfl⟩
        obtain ⟨f, hf⟩ : ∃ f, f = (best (bF t) t.size p j).2 := ⟨_, rfl⟩
        have hm66 : m ≤ 66 := by
          rcases best_is (bF t) t.size p j with e | ⟨_, _, _, e, _⟩
          · rw [hm, e]; exact Nat.zero_le _
          · rw [hm, e]; exact long_le _ _ _ _
        have hfj : f ≤ j := by
          rcases best_is (bF t) t.size p j with e | ⟨_, e, _⟩
          · rw [hf, e]; exact Nat.zero_le _
          · rw [hf]; exact e
        rw [← hm, ← hf]
        have HMF := hide (show best (bF t) t.size p j = (m, f) from Prod.ext hm.symm hf.symm)
        clear hm hf
        by_cases hjK : j < K
        · have g1 : (j : Int) + 1 ≤ 1024 := by omega
          have d1 : decide ((j : Int) + 1 ≤ 1024) = true := decide_eq_true g1
          have g2 : (j : Int) + 1 ≤ (p : Int) := by omega
          have d2 : decide ((j : Int) + 1 ≤ (p : Int)) = true := decide_eq_true g2
          obtain ⟨n, hn⟩ : ∃ n, n = long (bF t) t.size p (j + 1) := ⟨_, rfl⟩
          have SL := hide (fun w => spec_long t p (j + 1) w (by omega) hp (by omega) (by omega))
          rw [← hn] at SL
          have hn66 : n ≤ 66 := by rw [hn]; exact long_le _ _ _ _
          have HBN := hide (show best (bF t) t.size p (j + 1) = if m < n then (n, j + 1) else (m, f) by
            show (if (best (bF t) t.size p j).1 < long (bF t) t.size p (j + 1) then _ else _) = _
            rw [HMF.out, ← hn])
          have hjc : ((j + 1 : Nat) : Int) = (j : Int) + 1 := by omega
          rw [hjc] at SL
          clear hn HMF hjc
          go_wp2_with fail
          refine (SL.out _).mono ?_
          rintro e w2 ⟨rfl, hb2⟩
          have B2 := hide (hbi.out.trans (hb2.mono hbi.out.size))
          clear SL hb2 hbi
          by_cases hmn : m < n
          · have hmn' : (m : Int) < (n : Int) := by omega
            rw [if_pos hmn] at HBN
            go_wp2_with fail
            go_roundw
            case rel => exact ⟨j + 1, by omega, by go_num, by rw [HBN.out], by rw [HBN.out]; show Value.int .i64 ((j : Int) + 1) = .int .i64 ((j + 1 : Nat) : Int); congr 1, B2⟩
            case measure => simp [intOf]; omega
          · have hmn' : ¬ (m : Int) < (n : Int) := by omega
            rw [if_neg hmn] at HBN
            go_wp2_with fail
            go_roundw
            case rel => exact ⟨j + 1, by omega, by go_num, by rw [HBN.out], by rw [HBN.out], B2⟩
            case measure => simp [intOf]; omega
        · have hjK2 : j = K := by omega
          have HBA := hide (show bestAt (bF t) t.size p = (m, f) by rw [HPB.out, ← hjK2]; exact HMF.out)
          have HO := hide (HOWN.out.kept (below_grownBy hbi.out) (Classical.em _))
          have HBW := hide (hbl.out.trans (hbi.out.mono hws))
          have hbs9 := HBW.out.size
          clear HOWN hbi HMF HPB hbl
          by_cases hp1 : 1024 ≤ p
          · have g1 : ¬ (j : Int) + 1 ≤ 1024 := by omega
            have d1 : decide ((j : Int) + 1 ≤ 1024) = false := decide_eq_false g1
            clear hK hjK hjK2
            by_cases hm3 : m < 3
            · have hm3' : (m : Int) < 3 := by omega
              have hb := bF_getM t p hlt
              obtain ⟨x, hx⟩ : ∃ x, x = (bF t p).toNat := ⟨_, rfl⟩
              rw [← hx] at hb
              have hx8 : x < 256 := by rw [hx]; exact (bF t p).toNat_lt
              have hw8 : IntKind.i64.wrap (x : Int) = (x : Int) := by simp only [IntKind.wrap_i64]; omega
              have HPN := hide (show (l ++ [(⟨(x : Int), 0, 0⟩ : Tok)]) ++ parseG (bF t) t.size (t.size - (p + 1)) (p + 1) = parseL (bF t) t.size by
                rw [← hpl.out, show t.size - p = (t.size - (p + 1)) + 1 by omega, parseG_step (bF t) t.size _ p hlt, tokAt, stepAt, HBA.out, if_pos hm3, if_pos hm3, hx, List.append_assoc]; rfl)
              clear hx hpl HBA
              go_wp2_with (at_builtin; refine wpList_append_lies _ rfl _ _ 131 rfl w.heap.size 80 i0 (.agg #[.int .i64 0, .int .i64 0, .int .i64 0]) 3 24 Tryz.underlying131 hi hz0 hz1 hz2 rfl (by omega) u3 l.length (tokC l) rfl (HO.out.alloc _) ⟨wr.heap.size, 0, none⟩ 1 1 [.int .i64 (x : Int), .int .i64 0, .int .i64 0] rfl rfl (tri_cells _ _ _ _ _ _ rfl) (tri_one _ _ _) (by omega) (by unfold maxLen; omega) (by omega) (by simp; omega) (wr.heap.size + 1) (by simp) ?_)
              intro g' cap' w9 hown' hg' _ _
              have R1 : w9.ownsRow w.heap.size 80 3 (.slice (some ⟨g', 0, none⟩) (l.length + 1) cap') (l ++ [(⟨(x : Int), 0, 0⟩ : Tok)]).length (tokC (l ++ [(⟨(x : Int), 0, 0⟩ : Tok)])) := by
                rw [tokC_snoc, List.length_append]; exact hown'
              have R2 := hide ((HBW.out.alloc hbs9 _).grown hg' (by simp; omega) (fun x hx => (HO.out.lt x hx).1))
              clear hown' hg' HO HBW
              go_wp2_with fail
              go_roundw
              case rel => exact ⟨p + 1, l ++ [(⟨(x : Int), 0, 0⟩ : Tok)], by omega, by go_num, R1, by simp; omega, HPN, R2⟩
              case measure => simp [intOf]; omega
            · have hm3' : ¬ (m : Int) < 3 := by omega
              have hfa := bestAt_facts (bF t) t.size p (by rw [HBA.out]; exact hm3)
              rw [HBA.out] at hfa
              have hpm : p + m ≤ t.size := hfa.2.2.2.2.1
              have hpm' : (p : Int) + (m : Int) ≤ 4000 := by omega
              have HPN := hide (show (l ++ [(⟨0, (m : Int), (f : Int)⟩ : Tok)]) ++ parseG (bF t) t.size (t.size - (p + m)) (p + m) = parseL (bF t) t.size by
                rw [← hpl.out, show t.size - p = (t.size - (p + 1)) + 1 by omega, parseG_step (bF t) t.size _ p hlt, tokAt, stepAt, HBA.out, if_neg hm3, if_neg hm3, List.append_assoc, parseG_fuel (bF t) t.size (t.size - (p + 1)) (t.size - (p + m)) (p + m) (by omega) (by omega)]; rfl)
              clear hfa hpl HBA
              go_wp2_with (at_builtin; refine wpList_append_lies _ rfl _ _ 131 rfl w.heap.size 80 i0 (.agg #[.int .i64 0, .int .i64 0, .int .i64 0]) 3 24 Tryz.underlying131 hi hz0 hz1 hz2 rfl (by omega) u3 l.length (tokC l) rfl (HO.out.alloc _) ⟨wr.heap.size, 0, none⟩ 1 1 [.int .i64 0, .int .i64 (m : Int), .int .i64 (f : Int)] rfl rfl (tri_cells _ _ _ _ _ _ rfl) (tri_one _ _ _) (by omega) (by unfold maxLen; omega) (by omega) (by simp; omega) (wr.heap.size + 1) (by simp) ?_)
              intro g' cap' w9 hown' hg' _ _
              have R1 : w9.ownsRow w.heap.size 80 3 (.slice (some ⟨g', 0, none⟩) (l.length + 1) cap') (l ++ [(⟨0, (m : Int), (f : Int)⟩ : Tok)]).length (tokC (l ++ [(⟨0, (m : Int), (f : Int)⟩ : Tok)])) := by
                rw [tokC_snoc, List.length_append]; exact hown'
              have R2 := hide ((HBW.out.alloc hbs9 _).grown hg' (by simp; omega) (fun x hx => (HO.out.lt x hx).1))
              clear hown' hg' HO HBW
              go_wp2_with fail
              go_roundw
              case rel => exact ⟨p + m, l ++ [(⟨0, (m : Int), (f : Int)⟩ : Tok)], by omega, by go_num, R1, by simp; omega, HPN, R2⟩
              case measure => simp [intOf]; omega
          · have g1 : (j : Int) + 1 ≤ 1024 := by omega
            have d1 : decide ((j : Int) + 1 ≤ 1024) = true := decide_eq_true g1
            have g2 : ¬ (j : Int) + 1 ≤ (p : Int) := by omega
            have d2 : decide ((j : Int) + 1 ≤ (p : Int)) = false := decide_eq_false g2
            clear hK hjK hjK2
            by_cases hm3 : m < 3
            · have hm3' : (m : Int) < 3 := by omega
              have hb := bF_getM t p hlt
              obtain ⟨x, hx⟩ : ∃ x, x = (bF t p).toNat := ⟨_, rfl⟩
              rw [← hx] at hb
              have hx8 : x < 256 := by rw [hx]; exact (bF t p).toNat_lt
              have hw8 : IntKind.i64.wrap (x : Int) = (x : Int) := by simp only [IntKind.wrap_i64]; omega
              have HPN := hide (show (l ++ [(⟨(x : Int), 0, 0⟩ : Tok)]) ++ parseG (bF t) t.size (t.size - (p + 1)) (p + 1) = parseL (bF t) t.size by
                rw [← hpl.out, show t.size - p = (t.size - (p + 1)) + 1 by omega, parseG_step (bF t) t.size _ p hlt, tokAt, stepAt, HBA.out, if_pos hm3, if_pos hm3, hx, List.append_assoc]; rfl)
              clear hx hpl HBA
              go_wp2_with (at_builtin; refine wpList_append_lies _ rfl _ _ 131 rfl w.heap.size 80 i0 (.agg #[.int .i64 0, .int .i64 0, .int .i64 0]) 3 24 Tryz.underlying131 hi hz0 hz1 hz2 rfl (by omega) u3 l.length (tokC l) rfl (HO.out.alloc _) ⟨wr.heap.size, 0, none⟩ 1 1 [.int .i64 (x : Int), .int .i64 0, .int .i64 0] rfl rfl (tri_cells _ _ _ _ _ _ rfl) (tri_one _ _ _) (by omega) (by unfold maxLen; omega) (by omega) (by simp; omega) (wr.heap.size + 1) (by simp) ?_)
              intro g' cap' w9 hown' hg' _ _
              have R1 : w9.ownsRow w.heap.size 80 3 (.slice (some ⟨g', 0, none⟩) (l.length + 1) cap') (l ++ [(⟨(x : Int), 0, 0⟩ : Tok)]).length (tokC (l ++ [(⟨(x : Int), 0, 0⟩ : Tok)])) := by
                rw [tokC_snoc, List.length_append]; exact hown'
              have R2 := hide ((HBW.out.alloc hbs9 _).grown hg' (by simp; omega) (fun x hx => (HO.out.lt x hx).1))
              clear hown' hg' HO HBW
              go_wp2_with fail
              go_roundw
              case rel => exact ⟨p + 1, l ++ [(⟨(x : Int), 0, 0⟩ : Tok)], by omega, by go_num, R1, by simp; omega, HPN, R2⟩
              case measure => simp [intOf]; omega
            · have hm3' : ¬ (m : Int) < 3 := by omega
              have hfa := bestAt_facts (bF t) t.size p (by rw [HBA.out]; exact hm3)
              rw [HBA.out] at hfa
              have hpm : p + m ≤ t.size := hfa.2.2.2.2.1
              have hpm' : (p : Int) + (m : Int) ≤ 4000 := by omega
              have HPN := hide (show (l ++ [(⟨0, (m : Int), (f : Int)⟩ : Tok)]) ++ parseG (bF t) t.size (t.size - (p + m)) (p + m) = parseL (bF t) t.size by
                rw [← hpl.out, show t.size - p = (t.size - (p + 1)) + 1 by omega, parseG_step (bF t) t.size _ p hlt, tokAt, stepAt, HBA.out, if_neg hm3, if_neg hm3, List.append_assoc, parseG_fuel (bF t) t.size (t.size - (p + 1)) (t.size - (p + m)) (p + m) (by omega) (by omega)]; rfl)
              clear hfa hpl HBA
              go_wp2_with (at_builtin; refine wpList_append_lies _ rfl _ _ 131 rfl w.heap.size 80 i0 (.agg #[.int .i64 0, .int .i64 0, .int .i64 0]) 3 24 Tryz.underlying131 hi hz0 hz1 hz2 rfl (by omega) u3 l.length (tokC l) rfl (HO.out.alloc _) ⟨wr.heap.size, 0, none⟩ 1 1 [.int .i64 0, .int .i64 (m : Int), .int .i64 (f : Int)] rfl rfl (tri_cells _ _ _ _ _ _ rfl) (tri_one _ _ _) (by omega) (by unfold maxLen; omega) (by omega) (by simp; omega) (wr.heap.size + 1) (by simp) ?_)
              intro g' cap' w9 hown' hg' _ _
              have R1 : w9.ownsRow w.heap.size 80 3 (.slice (some ⟨g', 0, none⟩) (l.length + 1) cap') (l ++ [(⟨0, (m : Int), (f : Int)⟩ : Tok)]).length (tokC (l ++ [(⟨0, (m : Int), (f : Int)⟩ : Tok)])) := by
                rw [tokC_snoc, List.length_append]; exact hown'
              have R2 := hide ((HBW.out.alloc hbs9 _).grown hg' (by simp; omega) (fun x hx => (HO.out.lt x hx).1))
              clear hown' hg' HO HBW
              go_wp2_with fail
              go_roundw
              case rel => exact ⟨p + m, l ++ [(⟨0, (m : Int), (f : Int)⟩ : Tok)], by omega, by go_num, R1, by simp; omega, HPN, R2⟩
              case measure => simp [intOf]; omega
    · have hlt' : ¬ (p : Int) < (t.size : Int) := by omega
      have e := hpl.out
      rw [parseG_end (bF t) t.size _ p hlt, List.append_nil] at e
      have HO := hide (show wr.ownsRow w.heap.size 80 3 u3 (parseL (bF t) t.size).length (tokC (parseL (bF t) t.size)) by rw [← e]; exact hown)
      clear hown hpl e
      go_wp2_with fail
      go_ret
      exact ⟨_, rfl, HO.out, hbl.out⟩
end Go.Proofs.YtconcnndghmdfaaGreatDoor
namespace Go.Proofs.YtconcnndghmdfaaGreatDoor
open Go.RowKit
def u64V (f : Nat → Nat) (j : Nat) : Value := .int .u64 (f j : Nat)
theorem set_u64 {wr : World} {g t n k : Nat} {f : Nat → Nat} {X : Nat} (h : wr.rowIs g t n (u64V f)) : (wr.setCell ⟨g, k, none⟩ (.int .u64 (X : Int))).rowIs g t n (u64V fun j => if j = k then X else f j) := by
  refine (h.set k _).congr ?_
  intro i _
  simp only [u64V]
  split <;> rfl
theorem Tryz.infoU64 : (Tryz.prog.info? 58).map (fun i => (i.zero, i.size, i.bytes)) = some (some (.int .u64 0), 1, 8) := by kernel_rfl
set_option maxRecDepth 100000 in
set_option maxHeartbeats 400000 in
theorem spec_chances (w : World) :
    Calls Tryz.prog 124 #[] w fun e w' => e = .returned (.slice (some ⟨w.heap.size, 0, none⟩) 1600 1600) ∧ w'.rowIs w.heap.size 58 1600 (u64V fun _ => 1024) ∧ Below w.heap.size w w' := by
  have hmk : ∀ w : World, (Instr.makeSlice 168 (.int .i64 1600) (.int .i64 1600)).run Tryz.prog w = .ok (.slice (some ⟨w.heap.size, 0, none⟩) 1600 1600) (w.alloc (.cells (madeCells #[.int .u64 0] 1600) 58)) := run_make_row' (P := Tryz.prog) 168 58 (.int .u64 0) 8 (by kernel_rfl) Tryz.infoU64 rfl .i64 .i64 1600 (by omega) (by omega)
  go_enter Tryz.func124, Tryz.ntmps124
  go_wp2_with fail
  clear hmk
  go_loopw [2] (fun i wx => ∃ (k : Nat) (f : Nat → Nat), k ≤ 1600 ∧ i = .int .i64 k ∧ Hid (∀ j, j < k → f j = 1024) ∧ wx.rowIs w.heap.size 58 1600 (u64V f) ∧ Below w.heap.size w wx) (fun i _ => 1600 - (intOf i).toNat)
  case atStart => exact ⟨0, fun _ => 0, by omega, rfl, fun j hj => by omega, World.rowIs_made _ _ _ _, (Below.refl _ _).alloc (Nat.le_refl _) _⟩
  case round =>
    obtain ⟨k, f, hk, rfl, hf, hrw, hbl⟩ := hrel
    by_cases hlt : k < 1600
    · have ck := hrw.cell (i := k) hlt
      have hfz := hrw.frozen k
      have hlt' : (k : Int) < 1600 := by omega
      go_wp2_with fail
      refine ⟨⟨k + 1, fun j => if j = k then 1024 else f j, by omega, by go_num, fun j hj => ?_, set_u64 hrw, hbl.setCell (Nat.le_refl _) _⟩, by simp [intOf]; omega⟩
      show (if j = k then 1024 else f j) = _
      by_cases e : j = k
      · rw [if_pos e]
      · rw [if_neg e]; exact hf.out j (by omega)
    · have hr2 : wr.rowIs w.heap.size 58 1600 (u64V fun _ => 1024) := hrw.congr fun i hi => by rw [u64V, u64V, hf.out i (by omega)]
      have hlt' : ¬ (k : Int) < 1600 := by omega
      go_wp2_with fail
      go_ret
      exact ⟨rfl, hr2, hbl⟩
/-- What a coder's block holds. -/
def codV (ov : Value) (low size gc j : Nat) : Value := if j = 0 then ov else if j = 1 then .int .u64 (low : Nat) else if j = 2 then .int .u64 (size : Nat) else .slice (some ⟨gc, 0, none⟩) 1600 1600
theorem cod_out {w : World} {g T low size gc : Nat} {ov : Value} (h : w.rowIs g T 4 (codV ov low size gc)) : w.cell? ⟨g, 0, none⟩ = some ov := h.cell (i := 0) (by omega)
theorem cod_low {w : World} {g T low size gc : Nat} {ov : Value} (h : w.rowIs g T 4 (codV ov low size gc)) : w.cell? ⟨g, 1, none⟩ = some (.int .u64 (low : Nat)) := h.cell (i := 1) (by omega)
theorem cod_size {w : World} {g T low size gc : Nat} {ov : Value} (h : w.rowIs g T 4 (codV ov low size gc)) : w.cell? ⟨g, 2, none⟩ = some (.int .u64 (size : Nat)) := h.cell (i := 2) (by omega)
theorem cod_ch {w : World} {g T low size gc : Nat} {ov : Value} (h : w.rowIs g T 4 (codV ov low size gc)) : w.cell? ⟨g, 3, none⟩ = some (.slice (some ⟨gc, 0, none⟩) 1600 1600) := h.cell (i := 3) (by omega)
/-- A list of bytes that a call has gathered. -/
def ownB (w : World) (base : Nat) (v : Value) (n : Nat) (f : Nat → UInt8) : Prop := w.ownsRow base 5 1 v n ((List.range n).map fun j => byteV (f j))
theorem grownBy_setB {w w1 : World} {g i : Nat} (h1 : w.grownBy w1 (some g)) (v : Value) : w.grownBy (w1.setCell ⟨g, i, none⟩ v) (some g) := grownBy_set h1 v
theorem ownB.congr {w : World} {base : Nat} {v : Value} {n : Nat} {f h : Nat → UInt8} (a : ownB w base v n f) (e : ∀ j, j < n → f j = h j) : ownB w base v n h := by
  unfold ownB at a ⊢
  rwa [List.map_congr_left (fun j hj => by rw [e j (List.mem_range.1 hj)])] at a
theorem ownB.cell {w : World} {base g n cap : Nat} {f : Nat → UInt8} (a : ownB w base (.slice (some ⟨g, 0, none⟩) n cap) n f) (j : Nat) (hj : j < n) : w.cell? ⟨g, j, none⟩ = some (.int .u8 ((f j).toNat : Int)) := by
  rw [World.ownsRow.cellAt a j (by omega), List.getElem?_map, List.getElem?_range hj]; rfl
theorem ownB.set {w : World} {base g n cap k X : Nat} {f : Nat → UInt8} {Y : UInt8} (a : ownB w base (.slice (some ⟨g, 0, none⟩) n cap) n f) (hk : k < n) (hX : X = Y.toNat) : ownB (w.setCell ⟨g, k, none⟩ (.int .u8 (X : Int))) base (.slice (some ⟨g, 0, none⟩) n cap) n (fun j => if j = k then Y else f j) := by
  subst hX
  have h := (World.ownsRow.stored a k (.int .u8 (Y.toNat : Int))).1
  unfold ownB
  have e : (((List.range n).map fun j => byteV (f j)).set k (.int .u8 (Y.toNat : Int))) = (List.range n).map fun j => byteV (if j = k then Y else f j) := by
    apply List.ext_getElem?
    intro j
    rw [List.getElem?_set]
    by_cases hj : j < n
    · rw [List.getElem?_map, List.getElem?_map, List.getElem?_range hj]
      by_cases e : k = j
      · subst e
        rw [if_pos rfl, if_pos (by simpa using hk)]
        show _ = some (byteV (if k = k then Y else f k))
        rw [if_pos rfl]; rfl
      · rw [if_neg e]
        show some (byteV (f j)) = some (byteV (if j = k then Y else f j))
        rw [if_neg (fun x => e x.symm)]
    · rw [if_neg (by omega), List.getElem?_eq_none (by simp; omega), List.getElem?_eq_none (by simp; omega)]
  rw [← e]; exact h
set_option maxRecDepth 100000 in
set_option maxHeartbeats 800000 in
theorem spec_carry (base g gc go n cap low size V : Nat) (w : World) (hn : 0 < n) (hn2 : n ≤ 100000) (hV : V + 1 < 256 ^ n) (hrow : w.rowIs g 171 4 (codV (.slice (some ⟨go, 0, none⟩) n cap) low size gc)) (hown : ownB w base (.slice (some ⟨go, 0, none⟩) n cap) n (byN n V)) (hne : go ≠ g) :
    Calls Tryz.prog 143 #[.pointer (some ⟨g, 0, none⟩)] w fun e w' => e = .returned (.tuple #[]) ∧ ownB w' base (.slice (some ⟨go, 0, none⟩) n cap) n (byN n (V + 1)) ∧ w.grownBy w' (some go) := by
  have c0 := cod_out hrow
  have hHR := hide hrow
  clear hrow
  have hcap : n ≤ cap := by
    obtain ⟨_, ⟨h, _⟩ | ⟨g', cap', cur, h, _, _, h2, _⟩⟩ := hown
    · cases h
    · cases h; exact h2
  have hcap2 : (n : Int) ≤ (cap : Int) := by omega
  go_enter Tryz.func143, Tryz.ntmps143
  go_wp2_with fail
  clear c0
  go_loopw [2] (fun i wx => ∃ (k : Nat) (f : Nat → UInt8), k ≤ n ∧ i = .int .i64 ((n : Int) - 1 - (k : Int)) ∧ Hid (∀ j, j < n → f j = cutZ n V k j) ∧ Hid (V % 256 ^ k = 256 ^ k - 1) ∧ Hid (ownB wx base (.slice (some ⟨go, 0, none⟩) n cap) n f) ∧ Hid (w.grownBy wx (some go))) (fun i _ => (intOf i + 1).toNat)
  case atStart => exact ⟨0, byN n V, by omega, by go_num, fun j hj => by rw [cutZ, if_neg (by omega)], by unfold Hid; rw [Nat.pow_zero, Nat.mod_one], hown, ⟨rfl, rfl, rfl, Nat.le_refl _, fun _ _ _ => rfl⟩⟩
  case round =>
    obtain ⟨k, f, hk, rfl, hf, hm, how, hgr⟩ := hrel
    have hrow := hHR.out.of_block (hgr.out.block g hHR.out.lt (by simp; omega))
    by_cases hlt : k < n
    · obtain ⟨i, ei⟩ : ∃ i, i = n - 1 - k := ⟨_, rfl⟩
      have e1 : (n : Int) - 1 - (k : Int) = (i : Int) := by omega
      rw [e1]
      have hi : i < n := by omega
      have hi' : (i : Int) < (n : Int) := by omega
      have c0 := cod_out hrow
      have ci := how.out.cell i hi
      have fi := World.ownsRow.frozenAt how.out i
      obtain ⟨b, hb⟩ : ∃ b, b = V / 256 ^ k % 256 := ⟨_, rfl⟩
      have hfi : f i = UInt8.ofNat b := by rw [hf.out i hi, cutZ, if_neg (by omega), byN, show n - 1 - i = k by omega, hb]
      have hb8 : b < 256 := by omega
      rw [hfi, show ((UInt8.ofNat b).toNat : Int) = (b : Int) by rw [UInt8.toNat_ofNat']; omega] at ci
      by_cases h255 : b = 255
      · obtain ⟨b1, hb1⟩ : ∃ x : Nat, x = 0 := ⟨_, rfl⟩
        have hw : IntKind.u8.wrap ((b : Int) + 1) = (b1 : Int) := by rw [IntKind.wrap_u8]; omega
        have HI := hide ei
        have HB := hide hb
        have H255 := hide h255
        have HB1 := hide hb1
        clear ei hb e1 hfi h255 hb1
        go_wp2_with fail
        go_region
        have how2 := how.out.set (Y := UInt8.ofNat b1) hi (show b1 = (UInt8.ofNat b1).toNat by have := HB1.out; have := H255.out; rw [UInt8.toNat_ofNat']; omega)
        have hgr2 := hide (grownBy_setB (i := i) hgr.out (.int .u8 (b1 : Int)))
        have c0' : (wr.setCell ⟨go, i, none⟩ (.int .u8 (b1 : Int))).cell? ⟨g, 0, none⟩ = some (.slice (some ⟨go, 0, none⟩) n cap) := cell_far hne c0
        have ci' : (wr.setCell ⟨go, i, none⟩ (.int .u8 (b1 : Int))).cell? ⟨go, i, none⟩ = some (.int .u8 (b1 : Int)) := World.cell?_setCell_same _ _ _ ci
        have HOW := hide how2
        clear how2 how hgr ci fi c0 hw hrow
        have hb1' : ((b1 : Int) == 0) = true := by have := HB1.out; simp; omega
        have hf' := hide (show ∀ j, j < n → (if j = i then UInt8.ofNat b1 else f j) = cutZ n V (k + 1) j from fun j hj => by
          have hI := HI.out
          by_cases e : j = i
          · rw [if_pos e, cutZ, if_pos (by omega), HB1.out]; rfl
          · rw [if_neg e, hf.out j hj, cutZ, cutZ]
            by_cases e2 : n - k ≤ j
            · rw [if_pos e2, if_pos (by omega)]
            · rw [if_neg e2, if_neg (by omega)])
        have hm' := hide (carry_more V k hm.out (by rw [← HB.out]; exact H255.out))
        have hi1 : (i : Int) - 1 = (n : Int) - 1 - ((k + 1 : Nat) : Int) := by have := HI.out; omega
        have HI1 := hide hi1
        clear hi1 hf hm
        go_wp2_with fail
        go_roundw
        case rel => exact ⟨k + 1, _, by omega, by rw [← HI1.out], hf', hm', HOW, grownBy_drew hgr2.out⟩
        case measure => simp [intOf]
      · obtain ⟨b1, hb1⟩ : ∃ x : Nat, x = b + 1 := ⟨_, rfl⟩
        have hw : IntKind.u8.wrap ((b : Int) + 1) = (b1 : Int) := by rw [IntKind.wrap_u8]; omega
        have HI := hide ei
        have HB := hide hb
        have H255 := hide h255
        have HB1 := hide hb1
        clear ei hb e1 hfi h255 hb1
        go_wp2_with fail
        go_region
        have how2 := how.out.set (Y := UInt8.ofNat b1) hi (show b1 = (UInt8.ofNat b1).toNat by have := HB1.out; have := H255.out; rw [UInt8.toNat_ofNat']; omega)
        have hgr2 := hide (grownBy_setB (i := i) hgr.out (.int .u8 (b1 : Int)))
        have c0' : (wr.setCell ⟨go, i, none⟩ (.int .u8 (b1 : Int))).cell? ⟨g, 0, none⟩ = some (.slice (some ⟨go, 0, none⟩) n cap) := cell_far hne c0
        have ci' : (wr.setCell ⟨go, i, none⟩ (.int .u8 (b1 : Int))).cell? ⟨go, i, none⟩ = some (.int .u8 (b1 : Int)) := World.cell?_setCell_same _ _ _ ci
        have HOW := hide how2
        clear how2 how hgr ci fi c0 hw hrow
        have hb1' : ((b1 : Int) == 0) = false := by have := HB1.out; simp; omega
        have hf' := (show ∀ j, j < n → (if j = i then UInt8.ofNat b1 else f j) = byN n (V + 1) j from fun j hj => by
          have hI := HI.out
          rw [carry_by n V k j hlt hj hm.out (by rw [← HB.out]; exact H255.out), ← HB.out, ← hI]
          by_cases e : j = i
          · rw [if_pos e, if_pos e, HB1.out]
          · rw [if_neg e, if_neg e, hf.out j hj])
        have how3 := hide (HOW.out.congr hf')
        clear hf' HOW hf hm
        go_wp2_with fail
        exact bodyPost_ret (v := .tuple #[]) (by simp [results, Tryz.results143]) rfl ⟨rfl, how3.out, grownBy_drew hgr2.out⟩
    · exact absurd (carry_never n V hV (by rw [show n = k by omega]; exact hm.out)) id
end Go.Proofs.YtconcnndghmdfaaGreatDoor

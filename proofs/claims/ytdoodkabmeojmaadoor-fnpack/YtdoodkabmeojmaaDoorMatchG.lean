/- The walks over the model's l06Parse and Parse. -/
import Derived.Test.YtdoodkabmeojmaaDoorMatchP
import Derived.Test.YtdoodkabmeojmaaDoorTokC
import Derived.Test.YtdoodkabmeojmaaDoorSrc
namespace Go.Proofs.YtdoodkabmeojmaaDoor
open Go.RowKit
theorem Tryd.infoTok : (Tryd.prog.info? 38).map (fun i => (i.zero, i.size, i.bytes)) = some (some (.agg #[.int .i64 0, .int .i64 0, .int .i64 0]), 3, 24) := by kernel_rfl
/-- Parse. -/
def parS (t : ByteArray) : List Tok := if t.size ≤ 4000 then parseL (bF t) t.size else []
theorem parS_len (t : ByteArray) : (parS t).length ≤ 4000 ∧ (parS t).length ≤ t.size := by
  unfold parS
  split
  · have := parseG_len (bF t) t.size t.size 0
    exact ⟨by show (parseG (bF t) t.size t.size 0).length ≤ 4000; omega, by show (parseG (bF t) t.size t.size 0).length ≤ _; omega⟩
  · exact ⟨Nat.zero_le _, Nat.zero_le _⟩
set_option maxRecDepth 100000 in
set_option maxHeartbeats 1600000 in
theorem spec_parse0 (t : ByteArray) (w : World) (hN : t.size ≤ 4000) :
    Calls Tryd.prog 43 #[.string t] w fun e w' => ∃ v, e = .returned v ∧ w'.ownsRow w.heap.size 38 3 v (parseL (bF t) t.size).length (tokC (parseL (bF t) t.size)) ∧ Below w.heap.size w w' := by
  obtain ⟨i0, hi, hz0, hz1, hz2⟩ := info_parts Tryd.infoTok
  have hown0 := (show (w.alloc (.cells #[] 38)).ownsRow w.heap.size 38 3 (.slice (some ⟨w.heap.size, 0, none⟩) 0 0) 0 [] by
    have h := World.ownsRow_made (e := 38) (size := 3) (base := w.heap.size) w #[] 0 (Nat.le_refl _) (by decide) (by simp)
    simpa using h)
  have hb0 := hide ((Below.refl w.heap.size w).alloc (Nat.le_refl _) (.cells #[] 38))
  go_enter Tryd.func43, Tryd.ntmps43
  go_wp2_with fail
  generalize w.alloc (.cells #[] 38) = W0 at *
  go_loopw [3, 4] (fun ov i wx => ∃ (p : Nat) (l : List Tok), p ≤ t.size ∧ i = .int .i64 p ∧ wx.ownsRow w.heap.size 38 3 ov l.length (tokC l) ∧ l.length ≤ p ∧ Hid (l ++ parseG (bF t) t.size (t.size - p) p = parseL (bF t) t.size) ∧ Hid (Below w.heap.size w wx)) (fun _ i _ => t.size - (intOf i).toNat)
  case atStart => exact ⟨0, [], by omega, rfl, hown0, Nat.le_refl _, rfl, hb0⟩
  case round =>
    clear hown0 hb0
    obtain ⟨p, l, hp, rfl, hown, hlp, hpl, hbl⟩ := hrel
    by_cases hlt : p < t.size
    · have hlt' : (p : Int) < (t.size : Int) := by omega
      obtain ⟨K, hK⟩ : ∃ K, K = min 1024 p := ⟨_, rfl⟩
      have HPB := hide (show bestAt (bF t) t.size p = best (bF t) t.size p K by rw [hK]; rfl)
      have HOWN := hide hown
      have hws := hbl.out.size
      clear hown
      go_wp2_with fail
      go_loopw [5, 6, 7] (fun m f i wx => ∃ j : Nat, j ≤ K ∧ i = .int .i64 ((j : Int) + 1) ∧ m = .int .i64 ((best (bF t) t.size p j).1 : Nat) ∧ f = .int .i64 ((best (bF t) t.size p j).2 : Nat) ∧ Hid (Below wr.heap.size wr wx)) (fun _ _ i _ => 1025 - (intOf i).toNat)
      case atStart => exact ⟨0, by omega, rfl, rfl, rfl, Below.refl _ _⟩
      case round =>
        obtain ⟨j, hj, rfl, rfl, rfl, hbi⟩ := hrel
        obtain ⟨m, hm⟩ : ∃ m, m = (best (bF t) t.size p j).1 := ⟨_, rfl⟩
        obtain ⟨f, hf⟩ : ∃ f, f = (best (bF t) t.size p j).2 := ⟨_, rfl⟩
        have hm66 : m ≤ 66 := by
          rcases best_is (bF t) t.size p j with e | ⟨_, _, _, e, _⟩
          · rw [hm, e]; exact Nat.zero_le _
          · rw [hm, e]; exact long_le _ _ _ _
        have hfj : f ≤ j := by
          rcases best_is (bF t) t.size p j with e | ⟨_, e, _⟩
          · rw [hf, e]; exact Nat.zero_le _
          · rw [hf]; exact e
        rw [← hm, ← hf]
        have HMF := hide (show best (bF t) t.size p j = (m, f) from Prod.ext hm.symm hf.symm)
        clear hm hf
        by_cases hjK : j < K
        · have g1 : (j : Int) + 1 ≤ 1024 := by omega
          have d1 : decide ((j : Int) + 1 ≤ 1024) = true := decide_eq_true g1
          have g2 : (j : Int) + 1 ≤ (p : Int) := by omega
          have d2 : decide ((j : Int) + 1 ≤ (p : Int)) = true := decide_eq_true g2
          obtain ⟨n, hn⟩ : ∃ n, n = long (bF t) t.size p (j + 1) := ⟨_, rfl⟩
          have SL := hide (fun w => spec_long t p (j + 1) w (by omega) hp (by omega) (by omega))
          rw [← hn] at SL
          have hn66 : n ≤ 66 := by rw [hn]; exact long_le _ _ _ _
          have HBN := hide (show best (bF t) t.size p (j + 1) = if m < n then (n, j + 1) else (m, f) by
            show (if (best (bF t) t.size p j).1 < long (bF t) t.size p (j + 1) then _ else _) = _
            rw [HMF.out, ← hn])
          have hjc : ((j + 1 : Nat) : Int) = (j : Int) + 1 := by omega
          rw [hjc] at SL
          clear hn HMF hjc
          go_wp2_with fail
          refine (SL.out _).mono ?_
          rintro e w2 ⟨rfl, hb2⟩
          have B2 := hide (hbi.out.trans (hb2.mono hbi.out.size))
          clear SL hb2 hbi
          by_cases hmn : m < n
          · have hmn' : (m : Int) < (n : Int) := by omega
            rw [if_pos hmn] at HBN
            go_wp2_with fail
            go_roundw
            case rel => exact ⟨j + 1, by omega, by go_num, by rw [HBN.out], by rw [HBN.out]; show Value.int .i64 ((j : Int) + 1) = .int .i64 ((j + 1 : Nat) : Int); congr 1, B2⟩
            case measure => simp [intOf]; omega
          · have hmn' : ¬ (m : Int) < (n : Int) := by omega
            rw [if_neg hmn] at HBN
            go_wp2_with fail
            go_roundw
            case rel => exact ⟨j + 1, by omega, by go_num, by rw [HBN.out], by rw [HBN.out], B2⟩
            case measure => simp [intOf]; omega
        · have hjK2 : j = K := by omega
          have HBA := hide (show bestAt (bF t) t.size p = (m, f) by rw [HPB.out, ← hjK2]; exact HMF.out)
          have HO := hide (HOWN.out.kept (below_grownBy hbi.out) (Classical.em _))
          have HBW := hide (hbl.out.trans (hbi.out.mono hws))
          have hbs9 := HBW.out.size
          clear HOWN hbi HMF HPB hbl
          by_cases hp1 : 1024 ≤ p
          · have g1 : ¬ (j : Int) + 1 ≤ 1024 := by omega
            have d1 : decide ((j : Int) + 1 ≤ 1024) = false := decide_eq_false g1
            clear hK hjK hjK2
            by_cases hm3 : m < 3
            · have hm3' : (m : Int) < 3 := by omega
              have hb := bF_get t p hlt
              obtain ⟨x, hx⟩ : ∃ x, x = (bF t p).toNat := ⟨_, rfl⟩
              rw [← hx] at hb
              have hx8 : x < 256 := by rw [hx]; exact (bF t p).toNat_lt
              have hw8 : IntKind.i64.wrap (x : Int) = (x : Int) := by simp only [IntKind.wrap_i64]; omega
              have HPN := hide (show (l ++ [(⟨(x : Int), 0, 0⟩ : Tok)]) ++ parseG (bF t) t.size (t.size - (p + 1)) (p + 1) = parseL (bF t) t.size by
                rw [← hpl.out, show t.size - p = (t.size - (p + 1)) + 1 by omega, parseG_step (bF t) t.size _ p hlt, tokAt, stepAt, HBA.out, if_pos hm3, if_pos hm3, hx, List.append_assoc]; rfl)
              clear hx hpl HBA
              go_wp2_with (at_builtin; refine wpList_append_lies _ rfl _ _ 82 rfl w.heap.size 38 i0 (.agg #[.int .i64 0, .int .i64 0, .int .i64 0]) 3 24 Tryd.underlying82 hi hz0 hz1 hz2 rfl (by omega) u3 l.length (tokC l) rfl (HO.out.alloc _) ⟨wr.heap.size, 0, none⟩ 1 1 [.int .i64 (x : Int), .int .i64 0, .int .i64 0] rfl rfl (tri_cells _ _ _ _ _ _ rfl) (tri_one _ _ _) (by omega) (by unfold maxLen; omega) (by omega) (by simp; omega) (wr.heap.size + 1) (by simp) ?_)
              intro g' cap' w9 hown' hg' _ _
              have R1 : w9.ownsRow w.heap.size 38 3 (.slice (some ⟨g', 0, none⟩) (l.length + 1) cap') (l ++ [(⟨(x : Int), 0, 0⟩ : Tok)]).length (tokC (l ++ [(⟨(x : Int), 0, 0⟩ : Tok)])) := by
                rw [tokC_snoc, List.length_append]; exact hown'
              have R2 := hide ((HBW.out.alloc hbs9 _).grown hg' (by simp; omega) (fun x hx => (HO.out.lt x hx).1))
              clear hown' hg' HO HBW
              go_wp2_with fail
              go_roundw
              case rel => exact ⟨p + 1, l ++ [(⟨(x : Int), 0, 0⟩ : Tok)], by omega, by go_num, R1, by simp; omega, HPN, R2⟩
              case measure => simp [intOf]; omega
            · have hm3' : ¬ (m : Int) < 3 := by omega
              have hfa := bestAt_facts (bF t) t.size p (by rw [HBA.out]; exact hm3)
              rw [HBA.out] at hfa
              have hpm : p + m ≤ t.size := hfa.2.2.2.2.1
              have hpm' : (p : Int) + (m : Int) ≤ 4000 := by omega
              have HPN := hide (show (l ++ [(⟨0, (m : Int), (f : Int)⟩ : Tok)]) ++ parseG (bF t) t.size (t.size - (p + m)) (p + m) = parseL (bF t) t.size by
                rw [← hpl.out, show t.size - p = (t.size - (p + 1)) + 1 by omega, parseG_step (bF t) t.size _ p hlt, tokAt, stepAt, HBA.out, if_neg hm3, if_neg hm3, List.append_assoc, parseG_fuel (bF t) t.size (t.size - (p + 1)) (t.size - (p + m)) (p + m) (by omega) (by omega)]; rfl)
              clear hfa hpl HBA
              go_wp2_with (at_builtin; refine wpList_append_lies _ rfl _ _ 82 rfl w.heap.size 38 i0 (.agg #[.int .i64 0, .int .i64 0, .int .i64 0]) 3 24 Tryd.underlying82 hi hz0 hz1 hz2 rfl (by omega) u3 l.length (tokC l) rfl (HO.out.alloc _) ⟨wr.heap.size, 0, none⟩ 1 1 [.int .i64 0, .int .i64 (m : Int), .int .i64 (f : Int)] rfl rfl (tri_cells _ _ _ _ _ _ rfl) (tri_one _ _ _) (by omega) (by unfold maxLen; omega) (by omega) (by simp; omega) (wr.heap.size + 1) (by simp) ?_)
              intro g' cap' w9 hown' hg' _ _
              have R1 : w9.ownsRow w.heap.size 38 3 (.slice (some ⟨g', 0, none⟩) (l.length + 1) cap') (l ++ [(⟨0, (m : Int), (f : Int)⟩ : Tok)]).length (tokC (l ++ [(⟨0, (m : Int), (f : Int)⟩ : Tok)])) := by
                rw [tokC_snoc, List.length_append]; exact hown'
              have R2 := hide ((HBW.out.alloc hbs9 _).grown hg' (by simp; omega) (fun x hx => (HO.out.lt x hx).1))
              clear hown' hg' HO HBW
              go_wp2_with fail
              go_roundw
              case rel => exact ⟨p + m, l ++ [(⟨0, (m : Int), (f : Int)⟩ : Tok)], by omega, by go_num, R1, by simp; omega, HPN, R2⟩
              case measure => simp [intOf]; omega
          · have g1 : (j : Int) + 1 ≤ 1024 := by omega
            have d1 : decide ((j : Int) + 1 ≤ 1024) = true := decide_eq_true g1
            have g2 : ¬ (j : Int) + 1 ≤ (p : Int) := by omega
            have d2 : decide ((j : Int) + 1 ≤ (p : Int)) = false := decide_eq_false g2
            clear hK hjK hjK2
            by_cases hm3 : m < 3
            · have hm3' : (m : Int) < 3 := by omega
              have hb := bF_get t p hlt
              obtain ⟨x, hx⟩ : ∃ x, x = (bF t p).toNat := ⟨_, rfl⟩
              rw [← hx] at hb
              have hx8 : x < 256 := by rw [hx]; exact (bF t p).toNat_lt
              have hw8 : IntKind.i64.wrap (x : Int) = (x : Int) := by simp only [IntKind.wrap_i64]; omega
              have HPN := hide (show (l ++ [(⟨(x : Int), 0, 0⟩ : Tok)]) ++ parseG (bF t) t.size (t.size - (p + 1)) (p + 1) = parseL (bF t) t.size by
                rw [← hpl.out, show t.size - p = (t.size - (p + 1)) + 1 by omega, parseG_step (bF t) t.size _ p hlt, tokAt, stepAt, HBA.out, if_pos hm3, if_pos hm3, hx, List.append_assoc]; rfl)
              clear hx hpl HBA
              go_wp2_with (at_builtin; refine wpList_append_lies _ rfl _ _ 82 rfl w.heap.size 38 i0 (.agg #[.int .i64 0, .int .i64 0, .int .i64 0]) 3 24 Tryd.underlying82 hi hz0 hz1 hz2 rfl (by omega) u3 l.length (tokC l) rfl (HO.out.alloc _) ⟨wr.heap.size, 0, none⟩ 1 1 [.int .i64 (x : Int), .int .i64 0, .int .i64 0] rfl rfl (tri_cells _ _ _ _ _ _ rfl) (tri_one _ _ _) (by omega) (by unfold maxLen; omega) (by omega) (by simp; omega) (wr.heap.size + 1) (by simp) ?_)
              intro g' cap' w9 hown' hg' _ _
              have R1 : w9.ownsRow w.heap.size 38 3 (.slice (some ⟨g', 0, none⟩) (l.length + 1) cap') (l ++ [(⟨(x : Int), 0, 0⟩ : Tok)]).length (tokC (l ++ [(⟨(x : Int), 0, 0⟩ : Tok)])) := by
                rw [tokC_snoc, List.length_append]; exact hown'
              have R2 := hide ((HBW.out.alloc hbs9 _).grown hg' (by simp; omega) (fun x hx => (HO.out.lt x hx).1))
              clear hown' hg' HO HBW
              go_wp2_with fail
              go_roundw
              case rel => exact ⟨p + 1, l ++ [(⟨(x : Int), 0, 0⟩ : Tok)], by omega, by go_num, R1, by simp; omega, HPN, R2⟩
              case measure => simp [intOf]; omega
            · have hm3' : ¬ (m : Int) < 3 := by omega
              have hfa := bestAt_facts (bF t) t.size p (by rw [HBA.out]; exact hm3)
              rw [HBA.out] at hfa
              have hpm : p + m ≤ t.size := hfa.2.2.2.2.1
              have hpm' : (p : Int) + (m : Int) ≤ 4000 := by omega
              have HPN := hide (show (l ++ [(⟨0, (m : Int), (f : Int)⟩ : Tok)]) ++ parseG (bF t) t.size (t.size - (p + m)) (p + m) = parseL (bF t) t.size by
                rw [← hpl.out, show t.size - p = (t.size - (p + 1)) + 1 by omega, parseG_step (bF t) t.size _ p hlt, tokAt, stepAt, HBA.out, if_neg hm3, if_neg hm3, List.append_assoc, parseG_fuel (bF t) t.size (t.size - (p + 1)) (t.size - (p + m)) (p + m) (by omega) (by omega)]; rfl)
              clear hfa hpl HBA
              go_wp2_with (at_builtin; refine wpList_append_lies _ rfl _ _ 82 rfl w.heap.size 38 i0 (.agg #[.int .i64 0, .int .i64 0, .int .i64 0]) 3 24 Tryd.underlying82 hi hz0 hz1 hz2 rfl (by omega) u3 l.length (tokC l) rfl (HO.out.alloc _) ⟨wr.heap.size, 0, none⟩ 1 1 [.int .i64 0, .int .i64 (m : Int), .int .i64 (f : Int)] rfl rfl (tri_cells _ _ _ _ _ _ rfl) (tri_one _ _ _) (by omega) (by unfold maxLen; omega) (by omega) (by simp; omega) (wr.heap.size + 1) (by simp) ?_)
              intro g' cap' w9 hown' hg' _ _
              have R1 : w9.ownsRow w.heap.size 38 3 (.slice (some ⟨g', 0, none⟩) (l.length + 1) cap') (l ++ [(⟨0, (m : Int), (f : Int)⟩ : Tok)]).length (tokC (l ++ [(⟨0, (m : Int), (f : Int)⟩ : Tok)])) := by
                rw [tokC_snoc, List.length_append]; exact hown'
              have R2 := hide ((HBW.out.alloc hbs9 _).grown hg' (by simp; omega) (fun x hx => (HO.out.lt x hx).1))
              clear hown' hg' HO HBW
              go_wp2_with fail
              go_roundw
              case rel => exact ⟨p + m, l ++ [(⟨0, (m : Int), (f : Int)⟩ : Tok)], by omega, by go_num, R1, by simp; omega, HPN, R2⟩
              case measure => simp [intOf]; omega
    · have hlt' : ¬ (p : Int) < (t.size : Int) := by omega
      have e := hpl.out
      rw [parseG_end (bF t) t.size _ p hlt, List.append_nil] at e
      have HO := hide (show wr.ownsRow w.heap.size 38 3 u3 (parseL (bF t) t.size).length (tokC (parseL (bF t) t.size)) by rw [← e]; exact hown)
      clear hown hpl e
      go_wp2_with fail
      go_ret
      exact ⟨_, rfl, HO.out, hbl.out⟩
end Go.Proofs.YtdoodkabmeojmaaDoor

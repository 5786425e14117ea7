/- The walk over the program's get. -/
import Derived.Test.YtdoodkabmeojmaaDoorRngT
import Derived.Test.YtdoodkabmeojmaaDoorRngQ
import Derived.Test.YtdoodkabmeojmaaDoorRangeD
namespace Go.Proofs.YtdoodkabmeojmaaDoor
open Go.RowKit
set_option maxRecDepth 100000 in
set_option maxHeartbeats 1600000 in
theorem imp_get (g c x : Nat) (t : ByteArray) (s : RC) (w : World) (hok : RcOk s) (hc : c < 1600) (hx : x < 18446744073709551616) (hts : t.size ≤ 9223372036854775807) (hdec : DecP w g t s x) :
    Calls Tryd.prog 81 #[.pointer (some ⟨g, 0, none⟩), .int .i64 (c : Int)] w fun e w' => e = .returned (.bool (dbit s x c)) ∧ DecP w' g t (step s c (dbit s x c)) (dx (tbN t) s x c) ∧ w.grownBy w' (some g) := by
  obtain ⟨P, hP⟩ : ∃ P, P = part1 s c (dbit s x c) := ⟨_, rfl⟩
  have hpo := part1_ok s c (dbit s x c) hok
  rw [← hP] at hpo
  have HPS := hide hP
  have HNOK := hide (norm_ok P hpo.1 hpo.2.1 hpo.2.2.1 (by rw [hpo.2.2.2.2]; exact hpo.2.2.2.1))
  have HPN := hide (show P.n = s.n from hpo.2.2.2.2)
  obtain ⟨b1, b2⟩ := bound_in s c hok
  have hhi := hok.hi
  have hch := hok.ch c
  obtain ⟨b, hb⟩ : ∃ b, b = bound s c := ⟨_, rfl⟩
  have HB := hide (show s.size / 2048 * s.ch c = b from hb.symm)
  have HB2 := hide hb
  rw [← hb] at b1 b2
  have hr : w.rowIs g 122 1603 (cdF s.size s.ch x (.string (restOf t (s.n + 4)))) := hdec
  obtain ⟨V, hV⟩ : ∃ V, V = Value.string (restOf t (s.n + 4)) := ⟨_, rfl⟩
  rw [← hV] at hr
  have HV := hide hV
  have SB := hide (imp_bound g 122 s.size x c s.ch V w hhi hc (by omega) hr)
  rw [HB.out] at SB
  obtain ⟨x1, hx1⟩ : ∃ x1, x1 = dx1 s x c := ⟨_, rfl⟩
  have HX1E := hide hx1
  have hx1lt : x1 < 18446744073709551616 := by rw [hx1]; unfold dx1; split <;> omega
  by_cases hbx : b ≤ x
  · have hbx' : (b : Int) ≤ (x : Int) := by omega
    have HBIT := hide (show dbit s x c = true by unfold dbit; rw [← hb]; exact decide_eq_true hbx)
    have hx1' : x1 = x - b := by rw [hx1, dx1, ← hb, if_pos hbx]
    have kx : (x : Int) - (b : Int) = (x1 : Int) := by omega
    have kx2 : IntKind.u64.wrap ((x : Int) - (b : Int)) = (x1 : Int) := by rw [IntKind.wrap_u64]; omega
    have HPE := hide (show P = ⟨s.size - b, setCh s.ch c (chOne (s.ch c)), s.low + b, s.n⟩ by rw [HPS.out, HBIT.out, hb]; rfl)
    have HR := hide hr
    clear hP hpo hb hdec hV hx1 hx1' hr
    go_enter Tryd.func81, Tryd.ntmps81
    go_wp2_with fail
    refine SB.out.mono ?_
    rintro e w1 ⟨rfl, m, hw1⟩
    have R1 : w1.rowIs g 122 1603 (cdF s.size s.ch x V) := by rw [hw1]; exact HR.out
    have G1 : w.grownBy w1 (some g) := by rw [hw1]; exact ⟨rfl, rfl, rfl, Nat.le_refl _, fun _ _ _ => rfl⟩
    obtain ⟨_, c1, _, _⟩ := cd_cells R1
    have f1 := R1.frozen 1601
    have R2 := (cd_set R1).2.1 x1
    have G2 := grownBy_set (i := 1601) G1 (.int .u64 (x1 : Int))
    have SN := hide (imp_narrow g 122 s.size x1 c b true s.ch V (w1.setCell ⟨g, 1601, none⟩ (.int .u64 (x1 : Int))) hhi (by omega) hc (by omega) R2)
    have HG := hide G2
    clear hw1 R1 G1 SB R2 G2 HR
    go_wp2_with fail
    refine SN.out.mono ?_
    rintro e w3 ⟨rfl, r3, g3⟩
    have HROW := hide (show w3.rowIs g 122 1603 (cdF P.size P.ch x1 (.string (restOf t (P.n + 4)))) by rw [HPE.out, ← HV.out]; exact r3)
    have HBEL := hide (grownBy_trans HG.out g3)
    clear r3 g3 SN HG c1 f1 kx kx2
    have HPE2 := hide (show P = part1 s c true by rw [HPS.out, HBIT.out])
    go_wp2_with fail
    go_loopw [35] (fun _ wx => ∃ (u : RC) (y : Nat), Hid ((u = P ∧ y = x1) ∨ (u = norm P ∧ P.size < 16777216 ∧ y = (256 * x1 + tbN t (s.n + 4)) % 18446744073709551616)) ∧ Hid (DecP wx g t u y) ∧ Hid (w.grownBy wx (some g))) (fun _ wx => if size0 wx g < 16777216 then 1 else 0)
    case atStart => exact ⟨P, x1, .inl ⟨rfl, rfl⟩, HROW, HBEL⟩
    case round =>
      clear HROW HBEL
      obtain ⟨u, y, hu, hrow, hbel⟩ := hrel
      have hr : wr.rowIs g 122 1603 (cdF u.size u.ch y (.string (restOf t (u.n + 4)))) := hrow.out
      have hsw := hide (size0_of (cd_cells hr).1)
      by_cases hsz : u.size < 16777216
      · have huP : u = P ∧ y = x1 := by
          rcases hu.out with h | ⟨h, h2, _⟩
          · exact h
          · rw [h] at hsz; exact absurd hsz (by have := HNOK.out.lo; omega)
        have SW := hide (imp_widen_yes g 122 u.size y u.ch _ wr hsz hr)
        have HT := hide huP
        clear hr huP hrow hu
        go_wp2_with fail
        refine SW.out.mono ?_
        rintro e w1 ⟨rfl, r1, g1⟩
        have ST := hide (imp_take g (256 * u.size) y (u.n + 4) u.ch t w1 hts r1)
        have hb1 := hide (grownBy_trans hbel.out g1)
        clear r1 g1 SW hbel
        go_wp2_with fail
        refine ST.out.mono ?_
        rintro e w2 ⟨rfl, r2, g2⟩
        have hb3 := hide (grownBy_trans hb1.out g2)
        have hs3 := hide (size0_of (cd_cells r2).1)
        have hC3 := hide (show DecP w2 g t (norm P) ((256 * x1 + tbN t (s.n + 4)) % 18446744073709551616) by
          have h := HT.out
          rw [norm, if_pos (by rw [← h.1]; exact hsz), ← HPN.out, ← h.1, ← h.2]; exact r2)
        clear r2 g2 hb1 ST
        go_wp2_with fail
        go_roundw
        case rel => exact ⟨norm P, _, .inr ⟨rfl, by rw [← HT.out.1]; exact hsz, rfl⟩, hC3, hb3⟩
        case measure =>
          rw [hs3.out, hsw.out, if_pos hsz, if_neg (by have h := HNOK.out.lo; rw [norm, if_pos (by rw [← HT.out.1]; exact hsz)] at h; have h' : 16777216 ≤ 256 * P.size := h; rw [← HT.out.1] at h'; omega)]
          omega
      · have hfin := hide (show DecP wr g t (norm P) (if P.size < 16777216 then (256 * x1 + tbN t (s.n + 4)) % 18446744073709551616 else x1) by
          have h0 := hrow.out
          rcases hu.out with ⟨h1, h2⟩ | ⟨h1, h2, h3⟩
          · rw [norm, if_neg (by rw [← h1]; exact hsz), if_neg (by rw [← h1]; exact hsz), ← h1, ← h2]; exact h0
          · rw [if_pos h2, ← h1, ← h3]; exact h0)
        have SW := hide (imp_widen_no g 122 u.size y u.ch _ wr hsz hr)
        clear hr hu hrow
        go_wp2_with fail
        refine SW.out.mono ?_
        rintro e w1 ⟨rfl, rfl⟩
        go_wp2_with fail
        go_ret
        exact ⟨by rw [HBIT.out]; rfl, by rw [HBIT.out]; show DecP _ g t (norm (part1 s c _)) (dx (tbN t) s x c); rw [dx, HBIT.out, ← HPE2.out, ← HX1E.out]; exact hfin.out, hbel.out⟩
  · have hbx' : ¬ (b : Int) ≤ (x : Int) := by omega
    have HBIT := hide (show dbit s x c = false by unfold dbit; rw [← hb]; exact decide_eq_false hbx)
    have hx1' : x1 = x := by rw [hx1, dx1, ← hb, if_neg hbx]
    have HPE := hide (show P = ⟨b, setCh s.ch c (chNot (s.ch c)), s.low, s.n⟩ by rw [HPS.out, HBIT.out, hb]; rfl)
    have HX1 := hide hx1'
    have HR := hide hr
    clear hP hpo hb hdec hV hx1 hx1' hr
    go_enter Tryd.func81, Tryd.ntmps81
    go_wp2_with fail
    refine SB.out.mono ?_
    rintro e w1 ⟨rfl, m, hw1⟩
    have R1 : w1.rowIs g 122 1603 (cdF s.size s.ch x V) := by rw [hw1]; exact HR.out
    have G1 : w.grownBy w1 (some g) := by rw [hw1]; exact ⟨rfl, rfl, rfl, Nat.le_refl _, fun _ _ _ => rfl⟩
    obtain ⟨_, c1, _, _⟩ := cd_cells R1
    have SN := hide (imp_narrow g 122 s.size x c b false s.ch V w1 hhi (by omega) hc (by omega) R1)
    have HG := hide G1
    clear hw1 R1 G1 SB HR
    go_wp2_with fail
    refine SN.out.mono ?_
    rintro e w3 ⟨rfl, r3, g3⟩
    have HROW := hide (show w3.rowIs g 122 1603 (cdF P.size P.ch x1 (.string (restOf t (P.n + 4)))) by rw [HPE.out, ← HV.out, HX1.out]; exact r3)
    have HBEL := hide (grownBy_trans HG.out g3)
    clear r3 g3 SN HG c1
    have HPE2 := hide (show P = part1 s c false by rw [HPS.out, HBIT.out])
    go_wp2_with fail
    go_loopw [35] (fun _ wx => ∃ (u : RC) (y : Nat), Hid ((u = P ∧ y = x1) ∨ (u = norm P ∧ P.size < 16777216 ∧ y = (256 * x1 + tbN t (s.n + 4)) % 18446744073709551616)) ∧ Hid (DecP wx g t u y) ∧ Hid (w.grownBy wx (some g))) (fun _ wx => if size0 wx g < 16777216 then 1 else 0)
    case atStart => exact ⟨P, x1, .inl ⟨rfl, rfl⟩, HROW, HBEL⟩
    case round =>
      clear HROW HBEL
      obtain ⟨u, y, hu, hrow, hbel⟩ := hrel
      have hr : wr.rowIs g 122 1603 (cdF u.size u.ch y (.string (restOf t (u.n + 4)))) := hrow.out
      have hsw := hide (size0_of (cd_cells hr).1)
      by_cases hsz : u.size < 16777216
      · have huP : u = P ∧ y = x1 := by
          rcases hu.out with h | ⟨h, h2, _⟩
          · exact h
          · rw [h] at hsz; exact absurd hsz (by have := HNOK.out.lo; omega)
        have SW := hide (imp_widen_yes g 122 u.size y u.ch _ wr hsz hr)
        have HT := hide huP
        clear hr huP hrow hu
        go_wp2_with fail
        refine SW.out.mono ?_
        rintro e w1 ⟨rfl, r1, g1⟩
        have ST := hide (imp_take g (256 * u.size) y (u.n + 4) u.ch t w1 hts r1)
        have hb1 := hide (grownBy_trans hbel.out g1)
        clear r1 g1 SW hbel
        go_wp2_with fail
        refine ST.out.mono ?_
        rintro e w2 ⟨rfl, r2, g2⟩
        have hb3 := hide (grownBy_trans hb1.out g2)
        have hs3 := hide (size0_of (cd_cells r2).1)
        have hC3 := hide (show DecP w2 g t (norm P) ((256 * x1 + tbN t (s.n + 4)) % 18446744073709551616) by
          have h := HT.out
          rw [norm, if_pos (by rw [← h.1]; exact hsz), ← HPN.out, ← h.1, ← h.2]; exact r2)
        clear r2 g2 hb1 ST
        go_wp2_with fail
        go_roundw
        case rel => exact ⟨norm P, _, .inr ⟨rfl, by rw [← HT.out.1]; exact hsz, rfl⟩, hC3, hb3⟩
        case measure =>
          rw [hs3.out, hsw.out, if_pos hsz, if_neg (by have h := HNOK.out.lo; rw [norm, if_pos (by rw [← HT.out.1]; exact hsz)] at h; have h' : 16777216 ≤ 256 * P.size := h; rw [← HT.out.1] at h'; omega)]
          omega
      · have hfin := hide (show DecP wr g t (norm P) (if P.size < 16777216 then (256 * x1 + tbN t (s.n + 4)) % 18446744073709551616 else x1) by
          have h0 := hrow.out
          rcases hu.out with ⟨h1, h2⟩ | ⟨h1, h2, h3⟩
          · rw [norm, if_neg (by rw [← h1]; exact hsz), if_neg (by rw [← h1]; exact hsz), ← h1, ← h2]; exact h0
          · rw [if_pos h2, ← h1, ← h3]; exact h0)
        have SW := hide (imp_widen_no g 122 u.size y u.ch _ wr hsz hr)
        clear hr hu hrow
        go_wp2_with fail
        refine SW.out.mono ?_
        rintro e w1 ⟨rfl, rfl⟩
        go_wp2_with fail
        go_ret
        exact ⟨by rw [HBIT.out]; rfl, by rw [HBIT.out]; show DecP _ g t (norm (part1 s c _)) (dx (tbN t) s x c); rw [dx, HBIT.out, ← HPE2.out, ← HX1E.out]; exact hfin.out, hbel.out⟩
end Go.Proofs.YtdoodkabmeojmaaDoor

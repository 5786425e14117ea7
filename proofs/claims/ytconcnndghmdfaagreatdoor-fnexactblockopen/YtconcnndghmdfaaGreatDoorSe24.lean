/- The walk over the model's l10Open where the two numbers are right. By mkopen.py. -/
import Derived.Test.YtconcnndghmdfaaGreatDoorSe21
namespace Go.Proofs.YtconcnndghmdfaaGreatDoor
open Go.RowKit Go
set_option maxRecDepth 100000 in
set_option maxHeartbeats 6400000 in
theorem spec_open_good (H M b C U : ByteArray) (N F : Nat) (w : World) (hM : M.size ≤ 20000) (hs : 18 ≤ b.size) (hb : b.size ≤ 20000) (hX : take16 (macT M (bodyX b)) = tailX b) (hok : headOk (bodyX b) (N : Int)) (hF2 : unfold (num2 (bodyX b)).2.1 = (F : Int)) (hus : U.size ≤ 4000)
    (SC : Hid (∀ W : World, Calls Tryz.prog 58 #[.string H, .int .i64 (N : Int), .string (restX (bodyX b))] W fun e w' => e = .returned (.string C) ∧ Below W.heap.size W w')) (SU : Hid (∀ W : World, Calls Tryz.prog 69 #[.string C] W fun e w' => e = .returned (.agg #[.string U, .int .i64 0, .int .i64 0]) ∧ Below W.heap.size W w')) :
    Calls Tryz.prog 41 #[.agg #[.string H, .string M], .int .i64 (N : Int), .string b] w fun e w' => e = .returned (textO (sumB U (F : Int)) 0) ∧ Below w.heap.size w w' := by
  have h' : ¬ (b.size : Int) < 18 := by omega
  obtain ⟨L, hL⟩ : ∃ L, b.size = L + 16 := ⟨b.size - 16, by omega⟩
  have hn : (b.size : Int) - 16 = (L : Int) := by omega
  have hbd : b.extract 0 L = bodyX b := by unfold bodyX; rw [show b.size - 16 = L by omega]
  have htl : b.extract L b.size = tailX b := by unfold tailX; rw [show b.size - 16 = L by omega]
  have hls : (bodyX b).size = L := by rw [bodyX_size]; omega
  have hl2 : ((bodyX b).size : Int) = (L : Int) := by omega
  have hsl1 : ∀ W : World, (Instr.slice 9 (.string b) none (some (.int .i64 (L : Int))) none).run Tryz.prog W = .ok (.string (bodyX b)) W := fun W => by rw [← hbd]; exact run_front (P := Tryz.prog) W 9 b L Tryz.underlying9 (by omega)
  have hsl2 : ∀ W : World, (Instr.slice 9 (.string b) (some (.int .i64 (L : Int))) none none).run Tryz.prog W = .ok (.string (tailX b)) W := fun W => by rw [← htl]; exact run_back (P := Tryz.prog) W 9 b L Tryz.underlying9 (by omega)
  have HX := macT_size M (bodyX b)
  have SM := hide (fun W => spec_mac M (bodyX b) W hM (by omega))
  have hsl3 : ∀ W : World, (Instr.slice 9 (.string (macT M (bodyX b))) none (some (.int .i64 16)) none).run Tryz.prog W = .ok (.string (take16 (macT M (bodyX b)))) W := fun W => run_front (P := Tryz.prog) W 9 (macT M (bodyX b)) 16 Tryz.underlying9 (by rw [HX]; decide)
  have hX' : (16 : Int) ≤ ((macT M (bodyX b)).size : Int) := by rw [HX]; decide
  have HB : OpW w H M _ := OpW.start (w := w) (H := H) (M := M)
  have c1 := HB.c1
  have HB := hide HB
  have hXeq : take16 (macT M (bodyX b)) = tailX b := hX
  rw [← hXeq] at hsl2
  obtain ⟨n1, q1, e1, f1, g1⟩ := num1_agg (bodyX b)
  obtain ⟨n2, a2, q2, e2, f2, g2⟩ := num2_agg (bodyX b)
  have hA := num1_le (bodyX b)
  have SG1' : ∀ W : World, Calls Tryz.prog 68 #[.string (bodyX b), .int .i64 0] W fun e w' => e = .returned (.agg #[.int .i64 n1, .int .i64 ((num1 (bodyX b)).2.2 : Int), .int .i64 q1]) ∧ Below W.heap.size W w' := fun W => by
    have h := spec_getNum (bodyX b) 0 W (by omega) (by decide)
    rw [show decAt (bodyX b) 0 = num1 (bodyX b) from rfl, e1] at h
    exact h
  have SG1 := hide SG1'
  have SG2' : ∀ W : World, Calls Tryz.prog 68 #[.string (bodyX b), .int .i64 ((num1 (bodyX b)).2.2 : Int)] W fun e w' => e = .returned (.agg #[.int .i64 n2, .int .i64 a2, .int .i64 q2]) ∧ Below W.heap.size W w' := fun W => by
    have h := spec_getNum (bodyX b) (num1 (bodyX b)).2.2 W (by omega) (by omega)
    rw [show decAt (bodyX b) (num1 (bodyX b)).2.2 = num2 (bodyX b) from rfl, e2] at h
    exact h
  have SG2 := hide SG2'
  clear SG1' SG2' e1 e2
  obtain ⟨hk1, hk2, hk3, hk4, hk5⟩ := hok
  have k1 : q1 = 0 := f1.2 hk1
  have k2 : q2 = 0 := f2.2 hk2
  have k3 : n1 = (N : Int) := (g1 k1).trans hk3
  have k4 : n2 = (F : Int) := ((g2 k2).1).trans hF2
  have k5 := (g2 k2).2
  have hF5 : (F : Int) ≤ 256 := by rw [← hF2]; exact hk5
  clear hk1 hk2 hk3 hk4 hk5 f1 g1 f2 g2 hF2
  subst k1 k2 k3 k4 k5
  have hFR := fromX_le (bodyX b)
  have hrx : (bodyX b).extract (fromX (bodyX b)) (bodyX b).size = restX (bodyX b) := rfl
  have hsl4 : ∀ W : World, (Instr.slice 9 (.string (bodyX b)) (some (.int .i64 (fromX (bodyX b) : Int))) none none).run Tryz.prog W = .ok (.string (restX (bodyX b))) W := fun W => by rw [← hrx]; exact run_back (P := Tryz.prog) W 9 (bodyX b) (fromX (bodyX b)) Tryz.underlying9 hFR
  clear hrx hFR
  generalize restX (bodyX b) = RX at *
  generalize fromX (bodyX b) = R at *
  generalize take16 (macT M (bodyX b)) = X at *
  generalize macT M (bodyX b) = XX at *
  generalize (num1 (bodyX b)).2.2 = A at *
  generalize bodyX b = BD at *
  generalize tailX b = TL at *
  clear hbd htl HX hls hX hXeq hA
  unfold textO
  by_cases hf : (0 : Int) < (F : Int)
  · have SD' : ∀ W : World, Calls Tryz.prog 70 #[.string U, .int .i64 (F : Int)] W fun e w' => e = .returned (.string (sumB U (F : Int))) ∧ Below W.heap.size W w' := fun W => by
      have h := spec_sumA U F W (by omega) (by omega) (by omega)
      rw [show sumB U (F : Int) = ⟨((List.range U.size).map (sumF (bF U) F)).toArray⟩ from if_pos hf]
      exact h
    have SD := hide SD'
    clear SD' hus
    generalize sumB U (F : Int) = V at *
    go_enter Tryz.func41, Tryz.ntmps41
    go_wp2_with fail
    go_region_with ((go_at_call 34; refine (SM.out _).mono ?_; rintro e w2 ⟨rfl, hb2⟩; have HB := hide (show OpW w H M w2 by first | exact HB.out.call hb2 | exact HB.out.call' hb2 | exact HB.out.drew.call hb2); clear hb2))
    go_wp2_with fail
    refine (SG1.out _).mono ?_
    rintro e w3 ⟨rfl, hb3⟩
    have HB := hide (HB.out.call hb3)
    clear hb3 SG1 SM
    go_wp2_with fail
    refine (SG2.out _).mono ?_
    rintro e w4 ⟨rfl, hb4⟩
    have HX := hide ((OpY.one HB.out).call hb4)
    clear hb4 SG2 HB
    generalize w3.heap.size = bx at *
    have HX5 := HX.out.alloc (.cells #[.int .i64 (F : Int), .int .i64 (R : Int), .int .i64 0] 91)
    have HY := hide (OpY.one (n := (F : Int)) (a := (R : Int)) (c := 0) HX.out.o)
    have x0 := HX5.y0
    have x2 := HX5.y2
    have r0 := HX5.o.r0
    have r1 := HX5.o.r1
    have r2 := HX5.o.r2
    have fz := HX5.o.fz
    have c0 := HX5.o.c0
    have HB := hide HX5.o
    clear HX HX5
    go_wp2_with fail
    clear HB r0 r1 r2 fz x0 x2
    have HY := hide HY.out.drew
    go_region_held3 (fun W' => W'.cell? ⟨w.heap.size, 0, none⟩ = some (.string H) ∧ W'.cell? ⟨w4.heap.size, 1, none⟩ = some (.int .i64 (R : Int))) (first | exact ⟨HZ.out.oy.o.c0, HZ.out.oy.y1⟩ | exact ⟨HY.out.o.c0, HY.out.y1⟩ | exact ⟨(OpZ.one HY.out).oy.o.c0, (OpZ.one HY.out).oy.y1⟩ | exact ⟨(HZ.out.set _ _ _).o.c0, (HZ.out.set _ _ _).y1⟩ | exact ⟨(HY.out.alloc _).o.c0, (HY.out.alloc _).y1⟩ | go_keep) (first | (go_at_call 58; refine (SC.out _).mono ?_; rintro e w6 ⟨rfl, hb6⟩; first | (have HZ := hide (HZ.out.call hb6); have z0 := HZ.out.z0; have z1 := HZ.out.z1; have z2 := HZ.out.z2; have zf := HZ.out.fz; clear hb6) | (have HZ := hide (show OpZ w H M w4.heap.size (F : Int) (R : Int) 0 (w4.heap.size + 1) w6 from (OpZ.here HY.out (by simp)).call hb6); have z0 := HZ.out.z0; have z1 := HZ.out.z1; have z2 := HZ.out.z2; have zf := HZ.out.fz; clear hb6) | (have HZ := hide ((OpZ.one HY.out).call hb6); have z0 := HZ.out.z0; have z1 := HZ.out.z1; have z2 := HZ.out.z2; have zf := HZ.out.fz; clear hb6) | (have HY := hide (HY.out.call hb6); clear hb6)) | (go_at_call 69; refine (SU.out _).mono ?_; rintro e w6 ⟨rfl, hb6⟩; first | (have HZ := hide (HZ.out.call hb6); have z0 := HZ.out.z0; have z1 := HZ.out.z1; have z2 := HZ.out.z2; have zf := HZ.out.fz; clear hb6) | (have HZ := hide (show OpZ w H M w4.heap.size (F : Int) (R : Int) 0 (w4.heap.size + 1) w6 from (OpZ.here HY.out (by simp)).call hb6); have z0 := HZ.out.z0; have z1 := HZ.out.z1; have z2 := HZ.out.z2; have zf := HZ.out.fz; clear hb6) | (have HZ := hide ((OpZ.one HY.out).call hb6); have z0 := HZ.out.z0; have z1 := HZ.out.z1; have z2 := HZ.out.z2; have zf := HZ.out.fz; clear hb6) | (have HY := hide (HY.out.call hb6); clear hb6)))
    all_goals (
      first
      | (have HF := HZ.out.set (.string U) (.int .i64 0) (.int .i64 0)
         have HR := HZ.out.fin (.string U) (.int .i64 0) (.int .i64 0)
         clear z0 z1 z2 zf
         have z0 := cell_row3 HR 0 _ rfl
         have z2 := cell_row3 HR 2 _ rfl
         have y0 := HF.y0
         have r0 := HF.o.r0
         have r1 := HF.o.r1
         have r2 := HF.o.r2
         have fz := HF.o.fz
         have HB := hide HF.o
         clear HF HR
         go_wp2_with fail
         refine (SD.out _).mono ?_
         rintro e w8 ⟨rfl, hb8⟩
         have HB8 := hide (HB.out.call hb8)
         clear hb8 r0 r1 r2 fz
         have r0 := HB8.out.r0
         have r1 := HB8.out.r1
         have r2 := HB8.out.r2
         have fz := HB8.out.fz
         go_wp2_with fail
         exact bodyPost_ret (results_cell_row Tryz.results41 _ _ (w.heap.size + 1) 31 #[.string V, .int .i64 0, .int .i64 0] (0, 0) _ rfl (HB8.out.all _ _ _) Tryz.underlying31 rfl (by kernel_rfl)) rfl ⟨rfl, HB8.out.set3 _ _ _⟩)
      | (have HF := HY.out.alloc (.cells #[.string U, .int .i64 0, .int .i64 0] 31)
         have y0 := HF.y0
         have r0 := HF.o.r0
         have r1 := HF.o.r1
         have r2 := HF.o.r2
         have fz := HF.o.fz
         have HB := hide HF.o
         clear HF
         go_wp2_with fail
         refine (SD.out _).mono ?_
         rintro e w8 ⟨rfl, hb8⟩
         have HB8 := hide (HB.out.call hb8)
         clear hb8 r0 r1 r2 fz
         have r0 := HB8.out.r0
         have r1 := HB8.out.r1
         have r2 := HB8.out.r2
         have fz := HB8.out.fz
         go_wp2_with fail
         exact bodyPost_ret (results_cell_row Tryz.results41 _ _ (w.heap.size + 1) 31 #[.string V, .int .i64 0, .int .i64 0] (0, 0) _ rfl (HB8.out.all _ _ _) Tryz.underlying31 rfl (by kernel_rfl)) rfl ⟨rfl, HB8.out.set3 _ _ _⟩))
  · rw [show sumB U (F : Int) = U from if_neg hf]
    clear hus
    go_enter Tryz.func41, Tryz.ntmps41
    go_wp2_with fail
    go_region_with ((go_at_call 34; refine (SM.out _).mono ?_; rintro e w2 ⟨rfl, hb2⟩; have HB := hide (show OpW w H M w2 by first | exact HB.out.call hb2 | exact HB.out.call' hb2 | exact HB.out.drew.call hb2); clear hb2))
    go_wp2_with fail
    refine (SG1.out _).mono ?_
    rintro e w3 ⟨rfl, hb3⟩
    have HB := hide (HB.out.call hb3)
    clear hb3 SG1 SM
    go_wp2_with fail
    refine (SG2.out _).mono ?_
    rintro e w4 ⟨rfl, hb4⟩
    have HX := hide ((OpY.one HB.out).call hb4)
    clear hb4 SG2 HB
    generalize w3.heap.size = bx at *
    have HX5 := HX.out.alloc (.cells #[.int .i64 (F : Int), .int .i64 (R : Int), .int .i64 0] 91)
    have HY := hide (OpY.one (n := (F : Int)) (a := (R : Int)) (c := 0) HX.out.o)
    have x0 := HX5.y0
    have x2 := HX5.y2
    have r0 := HX5.o.r0
    have r1 := HX5.o.r1
    have r2 := HX5.o.r2
    have fz := HX5.o.fz
    have c0 := HX5.o.c0
    have HB := hide HX5.o
    clear HX HX5
    go_wp2_with fail
    clear HB r0 r1 r2 fz x0 x2
    have HY := hide HY.out.drew
    go_region_held3 (fun W' => W'.cell? ⟨w.heap.size, 0, none⟩ = some (.string H) ∧ W'.cell? ⟨w4.heap.size, 1, none⟩ = some (.int .i64 (R : Int))) (first | exact ⟨HZ.out.oy.o.c0, HZ.out.oy.y1⟩ | exact ⟨HY.out.o.c0, HY.out.y1⟩ | exact ⟨(OpZ.one HY.out).oy.o.c0, (OpZ.one HY.out).oy.y1⟩ | exact ⟨(HZ.out.set _ _ _).o.c0, (HZ.out.set _ _ _).y1⟩ | exact ⟨(HY.out.alloc _).o.c0, (HY.out.alloc _).y1⟩ | go_keep) (first | (go_at_call 58; refine (SC.out _).mono ?_; rintro e w6 ⟨rfl, hb6⟩; first | (have HZ := hide (HZ.out.call hb6); have z0 := HZ.out.z0; have z1 := HZ.out.z1; have z2 := HZ.out.z2; have zf := HZ.out.fz; clear hb6) | (have HZ := hide (show OpZ w H M w4.heap.size (F : Int) (R : Int) 0 (w4.heap.size + 1) w6 from (OpZ.here HY.out (by simp)).call hb6); have z0 := HZ.out.z0; have z1 := HZ.out.z1; have z2 := HZ.out.z2; have zf := HZ.out.fz; clear hb6) | (have HZ := hide ((OpZ.one HY.out).call hb6); have z0 := HZ.out.z0; have z1 := HZ.out.z1; have z2 := HZ.out.z2; have zf := HZ.out.fz; clear hb6) | (have HY := hide (HY.out.call hb6); clear hb6)) | (go_at_call 69; refine (SU.out _).mono ?_; rintro e w6 ⟨rfl, hb6⟩; first | (have HZ := hide (HZ.out.call hb6); have z0 := HZ.out.z0; have z1 := HZ.out.z1; have z2 := HZ.out.z2; have zf := HZ.out.fz; clear hb6) | (have HZ := hide (show OpZ w H M w4.heap.size (F : Int) (R : Int) 0 (w4.heap.size + 1) w6 from (OpZ.here HY.out (by simp)).call hb6); have z0 := HZ.out.z0; have z1 := HZ.out.z1; have z2 := HZ.out.z2; have zf := HZ.out.fz; clear hb6) | (have HZ := hide ((OpZ.one HY.out).call hb6); have z0 := HZ.out.z0; have z1 := HZ.out.z1; have z2 := HZ.out.z2; have zf := HZ.out.fz; clear hb6) | (have HY := hide (HY.out.call hb6); clear hb6)))
    all_goals (
      first
      | (have HF := HZ.out.set (.string U) (.int .i64 0) (.int .i64 0)
         have HR := HZ.out.fin (.string U) (.int .i64 0) (.int .i64 0)
         clear z0 z1 z2 zf
         have z0 := cell_row3 HR 0 _ rfl
         have z2 := cell_row3 HR 2 _ rfl
         have y0 := HF.y0
         have r0 := HF.o.r0
         have r1 := HF.o.r1
         have r2 := HF.o.r2
         have fz := HF.o.fz
         have HB := hide HF.o
         clear HF HR
         go_wp2_with fail
         exact bodyPost_ret (results_cell_row Tryz.results41 _ _ (w.heap.size + 1) 31 #[.string U, .int .i64 0, .int .i64 0] (0, 0) _ rfl (HB.out.all _ _ _) Tryz.underlying31 rfl (by kernel_rfl)) rfl ⟨rfl, HB.out.set3 _ _ _⟩)
      | (have HF := HY.out.alloc (.cells #[.string U, .int .i64 0, .int .i64 0] 31)
         have y0 := HF.y0
         have r0 := HF.o.r0
         have r1 := HF.o.r1
         have r2 := HF.o.r2
         have fz := HF.o.fz
         have HB := hide HF.o
         clear HF
         go_wp2_with fail
         exact bodyPost_ret (results_cell_row Tryz.results41 _ _ (w.heap.size + 1) 31 #[.string U, .int .i64 0, .int .i64 0] (0, 0) _ rfl (HB.out.all _ _ _) Tryz.underlying31 rfl (by kernel_rfl)) rfl ⟨rfl, HB.out.set3 _ _ _⟩))
end Go.Proofs.YtconcnndghmdfaaGreatDoor

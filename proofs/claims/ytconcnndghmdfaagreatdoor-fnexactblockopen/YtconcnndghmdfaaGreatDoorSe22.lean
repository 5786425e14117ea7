/- The walk over the model's l10Open where the two numbers are wrong. By mkopen.py. -/
import Derived.Test.YtconcnndghmdfaaGreatDoorSe21
namespace Go.Proofs.YtconcnndghmdfaaGreatDoor
open Go.RowKit Go
set_option maxRecDepth 100000 in
set_option maxHeartbeats 6400000 in
theorem spec_open_head (H M b : ByteArray) (N : Nat) (w : World) (hM : M.size ≤ 20000) (hs : 18 ≤ b.size) (hb : b.size ≤ 20000) (hX : take16 (macT M (bodyX b)) = tailX b) (hno : ¬ headOk (bodyX b) (N : Int)) :
    Calls Tryz.prog 41 #[.agg #[.string H, .string M], .int .i64 (N : Int), .string b] w fun e w' => e = .returned (textO ⟨#[]⟩ 5) ∧ Below w.heap.size w w' := by
  have h' : ¬ (b.size : Int) < 18 := by omega
  obtain ⟨L, hL⟩ : ∃ L, b.size = L + 16 := ⟨b.size - 16, by omega⟩
  have hn : (b.size : Int) - 16 = (L : Int) := by omega
  have hbd : b.extract 0 L = bodyX b := by unfold bodyX; rw [show b.size - 16 = L by omega]
  have htl : b.extract L b.size = tailX b := by unfold tailX; rw [show b.size - 16 = L by omega]
  have hls : (bodyX b).size = L := by rw [bodyX_size]; omega
  have hl2 : ((bodyX b).size : Int) = (L : Int) := by omega
  have hsl1 : ∀ W : World, (Instr.slice 9 (.string b) none (some (.int .i64 (L : Int))) none).run Tryz.prog W = .ok (.string (bodyX b)) W := fun W => by rw [← hbd]; exact run_front (P := Tryz.prog) W 9 b L Tryz.underlying9 (by omega)
  have hsl2 : ∀ W : World, (Instr.slice 9 (.string b) (some (.int .i64 (L : Int))) none none).run Tryz.prog W = .ok (.string (tailX b)) W := fun W => by rw [← htl]; exact run_back (P := Tryz.prog) W 9 b L Tryz.underlying9 (by omega)
  have HX := macT_size M (bodyX b)
  have SM := hide (fun W => spec_mac M (bodyX b) W hM (by omega))
  have hsl3 : ∀ W : World, (Instr.slice 9 (.string (macT M (bodyX b))) none (some (.int .i64 16)) none).run Tryz.prog W = .ok (.string (take16 (macT M (bodyX b)))) W := fun W => run_front (P := Tryz.prog) W 9 (macT M (bodyX b)) 16 Tryz.underlying9 (by rw [HX]; decide)
  have hX' : (16 : Int) ≤ ((macT M (bodyX b)).size : Int) := by rw [HX]; decide
  have HB : OpW w H M _ := OpW.start (w := w) (H := H) (M := M)
  have c1 := HB.c1
  have HB := hide HB
  have hXeq : take16 (macT M (bodyX b)) = tailX b := hX
  rw [← hXeq] at hsl2
  obtain ⟨n1, q1, e1, f1, g1⟩ := num1_agg (bodyX b)
  obtain ⟨n2, a2, q2, e2, f2, g2⟩ := num2_agg (bodyX b)
  have hA := num1_le (bodyX b)
  have SG1' : ∀ W : World, Calls Tryz.prog 68 #[.string (bodyX b), .int .i64 0] W fun e w' => e = .returned (.agg #[.int .i64 n1, .int .i64 ((num1 (bodyX b)).2.2 : Int), .int .i64 q1]) ∧ Below W.heap.size W w' := fun W => by
    have h := spec_getNum (bodyX b) 0 W (by omega) (by decide)
    rw [show decAt (bodyX b) 0 = num1 (bodyX b) from rfl, e1] at h
    exact h
  have SG1 := hide SG1'
  have SG2' : ∀ W : World, Calls Tryz.prog 68 #[.string (bodyX b), .int .i64 ((num1 (bodyX b)).2.2 : Int)] W fun e w' => e = .returned (.agg #[.int .i64 n2, .int .i64 a2, .int .i64 q2]) ∧ Below W.heap.size W w' := fun W => by
    have h := spec_getNum (bodyX b) (num1 (bodyX b)).2.2 W (by omega) (by omega)
    rw [show decAt (bodyX b) (num1 (bodyX b)).2.2 = num2 (bodyX b) from rfl, e2] at h
    exact h
  have SG2 := hide SG2'
  clear SG1' SG2' e1 e2
  have hbad : ¬ (q1 = 0 ∧ q2 = 0 ∧ n1 = (N : Int) ∧ 0 ≤ n2 ∧ n2 ≤ 256) := fun h => hno ⟨f1.1 h.1, f2.1 h.2.1, by rw [← g1 h.1]; exact h.2.2.1, by rw [← (g2 h.2.1).1]; exact h.2.2.2.1, by rw [← (g2 h.2.1).1]; exact h.2.2.2.2⟩
  clear hno f1 g1 f2 g2
  generalize take16 (macT M (bodyX b)) = X at *
  generalize macT M (bodyX b) = XX at *
  generalize (num1 (bodyX b)).2.2 = A at *
  generalize bodyX b = BD at *
  generalize tailX b = TL at *
  clear hbd htl HX hls hX hXeq hA
  unfold textO
  by_cases k1 : q1 = 0
  · subst k1
    by_cases k2 : q2 = 0
    · subst k2
      by_cases k3 : n1 = (N : Int)
      · subst k3
        by_cases k4 : 0 ≤ n2
        · have k5 : 256 < n2 := by
            rcases Int.lt_or_le 256 n2 with h | h
            · exact h
            · exact absurd ⟨rfl, rfl, rfl, k4, h⟩ hbad
          have k4' : ¬ n2 < 0 := by omega
          have d4 : decide (n2 < 0) = false := decide_eq_false k4'
          have d5 : decide (256 < n2) = true := decide_eq_true k5
          clear hbad
          go_enter Tryz.func41, Tryz.ntmps41
          go_wp2_with fail
          go_region_with ((go_at_call 34; refine (SM.out _).mono ?_; rintro e w2 ⟨rfl, hb2⟩; have HB := hide (show OpW w H M w2 by first | exact HB.out.call hb2 | exact HB.out.call' hb2 | exact HB.out.drew.call hb2); clear hb2))
          go_wp2_with fail
          refine (SG1.out _).mono ?_
          rintro e w3 ⟨rfl, hb3⟩
          have HB := hide (HB.out.call hb3)
          clear hb3 SG1 SM
          go_wp2_with fail
          refine (SG2.out _).mono ?_
          rintro e w4 ⟨rfl, hb4⟩
          have HX := hide ((OpY.one HB.out).call hb4)
          clear hb4 SG2 HB
          generalize w3.heap.size = bx at *
          have HX5 := HX.out.alloc (.cells #[.int .i64 n2, .int .i64 a2, .int .i64 0] 91)
          have HY := hide (OpY.one (n := n2) (a := a2) (c := 0) HX.out.o)
          have x0 := HX5.y0
          have x2 := HX5.y2
          have r0 := HX5.o.r0
          have r1 := HX5.o.r1
          have r2 := HX5.o.r2
          have fz := HX5.o.fz
          have c0 := HX5.o.c0
          have HB := hide HX5.o
          clear HX HX5
          go_wp2_with fail
          exact bodyPost_ret (results_cell_row Tryz.results41 _ _ (w.heap.size + 1) 31 #[.string ⟨#[]⟩, .int .i64 0, .int .i64 5] (0, 0) _ rfl (HB.out.all _ _ _) Tryz.underlying31 rfl (by kernel_rfl)) rfl ⟨rfl, HB.out.set3 _ _ _⟩
        · have k4' : n2 < 0 := by omega
          have d4 : decide (n2 < 0) = true := decide_eq_true k4'
          clear hbad
          go_enter Tryz.func41, Tryz.ntmps41
          go_wp2_with fail
          go_region_with ((go_at_call 34; refine (SM.out _).mono ?_; rintro e w2 ⟨rfl, hb2⟩; have HB := hide (show OpW w H M w2 by first | exact HB.out.call hb2 | exact HB.out.call' hb2 | exact HB.out.drew.call hb2); clear hb2))
          go_wp2_with fail
          refine (SG1.out _).mono ?_
          rintro e w3 ⟨rfl, hb3⟩
          have HB := hide (HB.out.call hb3)
          clear hb3 SG1 SM
          go_wp2_with fail
          refine (SG2.out _).mono ?_
          rintro e w4 ⟨rfl, hb4⟩
          have HX := hide ((OpY.one HB.out).call hb4)
          clear hb4 SG2 HB
          generalize w3.heap.size = bx at *
          have HX5 := HX.out.alloc (.cells #[.int .i64 n2, .int .i64 a2, .int .i64 0] 91)
          have HY := hide (OpY.one (n := n2) (a := a2) (c := 0) HX.out.o)
          have x0 := HX5.y0
          have x2 := HX5.y2
          have r0 := HX5.o.r0
          have r1 := HX5.o.r1
          have r2 := HX5.o.r2
          have fz := HX5.o.fz
          have c0 := HX5.o.c0
          have HB := hide HX5.o
          clear HX HX5
          go_wp2_with fail
          exact bodyPost_ret (results_cell_row Tryz.results41 _ _ (w.heap.size + 1) 31 #[.string ⟨#[]⟩, .int .i64 0, .int .i64 5] (0, 0) _ rfl (HB.out.all _ _ _) Tryz.underlying31 rfl (by kernel_rfl)) rfl ⟨rfl, HB.out.set3 _ _ _⟩
      · have d3 : (n1 == (N : Int)) = false := beq_eq_false_iff_ne.2 k3
        clear hbad
        go_enter Tryz.func41, Tryz.ntmps41
        go_wp2_with fail
        go_region_with ((go_at_call 34; refine (SM.out _).mono ?_; rintro e w2 ⟨rfl, hb2⟩; have HB := hide (show OpW w H M w2 by first | exact HB.out.call hb2 | exact HB.out.call' hb2 | exact HB.out.drew.call hb2); clear hb2))
        go_wp2_with fail
        refine (SG1.out _).mono ?_
        rintro e w3 ⟨rfl, hb3⟩
        have HB := hide (HB.out.call hb3)
        clear hb3 SG1 SM
        go_wp2_with fail
        refine (SG2.out _).mono ?_
        rintro e w4 ⟨rfl, hb4⟩
        have HX := hide ((OpY.one HB.out).call hb4)
        clear hb4 SG2 HB
        generalize w3.heap.size = bx at *
        have HX5 := HX.out.alloc (.cells #[.int .i64 n2, .int .i64 a2, .int .i64 0] 91)
        have HY := hide (OpY.one (n := n2) (a := a2) (c := 0) HX.out.o)
        have x0 := HX5.y0
        have x2 := HX5.y2
        have r0 := HX5.o.r0
        have r1 := HX5.o.r1
        have r2 := HX5.o.r2
        have fz := HX5.o.fz
        have c0 := HX5.o.c0
        have HB := hide HX5.o
        clear HX HX5
        go_wp2_with fail
        exact bodyPost_ret (results_cell_row Tryz.results41 _ _ (w.heap.size + 1) 31 #[.string ⟨#[]⟩, .int .i64 0, .int .i64 5] (0, 0) _ rfl (HB.out.all _ _ _) Tryz.underlying31 rfl (by kernel_rfl)) rfl ⟨rfl, HB.out.set3 _ _ _⟩
    · have d2 : (q2 == 0) = false := beq_eq_false_iff_ne.2 k2
      clear hbad
      go_enter Tryz.func41, Tryz.ntmps41
      go_wp2_with fail
      go_region_with ((go_at_call 34; refine (SM.out _).mono ?_; rintro e w2 ⟨rfl, hb2⟩; have HB := hide (show OpW w H M w2 by first | exact HB.out.call hb2 | exact HB.out.call' hb2 | exact HB.out.drew.call hb2); clear hb2))
      go_wp2_with fail
      refine (SG1.out _).mono ?_
      rintro e w3 ⟨rfl, hb3⟩
      have HB := hide (HB.out.call hb3)
      clear hb3 SG1 SM
      go_wp2_with fail
      refine (SG2.out _).mono ?_
      rintro e w4 ⟨rfl, hb4⟩
      have HX := hide ((OpY.one HB.out).call hb4)
      clear hb4 SG2 HB
      generalize w3.heap.size = bx at *
      have HX5 := HX.out.alloc (.cells #[.int .i64 n2, .int .i64 a2, .int .i64 q2] 91)
      have HY := hide (OpY.one (n := n2) (a := a2) (c := q2) HX.out.o)
      have x0 := HX5.y0
      have x2 := HX5.y2
      have r0 := HX5.o.r0
      have r1 := HX5.o.r1
      have r2 := HX5.o.r2
      have fz := HX5.o.fz
      have c0 := HX5.o.c0
      have HB := hide HX5.o
      clear HX HX5
      go_wp2_with fail
      exact bodyPost_ret (results_cell_row Tryz.results41 _ _ (w.heap.size + 1) 31 #[.string ⟨#[]⟩, .int .i64 0, .int .i64 5] (0, 0) _ rfl (HB.out.all _ _ _) Tryz.underlying31 rfl (by kernel_rfl)) rfl ⟨rfl, HB.out.set3 _ _ _⟩
  · have d1 : (q1 == 0) = false := beq_eq_false_iff_ne.2 k1
    clear hbad
    go_enter Tryz.func41, Tryz.ntmps41
    go_wp2_with fail
    go_region_with ((go_at_call 34; refine (SM.out _).mono ?_; rintro e w2 ⟨rfl, hb2⟩; have HB := hide (show OpW w H M w2 by first | exact HB.out.call hb2 | exact HB.out.call' hb2 | exact HB.out.drew.call hb2); clear hb2))
    go_wp2_with fail
    refine (SG1.out _).mono ?_
    rintro e w3 ⟨rfl, hb3⟩
    have HB := hide (HB.out.call hb3)
    clear hb3 SG1 SM
    go_wp2_with fail
    refine (SG2.out _).mono ?_
    rintro e w4 ⟨rfl, hb4⟩
    have HX := hide ((OpY.one HB.out).call hb4)
    clear hb4 SG2 HB
    generalize w3.heap.size = bx at *
    have HX5 := HX.out.alloc (.cells #[.int .i64 n2, .int .i64 a2, .int .i64 q2] 91)
    have HY := hide (OpY.one (n := n2) (a := a2) (c := q2) HX.out.o)
    have x0 := HX5.y0
    have x2 := HX5.y2
    have r0 := HX5.o.r0
    have r1 := HX5.o.r1
    have r2 := HX5.o.r2
    have fz := HX5.o.fz
    have c0 := HX5.o.c0
    have HB := hide HX5.o
    clear HX HX5
    go_wp2_with fail
    exact bodyPost_ret (results_cell_row Tryz.results41 _ _ (w.heap.size + 1) 31 #[.string ⟨#[]⟩, .int .i64 0, .int .i64 5] (0, 0) _ rfl (HB.out.all _ _ _) Tryz.underlying31 rfl (by kernel_rfl)) rfl ⟨rfl, HB.out.set3 _ _ _⟩
end Go.Proofs.YtconcnndghmdfaaGreatDoor

/- The program's putToken and Pack. -/
import Derived.Test.YtconcnndghmdfaaGreatDoorSa39
namespace Go.Proofs.YtconcnndghmdfaaGreatDoor
open Go.RowKit
theorem tokBits_byte (t : Tok) (h : t.f = 0) : tokBits t = (0, false) :: tree t.b.toNat 8 16 := if_pos h
theorem tokBits_match (t : Tok) (h : t.f ≠ 0) : tokBits t = (0, true) :: (tree (t.m - 3).toNat 6 300 ++ tree (t.f - 1).toNat 10 400) := if_neg h
set_option maxRecDepth 100000 in
set_option maxHeartbeats 1600000 in
theorem imp_putToken (b0 g N : Nat) (Mo : Nat → Prop) (s : RC) (t : Tok) (w : World) (ht : tokOk t = true) (hok : RcOk s) (hsn : s.n ≤ 70000) (hbg : b0 ≤ g) (hcod : CodK w b0 g N Mo s) (hN : N ≤ w.heap.size) :
    Calls Tryz.prog 55 #[.pointer (some ⟨g, 0, none⟩), .agg #[.int .i64 t.b, .int .i64 t.m, .int .i64 t.f]] w fun e w' => e = .returned (.tuple #[]) ∧ CodK w' b0 g N Mo (run s (tokBits t)) ∧ Below b0 w w' ∧ FrK N g Mo w w' := by
  have HC := hide hcod
  have HOK := hide hok
  have hgl : g < w.heap.size := by obtain ⟨_, hr, _⟩ := hcod; exact hr.lt
  obtain ⟨z, hz⟩ : ∃ z, z = w.heap.size := ⟨_, rfl⟩
  obtain ⟨ob, hob, hcut⟩ := hcod.split
  have hal : Below w.heap.size w (w.alloc (.cells #[.int .i64 t.b, .int .i64 t.m, .int .i64 t.f] 80)) := (Below.refl _ w).alloc (Nat.le_refl _) _
  have C1 := hide (hcut _ hal.block (z + 1))
  have q1 : (w.alloc (.cells #[.int .i64 t.b, .int .i64 t.m, .int .i64 t.f] 80)).heap[z]? = some (.cells #[.int .i64 t.b, .int .i64 t.m, .int .i64 t.f] 80) := by rw [hz]; exact heap_alloc_new w _
  have s1 : (w.alloc (.cells #[.int .i64 t.b, .int .i64 t.m, .int .i64 t.f] 80)).heap.size = z + 1 := by simp [hz]
  have F1 := hide (FrK.of_below (g := g) (Mo := Mo) hal hN)
  have B1 := hide (hal.mono (show b0 ≤ w.heap.size by omega))
  have HOB := hide hob
  have HZ := hide hz
  have hgz : g < z := by omega
  have hNz : N ≤ z := by omega
  have htwo := tokOk_two t ht
  obtain ⟨tb, tm, tf⟩ := t
  simp only at htwo C1 q1 s1 F1 B1
  have HF := hide (show ∀ (W W' : World), FrK (z + 1) g (fun k => ob = some k) W W' → W'.heap[z]? = W.heap[z]? from fun W W' h => h.2 z (by omega) (by omega) (fun e => by have := (HOB.out z e).2; omega))
  have HJ := hide (show ∀ (W W' : World), FrK (z + 1) g (fun k => ob = some k) W W' → FrK N g Mo W W' from fun W W' h => h.join (fun j hj => (HOB.out j hj).1) (by omega))
  clear hob hcut hal hcod hok hz
  by_cases hf0 : tf = 0
  · subst hf0
    obtain ⟨hb1, hb2⟩ : 0 ≤ tb ∧ tb ≤ 255 := by rcases htwo with h | h; exact h.2; exact absurd rfl h.1
    have hm0 : tm = 0 := by
      by_cases h0 : tm = 0
      · exact h0
      · have h := ht
        unfold tokOk at h
        rw [if_neg (fun h => h0 h.1)] at h
        have := of_decide_eq_true h
        have h1 : (1 : Int) ≤ 0 := this.2.2.2.1
        omega
    subst hm0
    obtain ⟨n, rfl⟩ : ∃ n : Nat, tb = (n : Int) := ⟨tb.toNat, by omega⟩
    have wb : IntKind.u8.wrap (n : Int) = (n : Int) := by rw [IntKind.wrap_u8]; omega
    have HT := hide (show tokBits ⟨(n : Int), 0, 0⟩ = (0, false) :: tree n 8 16 from by rw [tokBits_byte _ rfl]; rfl)
    have SI := hide (show ∀ u : World, Calls Tryz.prog 86 #[.agg #[.int .i64 (n : Int), .int .i64 0, .int .i64 0]] u (fun e w' => e = .returned (.bool false) ∧ Below u.heap.size u w') from fun u => by
      have h := imp_isMatch (n : Int) 0 0 u
      rw [show ((0 : Int) != 0) = false from rfl] at h
      exact h)
    have HQ := hide q1
    clear q1 htwo ht
    go_enter Tryz.func55, Tryz.ntmps55
    go_wp2_with fail
    refine (SI.out _).mono ?_
    rw [← HZ.out]
    generalize w.alloc (.cells #[.int .i64 (n : Int), .int .i64 0, .int .i64 0] 80) = W1 at *
    rintro e w2 ⟨rfl, hb2⟩
    have hs2 := hb2.size
    have C2 := C1.out.keep hb2.block
    have q2 := (hb2.block z (by omega)).trans HQ.out
    have SP := hide (imp_putK b0 g 0 (z + 1) (fun k => ob = some k) false s w2 HOK.out (by omega) (by omega) hbg C2 (by omega))
    have F2 := hide (FrK.of_below (g := g) (Mo := Mo) hb2 (show N ≤ W1.heap.size by omega))
    have B2 := hide (B1.out.trans (hb2.mono (show b0 ≤ W1.heap.size by omega)))
    have HQ2 := hide q2
    clear hb2 C2 q2 C1 HQ B1
    go_wp2_with fail
    refine SP.out.mono ?_
    rintro e w3 ⟨rfl, C3, hb3, hf3⟩
    have hs3 := hb3.size
    have q3 := (HF.out _ _ hf3).trans HQ2.out
    have F3 := hide ((F1.out.trans F2.out).trans (HJ.out _ _ hf3))
    have B3 := hide (B2.out.trans hb3)
    have HC3 := hide C3
    have HQ3 := hide q3
    have e0 : w3.cell? ⟨z, 0, none⟩ = some (.int .i64 (n : Int)) := by simp [World.cell?, q3]
    have e1 : w3.cell? ⟨z, 1, none⟩ = some (.int .i64 0) := by simp [World.cell?, q3]
    have e2 : w3.cell? ⟨z, 2, none⟩ = some (.int .i64 0) := by simp [World.cell?, q3]
    clear C3 hb3 hf3 q3 SP B2 F1 F2 HQ2
    go_wp2_with fail
    refine (SI.out _).mono ?_
    rintro e w4 ⟨rfl, hb4⟩
    have hs4 := hb4.size
    have C4 := HC3.out.keep hb4.block
    have q4 := (hb4.block z (by omega)).trans HQ3.out
    have f0 : w4.cell? ⟨z, 0, none⟩ = some (.int .i64 (n : Int)) := by simp [World.cell?, q4]
    have f1 : w4.cell? ⟨z, 1, none⟩ = some (.int .i64 0) := by simp [World.cell?, q4]
    have f2 : w4.cell? ⟨z, 2, none⟩ = some (.int .i64 0) := by simp [World.cell?, q4]
    have F4 := hide (F3.out.trans (FrK.of_below (g := g) (Mo := Mo) hb4 (show N ≤ w3.heap.size by omega)))
    have B4 := hide (B3.out.trans (hb4.mono (show b0 ≤ w3.heap.size by omega)))
    have OK1 := step_ok s 0 false HOK.out
    have ns0 := run_n_le [(0, false)] s
    have ns1 : (step s 0 false).n ≤ s.n + 1 := ns0
    clear ns0
    have HQ4 := hide q4
    have SL := hide (imp_lay8 b0 g n 8 16 (z + 1) (fun k => ob = some k) (step s 0 false) w4 (by omega) (by omega) (by omega) OK1 (by omega) hbg C4 (by omega))
    clear hb4 C4 q4 e0 e1 e2 HC3 HQ3 F3 B3 OK1 ns1 SI
    go_wp2_with fail
    refine SL.out.mono ?_
    rintro e w5 ⟨rfl, C5, hb5, hf5⟩
    have R1 := hide (show CodK w5 b0 g N Mo (run s (tokBits ⟨(n : Int), 0, 0⟩)) by rw [HT.out]; exact C5.join (fun j hj => (HOB.out j hj).1) (by omega))
    have R2 := hide (B4.out.trans hb5)
    have R3 := hide (F4.out.trans (HJ.out _ _ hf5))
    clear C5 hb5 hf5 SL f0 f1 f2
    go_wp2_with fail
    exact bodyPost_ret (v := .tuple #[]) (by simp [results, Tryz.results55]) rfl ⟨rfl, R1.out, R2.out, R3.out⟩
  · obtain ⟨hm1, hm2, hf1, hf2⟩ : 3 ≤ tm ∧ tm ≤ 66 ∧ 1 ≤ tf ∧ tf ≤ 1024 := by rcases htwo with h | h; exact absurd h.1 hf0; exact h.2
    have hb0 : tb = 0 := by
      have h := ht
      unfold tokOk at h
      rw [if_neg (fun h => hf0 h.2)] at h
      exact (of_decide_eq_true h).1
    subst hb0
    obtain ⟨M, hM⟩ : ∃ M : Nat, M = (tm - 3).toNat := ⟨_, rfl⟩
    obtain ⟨Fa, hFa⟩ : ∃ Fa : Nat, Fa = (tf - 1).toNat := ⟨_, rfl⟩
    have HT := hide (show tokBits ⟨0, tm, tf⟩ = ((0, true) :: tree M 6 300) ++ tree Fa 10 400 from by rw [tokBits_match _ hf0, hM, hFa]; rfl)
    have hM2 : (M : Int) = tm - 3 := by omega
    have hF2 : (Fa : Int) = tf - 1 := by omega
    have hMn : M ≤ 63 := by omega
    have hFn : Fa ≤ 1023 := by omega
    clear hM hFa
    have SI := hide (show ∀ u : World, Calls Tryz.prog 86 #[.agg #[.int .i64 0, .int .i64 tm, .int .i64 tf]] u (fun e w' => e = .returned (.bool true) ∧ Below u.heap.size u w') from fun u => by
      have h := imp_isMatch 0 tm tf u
      rw [show ((tm : Int) != 0) = true from by simp; omega] at h
      exact h)
    have HQ := hide q1
    clear q1 htwo ht
    go_enter Tryz.func55, Tryz.ntmps55
    go_wp2_with fail
    refine (SI.out _).mono ?_
    rw [← HZ.out]
    generalize w.alloc (.cells #[.int .i64 0, .int .i64 tm, .int .i64 tf] 80) = W1 at *
    rintro e w2 ⟨rfl, hb2⟩
    have hs2 := hb2.size
    have C2 := C1.out.keep hb2.block
    have q2 := (hb2.block z (by omega)).trans HQ.out
    have SP := hide (imp_putK b0 g 0 (z + 1) (fun k => ob = some k) true s w2 HOK.out (by omega) (by omega) hbg C2 (by omega))
    have F2 := hide (FrK.of_below (g := g) (Mo := Mo) hb2 (show N ≤ W1.heap.size by omega))
    have B2 := hide (B1.out.trans (hb2.mono (show b0 ≤ W1.heap.size by omega)))
    have HQ2 := hide q2
    clear hb2 C2 q2 C1 HQ B1
    go_wp2_with fail
    refine SP.out.mono ?_
    rintro e w3 ⟨rfl, C3, hb3, hf3⟩
    have hs3 := hb3.size
    have q3 := (HF.out _ _ hf3).trans HQ2.out
    have F3 := hide ((F1.out.trans F2.out).trans (HJ.out _ _ hf3))
    have B3 := hide (B2.out.trans hb3)
    have HC3 := hide C3
    have HQ3 := hide q3
    have e0 : w3.cell? ⟨z, 0, none⟩ = some (.int .i64 0) := by simp [World.cell?, q3]
    have e1 : w3.cell? ⟨z, 1, none⟩ = some (.int .i64 tm) := by simp [World.cell?, q3]
    have e2 : w3.cell? ⟨z, 2, none⟩ = some (.int .i64 tf) := by simp [World.cell?, q3]
    clear C3 hb3 hf3 q3 SP B2 F1 F2 HQ2
    go_wp2_with fail
    refine (SI.out _).mono ?_
    rintro e w4 ⟨rfl, hb4⟩
    have hs4 := hb4.size
    have C4 := HC3.out.keep hb4.block
    have q4 := (hb4.block z (by omega)).trans HQ3.out
    have f0 : w4.cell? ⟨z, 0, none⟩ = some (.int .i64 0) := by simp [World.cell?, q4]
    have f1 : w4.cell? ⟨z, 1, none⟩ = some (.int .i64 tm) := by simp [World.cell?, q4]
    have f2 : w4.cell? ⟨z, 2, none⟩ = some (.int .i64 tf) := by simp [World.cell?, q4]
    have F4 := hide (F3.out.trans (FrK.of_below (g := g) (Mo := Mo) hb4 (show N ≤ w3.heap.size by omega)))
    have B4 := hide (B3.out.trans (hb4.mono (show b0 ≤ w3.heap.size by omega)))
    have OK1 := step_ok s 0 true HOK.out
    have ns0 := run_n_le [(0, true)] s
    have ns1 : (step s 0 true).n ≤ s.n + 1 := ns0
    clear ns0
    have HQ4 := hide q4
    have m1 : tm - 3 = ((M : Nat) : Int) := by omega
    have m2 : IntKind.i64.wrap (tm - 3) = ((M : Nat) : Int) := by rw [IntKind.wrap_i64]; omega
    have g1 : tf - 1 = ((Fa : Nat) : Int) := by omega
    have g2 : IntKind.i64.wrap (tf - 1) = ((Fa : Nat) : Int) := by rw [IntKind.wrap_i64]; omega
    have SL := hide (imp_lay64 b0 g M 6 300 (z + 1) (fun k => ob = some k) (step s 0 true) w4 (by omega) (by omega) (by omega) OK1 (by omega) hbg C4 (by omega))
    have HG := hide (And.intro OK1 (And.intro ns1 (And.intro g1 g2)))
    clear hM2 hF2 hb4 C4 q4 e0 e1 e2 HC3 HQ3 F3 B3 OK1 ns1 SI g1 g2
    go_wp2_with fail
    refine SL.out.mono ?_
    rintro e w5 ⟨rfl, C5, hb5, hf5⟩
    have hs5 := hb5.size
    have q5 := (HF.out _ _ hf5).trans HQ4.out
    obtain ⟨OK1, ns1, g1, g2⟩ := HG.out
    have h0 : w5.cell? ⟨z, 0, none⟩ = some (.int .i64 0) := by simp [World.cell?, q5]
    have h1 : w5.cell? ⟨z, 1, none⟩ = some (.int .i64 tm) := by simp [World.cell?, q5]
    have h2 : w5.cell? ⟨z, 2, none⟩ = some (.int .i64 tf) := by simp [World.cell?, q5]
    have F5 := hide (F4.out.trans (HJ.out _ _ hf5))
    have B5 := hide (B4.out.trans hb5)
    have ns2 := run_n_le (tree M 6 300) (step s 0 true)
    have tl : (tree M 6 300).length = 6 := treeG_len _ _ _ _
    have SL2 := hide (imp_lay64 b0 g Fa 10 400 (z + 1) (fun k => ob = some k) (run (step s 0 true) (tree M 6 300)) w5 (by omega) (by omega) (by omega) (run_ok _ _ OK1) (by omega) hbg C5 (by omega))
    clear C5 hb5 hf5 SL f0 f1 f2 m1 m2 q5 OK1 ns1 ns2 tl
    go_wp2_with fail
    refine SL2.out.mono ?_
    rintro e w6 ⟨rfl, C6, hb6, hf6⟩
    have R1 := hide (show CodK w6 b0 g N Mo (run s (tokBits ⟨0, tm, tf⟩)) by rw [HT.out, run_app]; exact C6.join (fun j hj => (HOB.out j hj).1) (by omega))
    have R2 := hide (B5.out.trans hb6)
    have R3 := hide (F5.out.trans (HJ.out _ _ hf6))
    clear C6 hb6 hf6 SL2 h0 h1 h2 g1 g2
    go_wp2_with fail
    go_end0
    exact ⟨rfl, R1.out, R2.out, R3.out⟩
end Go.Proofs.YtconcnndghmdfaaGreatDoor

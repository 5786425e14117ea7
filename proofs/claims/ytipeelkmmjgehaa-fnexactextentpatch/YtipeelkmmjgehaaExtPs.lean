/- The walk over the model's ExtentPatch (written by mkextps.py). -/
import Derived.Test.YtipeelkmmjgehaaExtS
import Derived.Test.YtipeelkmmjgehaaExtPp
import Derived.Test.YtipeelkmmjgehaaDskX
namespace Go.Proofs.Ytipeelkmmjgehaa
open Go Go.RowKit
set_option maxRecDepth 100000 in
set_option maxHeartbeats 3200000 in
theorem spec_extentPatch_long (v : Value) (nS : Nat) (S : Nat → ByteArray) (nC : Nat) (A : Nat → Int) (X : Nat → ByteArray) (a : Int) (t : ByteArray) (w : World) (hts : 20000 < t.size) (htm : t.size ≤ 9223372036854775807) (h : dskI w w.heap.size v nS S nC A X) :
    Calls Try.prog 11 #[v, .int .i64 a, .string t] w fun e w' => e = .returned (doutV (.slice none 0 0) (.slice none 0 0) ⟨#[]⟩ 2) ∧ Below w.heap.size w w' := by
  obtain ⟨sv, cv, rfl, hs, hc⟩ := h
  have HI := hide (show dskI w w.heap.size (.agg #[sv, cv]) nS S nC A X from ⟨sv, cv, rfl, hs, hc⟩)
  obtain ⟨sa, sk, e1⟩ : ∃ a c, sv = .slice a nS c := by obtain ⟨a, c, e, _⟩ := hs; exact ⟨a, c, e⟩
  obtain ⟨ca, ck, e2⟩ : ∃ a c, cv = .slice a nC c := by obtain ⟨a, c, e, _⟩ := hc; exact ⟨a, c, e⟩
  subst e1 e2
  clear hs hc
  have d1 : decide ((20000 : Int) < (t.size : Int)) = true := decide_eq_true (by omega)
  clear HI
  go_enter Try.func11, Try.ntmps11
  go_wp2_with fail
  go_returns
  exact ⟨rfl, by go_grown⟩
set_option maxRecDepth 100000 in
set_option maxHeartbeats 3200000 in
theorem spec_extentPatch (v : Value) (nS : Nat) (S : Nat → ByteArray) (nC : Nat) (A : Nat → Int) (X : Nat → ByteArray) (a : Int) (t : ByteArray) (w : World) (hts : t.size ≤ 20000) (hS : nS ≤ 1048576) (hC : nC ≤ 1048576) (h : dskI w w.heap.size v nS S nC A X) :
    Calls Try.prog 11 #[v, .int .i64 a, .string t] w fun e w' => ∃ sv cv c, e = .returned (doutV sv cv ⟨#[]⟩ c) ∧ ptCode nS S nC A X a t.size c ∧ (c ≠ 0 ∧ sv = .slice none 0 0 ∧ cv = .slice none 0 0 ∨ c = 0 ∧ ptGood nS S nC A X a t w w' sv cv) ∧ Below w.heap.size w w' := by
  obtain ⟨sv, cv, rfl, hs, hc⟩ := h
  have HI := hide (show dskI w w.heap.size (.agg #[sv, cv]) nS S nC A X from ⟨sv, cv, rfl, hs, hc⟩)
  obtain ⟨sa, sk, e1⟩ : ∃ a c, sv = .slice a nS c := by obtain ⟨a, c, e, _⟩ := hs; exact ⟨a, c, e⟩
  obtain ⟨ca, ck, e2⟩ : ∃ a c, cv = .slice a nC c := by obtain ⟨a, c, e, _⟩ := hc; exact ⟨a, c, e⟩
  subst e1 e2
  clear hs hc
  have d1 : decide ((20000 : Int) < (t.size : Int)) = false := decide_eq_false (by omega)
  have hts2 : (t.size : Int) ≤ 20000 := by omega
  have HQ := hide (box2 w (.cells #[.slice sa nS sk, .slice ca nC ck] 26) (.cells #[.slice none 0 0, .slice none 0 0, .string ⟨#[]⟩, .int .i64 0] 30))
  go_enter Try.func11, Try.ntmps11
  go_wp2_with fail
  obtain ⟨q0, q1, q2, q3⟩ := HQ.out
  generalize ((w.alloc (.cells #[.slice sa nS sk, .slice ca nC ck] 26)).alloc (.cells #[.slice none 0 0, .slice none 0 0, .string ⟨#[]⟩, .int .i64 0] 30)) = W2 at *
  have I2 : dskI W2 W2.heap.size (.agg #[.slice sa nS sk, .slice ca nC ck]) nS S nC A X := (HI.out.below q0).wide (by omega)
  have HS0 := hide (And.intro q2 (And.intro q3 q0))
  refine (spec_diskRight _ nS S nC A X W2 hS hC I2).mono ?_
  rintro e w1 ⟨⟨r, rfl, hr⟩, hb1⟩
  clear q0 q2 q3 HQ
  obtain ⟨k2, k4, k5⟩ := HS0.out
  replace k2 := (hb1.block w.heap.size (by have := (Array.getElem?_eq_some_iff.1 k4).1; omega)).trans k2
  replace k4 := (hb1.block (w.heap.size + 1) (Array.getElem?_eq_some_iff.1 k4).1).trans k4
  replace k5 := k5.trans (hb1.mono k5.size)
  have HS1 := hide (And.intro k2 (And.intro k4 k5))
  have I1 := hide ((I2.below hb1).wide hb1.size)
  have hz1 := hb1.size
  have b0 : w1.cell? ⟨w.heap.size, 0, none⟩ = some (.slice sa nS sk) := by simp [World.cell?, k2]
  have b1 : w1.cell? ⟨w.heap.size, 1, none⟩ = some (.slice ca nC ck) := by simp [World.cell?, k2]
  have oc0 : w1.cell? ⟨w.heap.size + 1, 0, none⟩ = some (.slice none 0 0) := by simp [World.cell?, k4]
  have of0 : w1.frozen? ⟨w.heap.size + 1, 0, none⟩ = false := by simp [World.frozen?, k4]
  have oc1 : w1.cell? ⟨w.heap.size + 1, 1, none⟩ = some (.slice none 0 0) := by simp [World.cell?, k4]
  have of1 : w1.frozen? ⟨w.heap.size + 1, 1, none⟩ = false := by simp [World.frozen?, k4]
  have oc2 : w1.cell? ⟨w.heap.size + 1, 2, none⟩ = some (.string ⟨#[]⟩) := by simp [World.cell?, k4]
  have of2 : w1.frozen? ⟨w.heap.size + 1, 2, none⟩ = false := by simp [World.frozen?, k4]
  have oc3 : w1.cell? ⟨w.heap.size + 1, 3, none⟩ = some (.int .i64 0) := by simp [World.cell?, k4]
  have of3 : w1.frozen? ⟨w.heap.size + 1, 3, none⟩ = false := by simp [World.frozen?, k4]
  clear k2 k4 k5 HS0 hb1 I2
  have HR := hide HS1.out.2.1
  have HB := hide HS1.out.2.2
  cases r with
  | false =>
    have R := hide (show ¬ dskOk nS S nC A X from fun h => by have := hr.2 h; cases this)
    clear hr
    go_wp2_with fail
    have fin := set4_blk w1 (w.heap.size + 1) _ _ _ _ (.slice none 0 0) (.slice none 0 0) (.string ⟨#[]⟩) (.int .i64 1) _ HR.out
    have hbf := below_set4 HB.out (w.heap.size + 1) (by omega) (.slice none 0 0) (.slice none 0 0) (.string ⟨#[]⟩) (.int .i64 1)
    exact bodyPost_ret (results_cell_row Try.results11 _ _ (w.heap.size + 1) 30 #[.slice none 0 0, .slice none 0 0, .string ⟨#[]⟩, .int .i64 1] (0, 0) _ rfl fin Try.underlying30 rfl (by kernel_rfl)) rfl ⟨_, _, 1, rfl, .inl ⟨rfl, R.out⟩, .inl ⟨by decide, rfl, rfl⟩, hbf⟩
  | true =>
    have hok := hr.1 rfl
    have R := hide hok
    have hn6 := hok.1
    have hn4 := hok.2.1
    clear hr hok
    obtain ⟨n, hn⟩ : ∃ n, n = t.size := ⟨_, rfl⟩
    obtain ⟨lim, hlim⟩ : ∃ lim : Int, lim = 64 * (nS : Int) - (n : Int) := ⟨_, rfl⟩
    obtain ⟨m64, hm64⟩ : ∃ m : Nat, m = 64 * nS := ⟨_, rfl⟩
    have s0 : (64 : Int) * (nS : Int) = (m64 : Int) := by omega
    have s1 : IntKind.i64.wrap ((m64 : Int) - (t.size : Int)) = lim := by simp only [IntKind.wrap_i64]; omega
    have s2 : (m64 : Int) - (t.size : Int) = lim := by omega
    have hmb : (m64 : Int) ≤ 67108864 := by omega
    have HL := hide (And.intro hlim (And.intro hm64 hn))
    by_cases hr0 : a < 0 ∨ lim < a
    case pos =>
      have RN := hide (show ¬ (0 ≤ a ∧ a ≤ 64 * (nS : Int) - (t.size : Int)) by omega)
      clear hlim hm64 hn
      by_cases g1 : a < 0
      · have d2 : decide (a < 0) = true := decide_eq_true g1
        clear hr0 g1
        go_wp2_with fail
        have fin := set4_blk w1 (w.heap.size + 1) _ _ _ _ (.slice none 0 0) (.slice none 0 0) (.string ⟨#[]⟩) (.int .i64 8) _ HR.out
        have hbf := below_set4 HB.out (w.heap.size + 1) (by omega) (.slice none 0 0) (.slice none 0 0) (.string ⟨#[]⟩) (.int .i64 8)
        exact bodyPost_ret (results_cell_row Try.results11 _ _ (w.heap.size + 1) 30 #[.slice none 0 0, .slice none 0 0, .string ⟨#[]⟩, .int .i64 8] (0, 0) _ rfl fin Try.underlying30 rfl (by kernel_rfl)) rfl ⟨_, _, 8, rfl, .inr (.inl ⟨rfl, R.out, RN.out⟩), .inl ⟨by decide, rfl, rfl⟩, hbf⟩
      · have d2 : decide (a < 0) = false := decide_eq_false g1
        have d3 : decide (lim < a) = true := decide_eq_true (by omega)
        clear hr0 g1
        go_wp2_with fail
        have fin := set4_blk w1 (w.heap.size + 1) _ _ _ _ (.slice none 0 0) (.slice none 0 0) (.string ⟨#[]⟩) (.int .i64 8) _ HR.out
        have hbf := below_set4 HB.out (w.heap.size + 1) (by omega) (.slice none 0 0) (.slice none 0 0) (.string ⟨#[]⟩) (.int .i64 8)
        exact bodyPost_ret (results_cell_row Try.results11 _ _ (w.heap.size + 1) 30 #[.slice none 0 0, .slice none 0 0, .string ⟨#[]⟩, .int .i64 8] (0, 0) _ rfl fin Try.underlying30 rfl (by kernel_rfl)) rfl ⟨_, _, 8, rfl, .inr (.inl ⟨rfl, R.out, RN.out⟩), .inl ⟨by decide, rfl, rfl⟩, hbf⟩
    have RN := hide (show 0 ≤ a ∧ a ≤ 64 * (nS : Int) - (t.size : Int) by omega)
    obtain ⟨p0, rfl⟩ : ∃ p : Nat, a = (p : Int) := ⟨a.toNat, by omega⟩
    have d2 : decide ((p0 : Int) < 0) = false := decide_eq_false (by omega)
    have d3 : decide (lim < (p0 : Int)) = false := decide_eq_false (by omega)
    have hfit : p0 + n ≤ 64 * nS := by omega
    have hpb : (p0 : Int) ≤ 39680 := by omega
    by_cases hn0 : n = 0
    case pos =>
      have dz : decide ((t.size : Int) = 0) = true := decide_eq_true (by omega)
      have dzb : ((t.size : Int) == 0) = true := beq_iff_eq.2 (by omega)
      have e1 : touchN (p0 : Int).toNat t.size = 0 := if_pos (by omega)
      have CP := hide (spec_copyO _ nS S nC A X w1 hS hC I1.out)
      have E1 := hide e1
      have d3b : decide ((m64 : Int) < (p0 : Int)) = false := decide_eq_false (by omega)
      have d3c : decide (m64 < p0) = false := decide_eq_false (by omega)
      clear hlim hm64 hn hn0 hr0 hfit e1 s2
      go_wp2_with fail
      refine CP.out.mono ?_
      rintro e w2 ⟨x1, x2, rfl, o1, o2, hap, hb2⟩
      obtain ⟨a1, c1, ea⟩ := own_slice o1
      obtain ⟨a2, c2, eb⟩ := own_slice o2
      subst ea eb
      have hz2 := hb2.size
      have hzw : w.heap.size + 1 < w1.heap.size := (Array.getElem?_eq_some_iff.1 HR.out).1
      have k4 := (hb2.block (w.heap.size + 1) hzw).trans HR.out
      have k5 := HB.out.trans (hb2.mono (by omega))
      clear b0 b1 oc0 of0 oc1 of1 oc2 of2 oc3 of3
      have oc0 : w2.cell? ⟨w.heap.size + 1, 0, none⟩ = some (.slice none 0 0) := by simp [World.cell?, k4]
      have of0 : w2.frozen? ⟨w.heap.size + 1, 0, none⟩ = false := by simp [World.frozen?, k4]
      have oc1 : w2.cell? ⟨w.heap.size + 1, 1, none⟩ = some (.slice none 0 0) := by simp [World.cell?, k4]
      have of1 : w2.frozen? ⟨w.heap.size + 1, 1, none⟩ = false := by simp [World.frozen?, k4]
      have oc2 : w2.cell? ⟨w.heap.size + 1, 2, none⟩ = some (.string ⟨#[]⟩) := by simp [World.cell?, k4]
      have of2 : w2.frozen? ⟨w.heap.size + 1, 2, none⟩ = false := by simp [World.frozen?, k4]
      have oc3 : w2.cell? ⟨w.heap.size + 1, 3, none⟩ = some (.int .i64 0) := by simp [World.cell?, k4]
      have of3 : w2.frozen? ⟨w.heap.size + 1, 3, none⟩ = false := by simp [World.frozen?, k4]
      have HR := hide k4
      have HB := hide k5
      have O1 := hide o1
      have O2 := hide o2
      have HAP := hide hap
      clear k4 k5 o1 o2 hap hb2 CP I1 HS1
      go_wp2_with fail
      have u7 : ∀ g, g ≠ w.heap.size + 1 → ((((w2.setCell ⟨w.heap.size + 1, 0, none⟩ (.slice a1 nS c1)).setCell ⟨w.heap.size + 1, 1, none⟩ (.slice a2 (nC) c2)).setCell ⟨w.heap.size + 1, 2, none⟩ (.string ⟨#[]⟩)).setCell ⟨w.heap.size + 1, 3, none⟩ (.int .i64 0)).heap[g]? = w2.heap[g]? := fun g hg => (set1_o _ _ _ _ _ hg).trans ((set1_o _ _ _ _ _ hg).trans ((set1_o _ _ _ _ _ hg).trans (set1_o _ _ _ _ _ hg)))
      have u4 := own_base (own_of_block O1.out (w' := ((((w2.setCell ⟨w.heap.size + 1, 0, none⟩ (.slice a1 nS c1)).setCell ⟨w.heap.size + 1, 1, none⟩ (.slice a2 (nC) c2)).setCell ⟨w.heap.size + 1, 2, none⟩ (.string ⟨#[]⟩)).setCell ⟨w.heap.size + 1, 3, none⟩ (.int .i64 0))) (fun b hb => u7 b (by have := (O1.out.lt b hb).1; omega))) (show w.heap.size ≤ w1.heap.size by omega)
      have u5 := own_base (own_of_block O2.out (w' := ((((w2.setCell ⟨w.heap.size + 1, 0, none⟩ (.slice a1 nS c1)).setCell ⟨w.heap.size + 1, 1, none⟩ (.slice a2 (nC) c2)).setCell ⟨w.heap.size + 1, 2, none⟩ (.string ⟨#[]⟩)).setCell ⟨w.heap.size + 1, 3, none⟩ (.int .i64 0))) (fun b hb => u7 b (by have := (O2.out.lt b hb).1; omega))) (show w.heap.size ≤ w1.heap.size by omega)
      have hw0 := wL_app A X nC (flS S A X (fun _ => true) nC) p0 t 0
      have hw1 : wL (fun j => ((p0 / 64 + j : Nat) : Int)) (fun j => patS (flS S A X (fun _ => true) nC) p0 t (p0 / 64 + j)) 0 = [] := rfl
      rw [hw1, List.append_nil] at hw0
      have fin := set4_blk w2 (w.heap.size + 1) _ _ _ _ (.slice a1 nS c1) (.slice a2 nC c2) (.string ⟨#[]⟩) (.int .i64 0) _ HR.out
      have hbf := below_set4 HB.out (w.heap.size + 1) (by omega) (.slice a1 nS c1) (.slice a2 nC c2) (.string ⟨#[]⟩) (.int .i64 0)
      exact bodyPost_ret (results_cell_row Try.results11 _ _ (w.heap.size + 1) 30 #[.slice a1 nS c1, .slice a2 nC c2, .string ⟨#[]⟩, .int .i64 0] (0, 0) _ rfl fin Try.underlying30 rfl (by kernel_rfl)) rfl ⟨_, _, 0, rfl, .inr (.inr (.inr ⟨rfl, R.out, RN.out, by rw [E1.out]; omega⟩)), .inr ⟨rfl, u4, by rw [E1.out]; show World.ownsRow _ _ _ _ _ nC (wL _ _ (nC + 0)); rw [show ((p0 : Int).toNat) = p0 from rfl, hw0]; exact u5, HAP.out⟩, hbf⟩
    case neg =>
      have dz : decide ((t.size : Int) = 0) = false := decide_eq_false (by omega)
      have dzb : ((t.size : Int) == 0) = false := beq_false_of_ne (by omega)
      obtain ⟨f0, hf0⟩ : ∃ f, f = p0 / 64 := ⟨_, rfl⟩
      obtain ⟨o, ho⟩ : ∃ o, o = p0 % 64 := ⟨_, rfl⟩
      obtain ⟨K, hK⟩ : ∃ K, K = touchN p0 n := ⟨_, rfl⟩
      have hK2 : K = (o + n + 63) / 64 := by rw [hK, ho]; exact if_neg hn0
      obtain ⟨f64, hf64⟩ : ∃ f, f = f0 * 64 := ⟨_, rfl⟩
      obtain ⟨pn, hpn⟩ : ∃ p, p = p0 + n := ⟨_, rfl⟩
      obtain ⟨on, hon⟩ : ∃ p, p = o + n := ⟨_, rfl⟩
      obtain ⟨N, hN⟩ : ∃ N, N = 64 * K := ⟨_, rfl⟩
      have t1 : Int.tdiv (p0 : Int) 64 = (f0 : Int) := by rw [hf0]; rfl
      have t2 : (p0 : Int) / 64 = (f0 : Int) := by omega
      have t3 : (f0 : Int) * 64 = (f64 : Int) := by omega
      have t4 : (p0 : Int) + (t.size : Int) = (pn : Int) := by omega
      have t5 : (pn : Int) - (f64 : Int) = (on : Int) := by omega
      have t6 : (p0 : Int) - (f64 : Int) = (o : Int) := by omega
      have hfb : (f0 : Int) ≤ 620 := by omega
      have hf64b : (f64 : Int) ≤ 39680 := by omega
      have hpnb : (pn : Int) ≤ 60000 := by omega
      have honb : (on : Int) ≤ 30000 := by omega
      have hob : (o : Int) ≤ 63 := by omega
      have hNb : N ≤ 20480 := by omega
      have hoN : (o : Int) ≤ (N : Int) := by omega
      have hfK : f0 + K ≤ nS := by omega
      have hKb : K ≤ 320 := by omega
      have hsec := fun (u : World) => spec_sectors on u (by omega)
      rw [show (on + 63) / 64 = K by omega] at hsec
      have HSEC := hide hsec
      obtain ⟨FF, hFF⟩ : ∃ FF, FF = flS S A X (fun _ => true) nC := ⟨_, rfl⟩
      have hFz : ∀ j, j < nS → (FF j).size = 64 := fun j hj => by rw [hFF]; exact flS_size S A X _ nS R.out.2.2.1 nC (fun j hj => (R.out.2.2.2 j hj).2.2) j hj
      have hct := catL_dL FF f0 K (fun j hj => hFz (f0 + j) (by omega))
      rw [← hN] at hct
      have ST := hide (spec_text _ nS S nC A X f0 K w1 R.out hfK (by omega) I1.out)
      rw [← hFF, hct] at ST
      obtain ⟨TX, hTX⟩ : ∃ TX : ByteArray, TX = ⟨(dL FF (64 * f0) N).toArray⟩ := ⟨_, rfl⟩
      rw [← hTX] at ST
      have hTz : TX.size = N := by rw [hTX]; exact dL_size _ _ _
      have hTb : ∀ j, j < N → bF TX j = dB FF (64 * f0 + j) := fun j hj => by rw [hTX]; exact dL_bF _ _ _ _ hj
      obtain ⟨BX, hBX⟩ : ∃ BX : ByteArray, BX = ⟨((List.range N).map (fun j => pB FF p0 t (64 * f0 + j))).toArray⟩ := ⟨_, rfl⟩
      have hBz : BX.size = N := by rw [hBX]; show (Array.size _) = N; simp
      have hBb : ∀ j, j < N → bF BX j = pB FF p0 t (64 * f0 + j) := fun j hj => by rw [hBX]; simp [bF, hj]
      have hmw : manyW BX = K := manyW_64 BX K (by rw [hBz, hN])
      have HW := hide (And.intro hmw (wL_pat A X nC FF p0 t f0 K BX hf0 (by rw [hBz, hN]) (fun j hj => hBb j (by omega))))
      have HB9 := hide (show ∀ j, j < N → (if o ≤ j ∧ j < o + n then bF t (j - o) else bF TX j) = bF BX j from fun j hj => by
        rw [hBb j hj]
        unfold pB
        by_cases c : o ≤ j ∧ j < o + n
        · rw [if_pos c, if_pos (by omega)]
          congr 1
          omega
        · rw [if_neg c, if_neg (by omega)]
          exact hTb j hj)
      have hst := hide (show ∀ j, j < n → t.data.toList[j]? = some (bF t j) from bF_at t n hn.symm)
      have hmin := hide (show n = Nat.min t.size (N - o) by simp only [Nat.min_def]; split <;> omega)
      have HK := hide (show f0 = p0 / 64 ∧ touchN (p0 : Int).toNat t.size = K ∧ FF = flS S A X (fun _ => true) nC from ⟨hf0, by rw [hK, hn]; rfl, hFF⟩)
      have hon2 : o + n ≤ N := by omega
      have hN1 : o < N := by omega
      have hBz2 : BX.size ≤ 20480 := by omega
      have HBZ := hide hBz
      clear hlim hm64 hn hn0 hr0 hf0 ho hK hK2 hf64 hpn hon hN hsec hFF hFz hct hTX hBX hBz hBb hmw hTb
      go_wp2_with fail
      refine (HSEC.out w1).mono ?_
      rintro e w9 ⟨rfl, rfl⟩
      go_wp2_with fail
      refine ST.out.mono ?_
      rintro e w3 ⟨rfl, hb3⟩
      clear b0 b1 oc0 of0 oc1 of1 oc2 of2 oc3 of3
      obtain ⟨k2, k4, k5⟩ := HS1.out
      replace k2 := (hb3.block w.heap.size (by have := (Array.getElem?_eq_some_iff.1 k4).1; omega)).trans k2
      replace k4 := (hb3.block (w.heap.size + 1) (Array.getElem?_eq_some_iff.1 k4).1).trans k4
      replace k5 := k5.trans (hb3.mono k5.size)
      have HS3 := hide (And.intro k2 (And.intro k4 k5))
      have hz3 := hb3.size
      have hw3 : w.heap.size + 1 < w3.heap.size := (Array.getElem?_eq_some_iff.1 k4).1
      obtain ⟨cp, w4, hcv, hcp1, hcp2, z4, b34, hrow⟩ := text_row (P := Try.prog) w3 9 22 5 TX N hTz (by omega) Try.underlying9 Try.underlying22 Try.underlying5
      have hcpo : ¬ cp = o := by omega
      have hcpb : (cp : Int) ≤ 9223372036854775807 := by unfold maxLen at hcp2; omega
      have hth := hide (hrow.there (o := o) (m := n) hon2)
      have hcv2 : (convert 22 9 (.slice (some ⟨w3.heap.size, 0, none⟩) N cp)).run Try.prog (w4.setCells w3.heap.size o (bL n (bF t))) = .ok (.string BX) (w4.setCells w3.heap.size o (bL n (bF t))) := by
        have hlen : BX.data.toList.length = N := by
          have e1 : manyW BX = K := HW.out.1
          have : BX.data.toList.length = BX.size := rfl
          rw [this]; exact HBZ.out
        have h := run_convert_bytes_back (P := Try.prog) (w4.setCells w3.heap.size o (bL n (bF t))) 22 9 5 ⟨w3.heap.size, 0, none⟩ cp BX.data.toList Try.underlying22 Try.underlying5 Try.underlying9 (fun j hj => by
          have hj2 : j < N := by rw [hlen] at hj; exact hj
          have ea : (⟨w3.heap.size, 0, none⟩ : Addr).add j = ⟨w3.heap.size, j, none⟩ := by by_cases hz : j = 0 <;> simp [Addr.add, hz]
          rw [ea, hrow.copied hon2 j hj2, HB9.out j hj2]
          have := bF_at BX N HBZ.out j hj2
          rw [List.getElem?_eq_getElem hj] at this
          rw [Option.some.inj this])
        rw [hlen] at h
        exact h
      have b35 : Below w3.heap.size w3 (w4.setCells w3.heap.size o (bL n (bF t))) := below_setCells' b34 (Nat.le_refl _)
      obtain ⟨k2, k4, k5⟩ := HS3.out
      replace k2 := (b35.block w.heap.size (by have := (Array.getElem?_eq_some_iff.1 k4).1; omega)).trans k2
      replace k4 := (b35.block (w.heap.size + 1) (Array.getElem?_eq_some_iff.1 k4).1).trans k4
      replace k5 := k5.trans (b35.mono k5.size)
      have HS5 := hide (And.intro k2 (And.intro k4 k5))
      have b0 : (w4.setCells w3.heap.size o (bL n (bF t))).cell? ⟨w.heap.size, 0, none⟩ = some (.slice sa nS sk) := by simp [World.cell?, k2]
      have b1 : (w4.setCells w3.heap.size o (bL n (bF t))).cell? ⟨w.heap.size, 1, none⟩ = some (.slice ca nC ck) := by simp [World.cell?, k2]
      have I5 := hide (show dskI (w4.setCells w3.heap.size o (bL n (bF t))) (w4.setCells w3.heap.size o (bL n (bF t))).heap.size (.agg #[.slice sa nS sk, .slice ca nC ck]) nS S nC A X from (((I1.out.below hb3).wide hb3.size).below b35).wide b35.size)
      have hz5 := b35.size
      clear k2 k4 k5 b35 b34 hrow hb3 HS3 HS1 I1 ST HR HB z4
      go_wp2_with (with_reducible (show wpList _ _ _ ({ dst := _, op := .call _, type := _, pos := _, after := _, guard := _ } :: _) _ _); refine wpList_copy_S rfl (.tmp 58) (.tmp 59) 22 9 rfl 5 Try.underlying22 (by kernel_rfl) w3.heap.size o (N - o) (cp - o) t rfl rfl n (bF t) hmin.out hst.out hth.out ?_; clear hth hcv; generalize w4.setCells w3.heap.size o (bL n (bF t)) = w5 at *)
      have hf0le : (0 : Int) ≤ (f0 : Int) := by omega
      have hmw2 : (f0 : Int) ≤ (nS : Int) - (manyW BX : Int) := by rw [HW.out.1]; omega
      by_cases hfull : 400 < nC + K
      · refine (spec_write_fullW _ nS S nC A X (f0 : Int) BX w5 R.out hBz2 hf0le ⟨hmw2, by rw [HW.out.1]; exact hfull⟩ I5.out).mono ?_
        rintro e w6 ⟨rfl, hb6⟩
        obtain ⟨k2, k4, k5⟩ := HS5.out
        replace k2 := (hb6.block w.heap.size (by have := (Array.getElem?_eq_some_iff.1 k4).1; omega)).trans k2
        replace k4 := (hb6.block (w.heap.size + 1) (Array.getElem?_eq_some_iff.1 k4).1).trans k4
        replace k5 := k5.trans (hb6.mono k5.size)
        have HS6 := hide (And.intro k2 (And.intro k4 k5))
        have oc0 : w6.cell? ⟨w.heap.size + 1, 0, none⟩ = some (.slice none 0 0) := by simp [World.cell?, k4]
        have of0 : w6.frozen? ⟨w.heap.size + 1, 0, none⟩ = false := by simp [World.frozen?, k4]
        have oc1 : w6.cell? ⟨w.heap.size + 1, 1, none⟩ = some (.slice none 0 0) := by simp [World.cell?, k4]
        have of1 : w6.frozen? ⟨w.heap.size + 1, 1, none⟩ = false := by simp [World.frozen?, k4]
        have oc2 : w6.cell? ⟨w.heap.size + 1, 2, none⟩ = some (.string ⟨#[]⟩) := by simp [World.cell?, k4]
        have of2 : w6.frozen? ⟨w.heap.size + 1, 2, none⟩ = false := by simp [World.frozen?, k4]
        have oc3 : w6.cell? ⟨w.heap.size + 1, 3, none⟩ = some (.int .i64 0) := by simp [World.cell?, k4]
        have of3 : w6.frozen? ⟨w.heap.size + 1, 3, none⟩ = false := by simp [World.frozen?, k4]
        have HR := hide HS6.out.2.1
        have HB := hide HS6.out.2.2
        have HFU := hide hfull
        clear hb6 HS5 I5 k2 k4 k5 b0 b1 hcv2 hfull
        simp only [doutV]
        go_wp2_with fail
        have fin := set4_blk w6 (w.heap.size + 1) _ _ _ _ (.slice none 0 0) (.slice none 0 0) (.string ⟨#[]⟩) (.int .i64 9) _ HR.out
        have hbf := below_set4 HB.out (w.heap.size + 1) (by omega) (.slice none 0 0) (.slice none 0 0) (.string ⟨#[]⟩) (.int .i64 9)
        exact bodyPost_ret (results_cell_row Try.results11 _ _ (w.heap.size + 1) 30 #[.slice none 0 0, .slice none 0 0, .string ⟨#[]⟩, .int .i64 9] (0, 0) _ rfl fin Try.underlying30 rfl (by kernel_rfl)) rfl ⟨_, _, 9, rfl, .inr (.inr (.inl ⟨rfl, R.out, RN.out, by rw [HK.out.2.1]; exact HFU.out⟩)), .inl ⟨by decide, rfl, rfl⟩, hbf⟩
      · refine (spec_write_goodW _ nS S nC A X (f0 : Int) BX w5 R.out hBz2 hf0le hmw2 (by rw [HW.out.1]; omega) I5.out).mono ?_
        rintro e w6 ⟨x1, x2, rfl, o1, o2, hap, hb6⟩
        rw [HW.out.1, HW.out.2] at o2
        obtain ⟨a1, c1, ea⟩ := own_slice o1
        obtain ⟨a2, c2, eb⟩ := own_slice o2
        subst ea eb
        obtain ⟨k2, k4, k5⟩ := HS5.out
        replace k2 := (hb6.block w.heap.size (by have := (Array.getElem?_eq_some_iff.1 k4).1; omega)).trans k2
        replace k4 := (hb6.block (w.heap.size + 1) (Array.getElem?_eq_some_iff.1 k4).1).trans k4
        replace k5 := k5.trans (hb6.mono k5.size)
        have HS6 := hide (And.intro k2 (And.intro k4 k5))
        have oc0 : w6.cell? ⟨w.heap.size + 1, 0, none⟩ = some (.slice none 0 0) := by simp [World.cell?, k4]
        have of0 : w6.frozen? ⟨w.heap.size + 1, 0, none⟩ = false := by simp [World.frozen?, k4]
        have oc1 : w6.cell? ⟨w.heap.size + 1, 1, none⟩ = some (.slice none 0 0) := by simp [World.cell?, k4]
        have of1 : w6.frozen? ⟨w.heap.size + 1, 1, none⟩ = false := by simp [World.frozen?, k4]
        have oc2 : w6.cell? ⟨w.heap.size + 1, 2, none⟩ = some (.string ⟨#[]⟩) := by simp [World.cell?, k4]
        have of2 : w6.frozen? ⟨w.heap.size + 1, 2, none⟩ = false := by simp [World.frozen?, k4]
        have oc3 : w6.cell? ⟨w.heap.size + 1, 3, none⟩ = some (.int .i64 0) := by simp [World.cell?, k4]
        have of3 : w6.frozen? ⟨w.heap.size + 1, 3, none⟩ = false := by simp [World.frozen?, k4]
        have HR := hide HS6.out.2.1
        have HB := hide HS6.out.2.2
        have O1 := hide o1
        have O2 := hide o2
        have HAP := hide hap
        have HFU := hide (show nC + K ≤ 400 by omega)
        clear hb6 HS5 I5 k2 k4 k5 b0 b1 hcv2 hfull o1 o2 hap
        simp only [doutV]
        go_wp2_with fail
        have u7 : ∀ g, g ≠ w.heap.size + 1 → ((((w6.setCell ⟨w.heap.size + 1, 0, none⟩ (.slice a1 nS c1)).setCell ⟨w.heap.size + 1, 1, none⟩ (.slice a2 (nC + K) c2)).setCell ⟨w.heap.size + 1, 2, none⟩ (.string ⟨#[]⟩)).setCell ⟨w.heap.size + 1, 3, none⟩ (.int .i64 0)).heap[g]? = w6.heap[g]? := fun g hg => (set1_o _ _ _ _ _ hg).trans ((set1_o _ _ _ _ _ hg).trans ((set1_o _ _ _ _ _ hg).trans (set1_o _ _ _ _ _ hg)))
        have u4 := own_base (own_of_block O1.out (w' := ((((w6.setCell ⟨w.heap.size + 1, 0, none⟩ (.slice a1 nS c1)).setCell ⟨w.heap.size + 1, 1, none⟩ (.slice a2 (nC + K) c2)).setCell ⟨w.heap.size + 1, 2, none⟩ (.string ⟨#[]⟩)).setCell ⟨w.heap.size + 1, 3, none⟩ (.int .i64 0))) (fun b hb => u7 b (by have := (O1.out.lt b hb).1; omega))) (show w.heap.size ≤ w5.heap.size by omega)
        have u5 := own_base (own_of_block O2.out (w' := ((((w6.setCell ⟨w.heap.size + 1, 0, none⟩ (.slice a1 nS c1)).setCell ⟨w.heap.size + 1, 1, none⟩ (.slice a2 (nC + K) c2)).setCell ⟨w.heap.size + 1, 2, none⟩ (.string ⟨#[]⟩)).setCell ⟨w.heap.size + 1, 3, none⟩ (.int .i64 0))) (fun b hb => u7 b (by have := (O2.out.lt b hb).1; omega))) (show w.heap.size ≤ w5.heap.size by omega)
        rw [HK.out.1, HK.out.2.2] at u5
        have fin := set4_blk w6 (w.heap.size + 1) _ _ _ _ (.slice a1 nS c1) (.slice a2 (nC + K) c2) (.string ⟨#[]⟩) (.int .i64 0) _ HR.out
        have hbf := below_set4 HB.out (w.heap.size + 1) (by omega) (.slice a1 nS c1) (.slice a2 (nC + K) c2) (.string ⟨#[]⟩) (.int .i64 0)
        exact bodyPost_ret (results_cell_row Try.results11 _ _ (w.heap.size + 1) 30 #[.slice a1 nS c1, .slice a2 (nC + K) c2, .string ⟨#[]⟩, .int .i64 0] (0, 0) _ rfl fin Try.underlying30 rfl (by kernel_rfl)) rfl ⟨_, _, 0, rfl, .inr (.inr (.inr ⟨rfl, R.out, RN.out, by rw [HK.out.2.1]; exact HFU.out⟩)), .inr ⟨rfl, u4, by rw [HK.out.2.1]; exact u5, HAP.out⟩, hbf⟩
end Go.Proofs.Ytipeelkmmjgehaa

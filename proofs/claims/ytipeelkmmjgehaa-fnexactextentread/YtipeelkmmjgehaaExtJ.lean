/- The walks over the program's patchCode, partAt. -/
import Derived.Test.YtipeelkmmjgehaaExtI
import Derived.Test.YtipeelkmmjgehaaExtPp
namespace Go.Proofs.Ytipeelkmmjgehaa
open Go Go.RowKit
set_option maxRecDepth 100000 in
set_option maxHeartbeats 1600000 in
theorem imp_patchCode (v : Value) (nS : Nat) (S : Nat → ByteArray) (nC : Nat) (A : Nat → Int) (X : Nat → ByteArray) (a : Int) (n : Nat) (w : World) (hS : nS ≤ 1048576) (hC : nC ≤ 1048576) (hn : n ≤ 20000) (h : dskI w w.heap.size v nS S nC A X) :
    Calls Try.prog 36 #[v, .int .i64 a, .int .i64 (n : Int)] w fun e w' => ∃ c : Int, e = .returned (.int .i64 c) ∧ ptCode nS S nC A X a n c ∧ Below w.heap.size w w' := by
  obtain ⟨sv, cv, rfl, hs, hc⟩ := h
  have HI := hide (show dskI w w.heap.size (.agg #[sv, cv]) nS S nC A X from ⟨sv, cv, rfl, hs, hc⟩)
  obtain ⟨sa, sk, e1⟩ : ∃ a c, sv = .slice a nS c := by obtain ⟨a, c, e, _⟩ := hs; exact ⟨a, c, e⟩
  obtain ⟨ca, ck, e2⟩ : ∃ a c, cv = .slice a nC c := by obtain ⟨a, c, e, _⟩ := hc; exact ⟨a, c, e⟩
  subst e1 e2
  clear hs hc
  have q0 : Below w.heap.size w (w.alloc (.cells #[.slice sa nS sk, .slice ca nC ck] 26)) := (Below.refl _ w).alloc (Nat.le_refl _) _
  have q1 : (w.alloc (.cells #[.slice sa nS sk, .slice ca nC ck] 26)).heap[w.heap.size]? = some (.cells #[.slice sa nS sk, .slice ca nC ck] 26) := heap_alloc_new _ _
  have qs : (w.alloc (.cells #[.slice sa nS sk, .slice ca nC ck] 26)).heap.size = w.heap.size + 1 := by simp
  have HQ := hide (And.intro q0 q1)
  clear q0 q1
  obtain ⟨m64, hm64⟩ : ∃ m : Nat, m = 64 * nS := ⟨_, rfl⟩
  have s1 : (nS : Int) * 64 = (m64 : Int) := by omega
  have hmb : (m64 : Int) ≤ 67108864 := by omega
  have HM := hide hm64
  clear hm64
  go_enter Try.func36, Try.ntmps36
  go_wp2_with fail
  obtain ⟨q0, q1⟩ := HQ.out
  generalize w.alloc (.cells #[.slice sa nS sk, .slice ca nC ck] 26) = W2 at *
  have I2 : dskI W2 W2.heap.size (.agg #[.slice sa nS sk, .slice ca nC ck]) nS S nC A X := (HI.out.below q0).wide (by omega)
  refine (imp_diskRight _ nS S nC A X W2 hS hC I2).mono ?_
  rintro e w1 ⟨⟨r, rfl, hr⟩, hb1⟩
  have r2 := (hb1.block w.heap.size (by omega)).trans q1
  have b0 : w1.cell? ⟨w.heap.size, 0, none⟩ = some (.slice sa nS sk) := by simp [World.cell?, r2]
  have HB := hide (q0.trans (hb1.mono (by omega)))
  have R2 := hide r2
  clear hb1 q0 q1 I2 HQ r2
  cases r with
  | false =>
    have R := hide (show ¬ dskOk nS S nC A X from fun h => by have := hr.2 h; cases this)
    clear hr
    go_wp2_with fail
    go_ret
    exact ⟨1, rfl, .inl ⟨rfl, R.out⟩, HB.out⟩
  | true =>
    have R := hide (hr.1 rfl)
    clear hr
    go_wp2_with fail
    refine (imp_lieIn a (n : Int) (m64 : Int) w1 (by omega) (by omega) (by omega) (by omega)).mono ?_
    rintro e w2 ⟨⟨r, rfl, hr⟩, hb2⟩
    have hw1 : w.heap.size < w1.heap.size := World.block_lt_of_cell? w1 _ b0
    have r2 := (hb2.block w.heap.size hw1).trans R2.out
    have c1 : w2.cell? ⟨w.heap.size, 1, none⟩ = some (.slice ca nC ck) := by simp [World.cell?, r2]
    have HB2 := hide (HB.out.trans (hb2.mono (by omega)))
    clear hb2 b0 HB R2 r2
    cases r with
    | false =>
      have R3 := hide (show ¬ (0 ≤ a ∧ a ≤ 64 * (nS : Int) - (n : Int)) from fun h => by have := hr.2 (by have := HM.out; omega); cases this)
      clear hr
      go_wp2_with fail
      go_ret
      exact ⟨8, rfl, .inr (.inl ⟨rfl, R.out, R3.out⟩), HB2.out⟩
    | true =>
      have h3 := hr.1 rfl
      have hn6 := R.out.1
      have hn4 := R.out.2.1
      obtain ⟨p, rfl⟩ : ∃ p : Nat, a = (p : Int) := ⟨a.toNat, by omega⟩
      have R3 := hide (show 0 ≤ (p : Int) ∧ (p : Int) ≤ 64 * (nS : Int) - (n : Int) from by have := HM.out; omega)
      have hc : ∀ w, Calls Try.prog 63 #[.int .i64 (p : Int), .int .i64 (n : Int)] w fun e w' => e = .returned (.int .i64 (touchN p n : Int)) ∧ w' = w := fun w => imp_touched p n w (by omega)
      obtain ⟨k, hk⟩ : ∃ k, k = touchN p n := ⟨_, rfl⟩
      have hkb : k ≤ 20063 := by rw [hk]; unfold touchN; split <;> omega
      rw [← hk] at hc
      have HC := hide hc
      have HK := hide (show touchN (p : Int).toNat n = k from by rw [hk]; rfl)
      obtain ⟨nm, hnm⟩ : ∃ nm : Nat, nm = nC + k := ⟨_, rfl⟩
      have s2 : IntKind.i64.wrap ((nC : Int) + (k : Int)) = (nm : Int) := by simp only [IntKind.wrap_i64]; omega
      have s3 : (nC : Int) + (k : Int) = (nm : Int) := by omega
      have HNM := hide hnm
      have hnb : (nm : Int) ≤ 30000 := by omega
      clear hr h3 hc hk hnm
      by_cases g : 400 < nm
      · have dg : decide ((400 : Int) < (nm : Int)) = true := decide_eq_true (by omega)
        have dgn : decide (400 < nm) = true := decide_eq_true g
        have G := hide g
        clear g
        go_wp2_with fail
        go_quiet ((go_at_call 63; exact Calls.quiet_of_same (HC.out _)))
        go_wp2_with fail
        go_ret
        exact ⟨9, rfl, .inr (.inr (.inl ⟨rfl, R.out, R3.out, by rw [HK.out, ← HNM.out]; exact G.out⟩)), below_drewN HB2.out _⟩
      · have dg : decide ((400 : Int) < (nm : Int)) = false := decide_eq_false (by omega)
        have dgn : decide (400 < nm) = false := decide_eq_false g
        have G := hide g
        clear g
        go_wp2_with fail
        go_quiet ((go_at_call 63; exact Calls.quiet_of_same (HC.out _)))
        go_wp2_with fail
        go_ret
        exact ⟨0, rfl, .inr (.inr (.inr ⟨rfl, R.out, R3.out, by rw [HK.out, ← HNM.out]; have := G.out; omega⟩)), below_drewN HB2.out _⟩
set_option maxRecDepth 100000 in
set_option maxHeartbeats 1600000 in
theorem imp_partAt (p g o n cap m : Nat) (w : World) (hp : p ≤ 1048576) (hn0 : 0 < n) (hn : n ≤ cap) (hcap : cap ≤ 9223372036854775807) (hm : m = min n (64 - p % 64)) :
    Calls Try.prog 65 #[.int .i64 (p : Int), .slice (some ⟨g, o, none⟩) n cap] w fun e w' => e = .returned (.agg #[.int .i64 ((p / 64 : Nat) : Int), .int .i64 ((p % 64 : Nat) : Int), .slice (some ⟨g, o, none⟩) m cap]) ∧ Below w.heap.size w w' := by
  obtain ⟨f, hf⟩ : ∃ f, f = p % 64 := ⟨_, rfl⟩
  obtain ⟨d, hd⟩ : ∃ d, d = p / 64 := ⟨_, rfl⟩
  have s1 : Int.tmod (p : Int) 64 = (f : Int) := by rw [hf]; rfl
  have s2 : (p : Int) % 64 = (f : Int) := by omega
  have s3 : Int.tdiv (p : Int) 64 = (d : Int) := by rw [hd]; rfl
  have s4 : (p : Int) / 64 = (d : Int) := by omega
  have hf64 : f < 64 := by omega
  rw [← hf] at hm
  rw [← hf, ← hd]
  obtain ⟨r, hr⟩ : ∃ r, r = 64 - f := ⟨_, rfl⟩
  have s5 : (64 : Int) - (f : Int) = (r : Int) := by omega
  have s6 : min (n : Int) (r : Int) = (m : Int) := by omega
  have hm1 : m ≤ n := by omega
  have hm2 : (m : Int) ≤ (cap : Int) := by omega
  have hcb : (cap : Int) ≤ 9223372036854775807 := by omega
  have hc1 : 1 ≤ cap := by omega
  have hf64' : (f : Int) < 64 := by omega
  have q0 := hide ((Below.refl w.heap.size w).alloc (Nat.le_refl _) (.cells #[.int .i64 0, .int .i64 0, .slice none 0 0] 93))
  clear hf hd
  by_cases hrn : r < n
  · obtain rfl : m = r := by omega
    clear hr hm s6
    go_enter Try.func65, Try.ntmps65
    go_wp2_with fail
    go_returns
    exact ⟨rfl, by go_grown⟩
  · obtain rfl : m = n := by omega
    clear hr hm s6
    go_enter Try.func65, Try.ntmps65
    go_wp2_with fail
    go_returns
    exact ⟨rfl, by go_grown⟩
end Go.Proofs.Ytipeelkmmjgehaa

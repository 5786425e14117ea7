/- The walk over the laws' lwAt: a number out of a code. -/
import Derived.Test.YtiknoncalgifmaaRows
import Derived.Test.YtiknoncalgifmaaSrc
namespace Go.Proofs.Ytiknoncalgifmaa
open Go.RowKit

set_option maxRecDepth 100000 in
set_option maxHeartbeats 800000 in
theorem lwAt_any (w : World) (B : Nat) (a : Option Addr) (len cap : Nat) (p most : Int) (hl : len ≤ 1048576) (hp0 : 0 ≤ p) (hp1 : p ≤ 1000) (hm : most ≤ 4611686018427387904) (hby : BytesIn w B a len) :
    Calls Try.prog 10 #[.slice a len cap, .int .i64 p, .int .i64 most] w fun e w' => ∃ v : Int, e = .returned (.int .i64 v) ∧ 0 ≤ v ∧ (v < most ∨ v = 0) ∧ w = w' := by
  by_cases h1 : most ≤ 1
  · clear hby
    go_enter Try.func10, Try.ntmps10
    go_wp2_with fail
    go_ret
    exact ⟨0, rfl, by omega, .inr rfl, rfl⟩
  by_cases h2 : len = 0
  · subst h2
    clear hby
    go_enter Try.func10, Try.ntmps10
    go_wp2_with fail
    go_ret
    exact ⟨0, rfl, by omega, .inr rfl, rfl⟩
  rcases hby with h0 | ⟨b, off, rfl, hb, hc⟩
  · omega
  have hlp : (0 : Int) < (len : Int) := by omega
  have hne : ((len : Int) == 0) = false := by simp; omega
  obtain ⟨q, rfl⟩ := Int.eq_ofNat_of_zero_le hp0
  have hq : q % len < len := Nat.mod_lt _ (by omega)
  obtain ⟨z, z0, z1, hz⟩ := hc (q % len) hq
  have hq1 : (q : Int) % (len : Int) < (len : Int) := by omega
  have hq0 : 0 ≤ (q : Int) % (len : Int) := by omega
  have hqn : ((q : Int) % (len : Int)).toNat = q % len := by omega
  have m0 := Int.emod_nonneg z (show most ≠ 0 by omega)
  have m1 := Int.emod_lt_of_pos z (show 0 < most by omega)
  clear hc
  go_enter Try.func10, Try.ntmps10
  go_wp2_with fail
  go_ret
  exact ⟨_, rfl, m0, .inl m1, rfl⟩
end Go.Proofs.Ytiknoncalgifmaa

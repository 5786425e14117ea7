/- The walks over a source's edge, lwAt, and the draws of Seal and CrcMore. -/
import Derived.Test.YtkhjbjggpkffkaaSrcB
import Derived.Test.YtkhjbjggpkffkaaCrcI
namespace Go.Proofs.Ytkhjbjggpkffkaa
open Go.RowKit

/-- The numbers at some limit. -/
def edges : Array Value := #[.int .i64 0, .int .i64 1, .int .i64 (-1), .int .i64 2, .int .i64 1000, .int .i64 1001, .int .i64 2147483648, .int .i64 2147483647, .int .i64 (-2147483648), .int .i64 4611686018427387904, .int .i64 9223372036854775807, .int .i64 (-9223372036854775808), .int .i64 1000000, .int .i64 1000001]
theorem edges_at (k : Nat) (hk : k < 14) : ∃ x : Int, -9223372036854775808 ≤ x ∧ x ≤ 9223372036854775807 ∧ edges[k]? = some (.int .i64 x) := by
  have h : k = 0 ∨ k = 1 ∨ k = 2 ∨ k = 3 ∨ k = 4 ∨ k = 5 ∨ k = 6 ∨ k = 7 ∨ k = 8 ∨ k = 9 ∨ k = 10 ∨ k = 11 ∨ k = 12 ∨ k = 13 := by omega
  rcases h with rfl | rfl | rfl | rfl | rfl | rfl | rfl | rfl | rfl | rfl | rfl | rfl | rfl | rfl
  all_goals exact ⟨_, by decide, by decide, rfl⟩

set_option maxRecDepth 100000 in
set_option maxHeartbeats 800000 in
theorem src_edge (B : Nat) (w : World) (g : Nat) (a : Option Addr) (len cap : Nat) (hs : Src 46 B w g a len cap) :
    Calls Try.prog 20 #[.pointer (some ⟨g, 0, none⟩)] w fun e w' => ∃ x : Int, e = .returned (.int .i64 x) ∧ -9223372036854775808 ≤ x ∧ x ≤ 9223372036854775807 ∧ Src 46 B w' g a len cap ∧ w.grownBy w' (some g) := by
  have hlt := hs.lt
  have hBg := hs.1
  have HS := hide (hs.kept (grownBy_alloc (World.grownBy.refl w none) (.cells #[.int .i64 0, .int .i64 1, .int .i64 (-1), .int .i64 2, .int .i64 1000, .int .i64 1001, .int .i64 2147483648, .int .i64 2147483647, .int .i64 (-2147483648), .int .i64 4611686018427387904, .int .i64 9223372036854775807, .int .i64 (-9223372036854775808), .int .i64 1000000, .int .i64 1000001] 2)) (fun k hk => by cases hk) (by omega))
  clear hs
  go_enter Try.func20, Try.ntmps20
  go_wp2_with fail
  refine (src_n B _ g a len cap 14 (by omega) HS.out).mono ?_
  rintro e w1 ⟨v, rfl, v0, v1, hs1, hg1⟩
  obtain ⟨k, rfl⟩ := Int.eq_ofNat_of_zero_le v0
  have hk : k < 14 := by omega
  have hk' : (k : Int) < 14 := by omega
  obtain ⟨x, x0, x1, hx⟩ := edges_at k hk
  have hc : w1.cell? ⟨w.heap.size, k, none⟩ = some (.int .i64 x) := by
    have hb := hg1.block w.heap.size (by simp) (by simp; omega)
    rw [heap_alloc_new] at hb
    unfold World.cell?
    rw [hb]
    exact hx
  have HS1 := hide hs1
  have hg2 := grownBy_trans (grownBy_alloc (World.grownBy.refl w (some g)) _) hg1
  clear hs1 hg1 hx HS v1
  go_wp2_with fail
  go_ret
  exact ⟨x, rfl, x0, x1, HS1.out, hg2⟩

set_option maxRecDepth 100000 in
set_option maxHeartbeats 800000 in
theorem lwAt_any (w : World) (B : Nat) (a : Option Addr) (len cap : Nat) (p most : Int) (hl : len ≤ 1048576) (hp0 : 0 ≤ p) (hp1 : p ≤ 1000) (hm : most ≤ 4611686018427387904) (hby : BytesIn w B a len) :
    Calls Try.prog 7 #[.slice a len cap, .int .i64 p, .int .i64 most] w fun e w' => ∃ v : Int, e = .returned (.int .i64 v) ∧ 0 ≤ v ∧ (v < most ∨ v = 0) ∧ w = w' := by
  by_cases h1 : most ≤ 1
  · clear hby
    go_enter Try.func7, Try.ntmps7
    go_wp2_with fail
    go_ret
    exact ⟨0, rfl, by omega, .inr rfl, rfl⟩
  by_cases h2 : len = 0
  · subst h2
    clear hby
    go_enter Try.func7, Try.ntmps7
    go_wp2_with fail
    go_ret
    exact ⟨0, rfl, by omega, .inr rfl, rfl⟩
  rcases hby with h0 | ⟨b, off, rfl, hb, hc⟩
  · omega
  have hlp : (0 : Int) < (len : Int) := by omega
  have hne : ((len : Int) == 0) = false := by simp; omega
  obtain ⟨q, rfl⟩ := Int.eq_ofNat_of_zero_le hp0
  have hq : q % len < len := Nat.mod_lt _ (by omega)
  obtain ⟨z, z0, z1, hz⟩ := hc (q % len) hq
  have hq1 : (q : Int) % (len : Int) < (len : Int) := by omega
  have hq0 : 0 ≤ (q : Int) % (len : Int) := by omega
  have hqn : ((q : Int) % (len : Int)).toNat = q % len := by omega
  have m0 := Int.emod_nonneg z (show most ≠ 0 by omega)
  have m1 := Int.emod_lt_of_pos z (show 0 < most by omega)
  clear hc
  go_enter Try.func7, Try.ntmps7
  go_wp2_with fail
  go_ret
  exact ⟨_, rfl, m0, .inl m1, rfl⟩
end Go.Proofs.Ytkhjbjggpkffkaa

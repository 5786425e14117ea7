/- The walk over a source's edge. -/
import Derived.Test.YtdoodkabmeojmaaSrcB
namespace Go.Proofs.Ytdoodkabmeojmaa
open Go.RowKit

/-- The numbers at some limit. -/
def edges : Array Value := #[.int .i64 0, .int .i64 1, .int .i64 (-1), .int .i64 2, .int .i64 1000, .int .i64 1001, .int .i64 2147483648, .int .i64 2147483647, .int .i64 (-2147483648), .int .i64 4611686018427387904, .int .i64 9223372036854775807, .int .i64 (-9223372036854775808), .int .i64 1000000, .int .i64 1000001]
theorem edges_at (k : Nat) (hk : k < 14) : ∃ x : Int, -9223372036854775808 ≤ x ∧ x ≤ 9223372036854775807 ∧ edges[k]? = some (.int .i64 x) := by
  have h : k = 0 ∨ k = 1 ∨ k = 2 ∨ k = 3 ∨ k = 4 ∨ k = 5 ∨ k = 6 ∨ k = 7 ∨ k = 8 ∨ k = 9 ∨ k = 10 ∨ k = 11 ∨ k = 12 ∨ k = 13 := by omega
  rcases h with rfl | rfl | rfl | rfl | rfl | rfl | rfl | rfl | rfl | rfl | rfl | rfl | rfl | rfl
  all_goals exact ⟨_, by decide, by decide, rfl⟩

set_option maxRecDepth 100000 in
set_option maxHeartbeats 800000 in
theorem src_edge (B : Nat) (w : World) (g : Nat) (a : Option Addr) (len cap : Nat) (hs : Src 84 B w g a len cap) :
    Calls Try.prog 63 #[.pointer (some ⟨g, 0, none⟩)] w fun e w' => ∃ x : Int, e = .returned (.int .i64 x) ∧ -9223372036854775808 ≤ x ∧ x ≤ 9223372036854775807 ∧ Src 84 B w' g a len cap ∧ w.grownBy w' (some g) := by
  have hlt := hs.lt
  have hBg := hs.1
  have HS := hide (hs.kept (grownBy_alloc (World.grownBy.refl w none) (.cells #[.int .i64 0, .int .i64 1, .int .i64 (-1), .int .i64 2, .int .i64 1000, .int .i64 1001, .int .i64 2147483648, .int .i64 2147483647, .int .i64 (-2147483648), .int .i64 4611686018427387904, .int .i64 9223372036854775807, .int .i64 (-9223372036854775808), .int .i64 1000000, .int .i64 1000001] 2)) (fun k hk => by cases hk) (by omega))
  clear hs
  go_enter Try.func63, Try.ntmps63
  go_wp2_with fail
  refine (src_n B _ g a len cap 14 (by omega) HS.out).mono ?_
  rintro e w1 ⟨v, rfl, v0, v1, hs1, hg1⟩
  obtain ⟨k, rfl⟩ := Int.eq_ofNat_of_zero_le v0
  have hk : k < 14 := by omega
  have hk' : (k : Int) < 14 := by omega
  obtain ⟨x, x0, x1, hx⟩ := edges_at k hk
  have hc : w1.cell? ⟨w.heap.size, k, none⟩ = some (.int .i64 x) := by
    have hb := hg1.block w.heap.size (by simp) (by simp; omega)
    rw [heap_alloc_new] at hb
    unfold World.cell?
    rw [hb]
    exact hx
  have HS1 := hide hs1
  have hg2 := grownBy_trans (grownBy_alloc (World.grownBy.refl w (some g)) _) hg1
  clear hs1 hg1 hx HS v1
  go_wp2_with fail
  go_ret
  exact ⟨x, rfl, x0, x1, HS1.out, hg2⟩

end Go.Proofs.Ytdoodkabmeojmaa

/- The walk over l01Source: a source of draws is made. -/
import Derived.Test.YtipeelkmmjgehabSrcN
import Derived.Handy
namespace Go.Proofs.Ytipeelkmmjgehab
open Go.RowKit

theorem wrap_name (x : Int) : ∃ M : Int, IntKind.u64.wrap x = M ∧ 0 ≤ M ∧ M ≤ 18446744073709551615 := by
  refine ⟨_, rfl, ?_, ?_⟩
  · rw [IntKind.wrap_u64]; omega
  · rw [IntKind.wrap_u64]; omega

set_option maxRecDepth 100000 in
set_option maxHeartbeats 1600000 in
theorem source_any (w : World) (a : Option Addr) (len cap : Nat) (hl : len ≤ 1048576) (hby : BytesIn w w.heap.size a len) :
    Calls Try.prog 32 #[.slice a len cap] w fun e w' => e = .returned (.pointer (some ⟨w.heap.size, 0, none⟩)) ∧ Src 88 w.heap.size w' w.heap.size a len cap ∧ w.grownBy w' none := by
  have HB := hide hby
  clear hby
  go_enter Try.func32, Try.ntmps32
  go_wp2_with fail
  go_loopw [4] (fun i wr => ∃ (k : Nat) (mix : Int), k ≤ len ∧ k ≤ 64 ∧ i = .int .i64 k ∧ 0 ≤ mix ∧ mix ≤ 18446744073709551615 ∧ Hid (wr.heap[w.heap.size]? = some (.cells #[.slice a len cap, .int .i64 0, .int .u64 mix, .int .i64 0] 88 (0, 0))) ∧ w.grownBy wr none) (fun i _ => 64 - (intOf i).toNat)
  case atStart => exact ⟨0, 88172645463325252, by omega, by omega, rfl, by omega, by omega, heap_alloc_new w _, grownBy_alloc (World.grownBy.refl _ _) _⟩
  case round =>
    obtain ⟨k, mix, hk, hk64, rfl, hm0, hm1, hh, hg⟩ := hrel
    obtain ⟨⟨c0, c1, c2, c3⟩, hf⟩ := four_cells hh.out
    by_cases hin : k < len ∧ k < 64
    · obtain ⟨hkl, hk6⟩ := hin
      have hkl' : (k : Int) < (len : Int) := by omega
      have hk6' : (k : Int) < 64 := by omega
      rcases (HB.out.below ((Below.refl _ _).grown hg (Nat.le_refl _) (fun k hk => by cases hk)) (Nat.le_refl _)) with h0 | ⟨b, off, rfl, hb, hc⟩
      · omega
      · obtain ⟨z, z0, z1, hz⟩ := hc k hkl
        clear hc
        obtain ⟨M1, e1, l1, u1⟩ := bits_name .xor mix z
        obtain ⟨M2, e2, l2, u2⟩ := wrap_name (M1 * 1099511628211)
        go_wp2_with fail
        go_region
        go_wp2_with fail
        go_roundw
        case rel => exact ⟨k + 1, M2, by omega, by omega, by go_num, l2, u2, four_set (i := 2) hh.out _, grownBy_drew (grownBy_set_new hg (Nat.le_refl _) _)⟩
        case measure => simp [intOf]; omega
    · have HIN : Hid ((k : Int) < (len : Int) → 64 ≤ (k : Int)) := fun h => by omega
      have HH := hide hh
      have hc3a := fun v => World.cell?_setCell_same wr ⟨w.heap.size, 3, none⟩ v c3
      rcases (show (len : Int) ≤ (k : Int) ∨ ((k : Int) < (len : Int) ∧ 64 ≤ (k : Int)) from by omega) with hx | ⟨hx, hy⟩
      all_goals
        clear hin
        rcases (show (len : Int) / 20 ≤ 12 ∨ 12 < (len : Int) / 20 from by omega) with hq | hq
        · have hc3b := hc3a (.int .i64 ((len : Int) / 20))
          clear hc3a
          go_wp2_with fail
          go_ret
          refine ⟨rfl, ⟨Nat.le_refl _, hl, HB.out.below ((Below.refl _ _).grown (grownBy_set_new hg (Nat.le_refl _) _) (Nat.le_refl _) (fun k hk => by cases hk)) (Nat.le_refl _), 0, mix, _, by omega, hm0, hm1, ⟨by omega, by omega⟩, four_set (i := 3) hh.out _⟩, grownBy_set_new hg (Nat.le_refl _) _⟩
        · have hc3b := hc3a (.int .i64 ((len : Int) / 20))
          clear hc3a
          go_wp2_with fail
          all_goals go_ret
          all_goals refine ⟨rfl, ⟨Nat.le_refl _, hl, HB.out.below ((Below.refl _ _).grown (grownBy_set_new (grownBy_set_new hg (Nat.le_refl _) _) (Nat.le_refl _) _) (Nat.le_refl _) (fun k hk => by cases hk)) (Nat.le_refl _), 0, mix, _, by omega, hm0, hm1, ⟨by omega, by omega⟩, four_set (i := 3) (four_set (i := 3) hh.out _) _⟩, grownBy_set_new (grownBy_set_new hg (Nat.le_refl _) _) (Nat.le_refl _) _⟩
end Go.Proofs.Ytipeelkmmjgehab

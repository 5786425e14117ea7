/- The walk over a source's n: a number below most. -/
import Derived.Test.YtipeelkmmjgehabRows
import Derived.Test.YtipeelkmmjgehabSrc
import Derived.Deep.RegionWith
import Derived.BigRegion
import Derived.Laws.Closers25b
namespace Go.Proofs.Ytipeelkmmjgehab
open Go.RowKit

theorem bits_name (op : BinOp) (x y : Int) : ∃ M : Int, bits op .u64 x y = M ∧ 0 ≤ M ∧ M ≤ 18446744073709551615 := ⟨_, rfl, bits_lo_u64 op x y, bits_hi_u64 op x y⟩

theorem mod_in (x most : Int) (h1 : 1 < most) (h2 : most ≤ 4611686018427387904) : 0 ≤ wrap64 (x % most) ∧ wrap64 (x % most) < most := by
  have a := Int.emod_nonneg x (show most ≠ 0 by omega)
  have b := Int.emod_lt_of_pos x (show 0 < most by omega)
  rw [IntWalk.wrap64_in _ ⟨by omega, by omega⟩]
  exact ⟨a, b⟩

theorem set_thrice {w : World} {g : Nat} {x : Value} (m1 m2 m3 : Value) (h : w.cell? ⟨g, 2, none⟩ = some x) :
    (w.setCell ⟨g, 2, none⟩ m1).cell? ⟨g, 2, none⟩ = some m1 ∧ ((w.setCell ⟨g, 2, none⟩ m1).setCell ⟨g, 2, none⟩ m2).cell? ⟨g, 2, none⟩ = some m2 ∧
    (((w.setCell ⟨g, 2, none⟩ m1).setCell ⟨g, 2, none⟩ m2).setCell ⟨g, 2, none⟩ m3).cell? ⟨g, 2, none⟩ = some m3 := by
  have a1 := World.cell?_setCell_same w ⟨g, 2, none⟩ m1 h
  have a2 := World.cell?_setCell_same (w.setCell ⟨g, 2, none⟩ m1) ⟨g, 2, none⟩ m2 a1
  exact ⟨a1, a2, World.cell?_setCell_same _ ⟨g, 2, none⟩ m3 a2⟩

set_option maxRecDepth 100000 in
set_option maxHeartbeats 1600000 in
theorem src_n_end (w : World) (g : Nat) (a : Option Addr) (len cap : Nat) (most mix sz : Int) (hm1 : 1 < most) (hm2 : most ≤ 4611686018427387904) (_hlen : len ≤ 1048576)
    (hh : w.heap[g]? = some (.cells #[.slice a len cap, .int .i64 len, .int .u64 mix, .int .i64 sz] 88 (0, 0))) :
    Calls Try.prog 34 #[.pointer (some ⟨g, 0, none⟩), .int .i64 most] w fun e w' => (∃ v : Int, e = .returned (.int .i64 v) ∧ 0 ≤ v ∧ v < most) ∧ (∃ M : Int, 0 ≤ M ∧ M ≤ 18446744073709551615 ∧ w'.heap[g]? = some (.cells #[.slice a len cap, .int .i64 len, .int .u64 M, .int .i64 sz] 88 (0, 0))) ∧ w.grownBy w' (some g) := by
  obtain ⟨⟨c0, c1, c2, c3⟩, hf⟩ := four_cells hh
  have HH := hide hh
  clear hh
  obtain ⟨M1, e1, l1, u1⟩ := bits_name .xor mix (IntKind.u64.wrap (mix * 8192))
  obtain ⟨M2, e2, l2, u2⟩ := bits_name .xor M1 (M1 / 128)
  obtain ⟨M3, e3, l3, u3⟩ := bits_name .xor M2 (IntKind.u64.wrap (M2 * 131072))
  obtain ⟨r1, r2, r3⟩ := set_thrice (.int .u64 M1) (.int .u64 M2) (.int .u64 M3) c2
  go_enter Try.func34, Try.ntmps34
  go_wp2_with fail
  go_region
  go_wp2_with fail
  go_region
  go_wp2_with fail
  go_region
  go_wp2_with fail
  go_region
  go_wp2_with fail
  go_ret
  refine ⟨⟨_, rfl, mod_in _ most hm1 hm2⟩, ⟨M3, l3, u3, ?_⟩, ?_⟩
  · exact four_set (i := 2) (four_set (i := 2) (four_set (i := 2) HH.out _) _) _
  · exact grownBy_drew (grownBy_drew (grownBy_drew (grownBy_drew (grownBy_set (grownBy_set (grownBy_set (World.grownBy.refl _ _) _) _) _))))
set_option maxRecDepth 100000 in
set_option maxHeartbeats 1600000 in
theorem src_n_byte (w : World) (g b off : Nat) (z : Int) (len cap p : Nat) (most mix sz : Int) (hm1 : 1 < most) (hm2 : most ≤ 4611686018427387904) (hlen : len ≤ 1048576) (hp : p < len) (hz0 : 0 ≤ z) (hz1 : z ≤ 255) (_hbg : b ≠ g)
    (hb : w.cell? ⟨b, off + p, none⟩ = some (.int .u8 z))
    (hh : w.heap[g]? = some (.cells #[.slice (some ⟨b, off, none⟩) len cap, .int .i64 p, .int .u64 mix, .int .i64 sz] 88 (0, 0))) :
    Calls Try.prog 34 #[.pointer (some ⟨g, 0, none⟩), .int .i64 most] w fun e w' => (∃ v : Int, e = .returned (.int .i64 v) ∧ 0 ≤ v ∧ v < most) ∧ (∃ M : Int, 0 ≤ M ∧ M ≤ 18446744073709551615 ∧ w'.heap[g]? = some (.cells #[.slice (some ⟨b, off, none⟩) len cap, .int .i64 ((p : Int) + 1), .int .u64 M, .int .i64 sz] 88 (0, 0))) ∧ w.grownBy w' (some g) := by
  obtain ⟨⟨c0, c1, c2, c3⟩, hf⟩ := four_cells hh
  have HH := hide hh
  clear hh
  have hp' : (p : Int) < (len : Int) := by omega
  obtain ⟨M1, e1, l1, u1⟩ := bits_name .xor mix (IntKind.u64.wrap (mix * 8192))
  obtain ⟨M2, e2, l2, u2⟩ := bits_name .xor M1 (M1 / 128)
  obtain ⟨M3, e3, l3, u3⟩ := bits_name .xor M2 (IntKind.u64.wrap (M2 * 131072))
  have d2 : (w.setCell ⟨g, 1, none⟩ (.int .i64 ((p : Int) + 1))).cell? ⟨g, 2, none⟩ = some (.int .u64 mix) := by rw [World.cell?_setCell_other _ _ _ _ (by simp)]; exact c2
  obtain ⟨r1, r2, r3⟩ := set_thrice (.int .u64 M1) (.int .u64 M2) (.int .u64 M3) d2
  go_enter Try.func34, Try.ntmps34
  go_wp2_with fail
  go_region
  go_wp2_with fail
  go_region
  go_wp2_with fail
  go_region
  go_wp2_with fail
  go_region
  go_wp2_with fail
  go_region
  go_wp2_with fail
  go_ret
  refine ⟨⟨_, rfl, mod_in _ most hm1 hm2⟩, ⟨M3, l3, u3, ?_⟩, ?_⟩
  · exact four_set (i := 2) (four_set (i := 2) (four_set (i := 2) (four_set (i := 1) HH.out _) _) _) _
  · exact grownBy_drew (grownBy_drew (grownBy_drew (grownBy_drew (grownBy_drew (grownBy_set (grownBy_set (grownBy_set (grownBy_set (World.grownBy.refl _ _) _) _) _) _)))))

set_option maxRecDepth 100000 in
set_option maxHeartbeats 400000 in
theorem src_n_none (w : World) (g : Nat) (most : Int) (hm : most ≤ 1) :
    Calls Try.prog 34 #[.pointer (some ⟨g, 0, none⟩), .int .i64 most] w fun e w' => e = .returned (.int .i64 0) ∧ w = w' := by
  go_enter Try.func34, Try.ntmps34
  go_wp2_with fail
  go_ret
  exact ⟨rfl, rfl⟩

/-- A number below most (0, if most is at most 1); the source stays one, and nothing else turns. -/
theorem src_n (B : Nat) (w : World) (g : Nat) (a : Option Addr) (len cap : Nat) (most : Int) (hm : most ≤ 4611686018427387904) (hs : Src 88 B w g a len cap) :
    Calls Try.prog 34 #[.pointer (some ⟨g, 0, none⟩), .int .i64 most] w fun e w' => ∃ v : Int, e = .returned (.int .i64 v) ∧ 0 ≤ v ∧ (v < most ∨ v = 0) ∧ Src 88 B w' g a len cap ∧ w.grownBy w' (some g) := by
  by_cases h1 : most ≤ 1
  · refine (src_n_none w g most h1).mono ?_
    rintro e w' ⟨rfl, rfl⟩
    exact ⟨0, rfl, by omega, .inr rfl, hs, World.grownBy.refl _ _⟩
  · have hlt := hs.lt
    obtain ⟨hB, hl, hby, p, mix, sz, hp, _, _, hs12, hh⟩ := hs
    by_cases hpl : p < len
    · rcases hby with h0 | ⟨b, off, rfl, hb, hc⟩
      · omega
      · obtain ⟨z, z0, z1, hz⟩ := hc p hpl
        refine (src_n_byte w g b off z len cap p most mix sz (by omega) hm hl hpl z0 z1 (by omega) hz hh).mono ?_
        rintro e w' ⟨⟨v, rfl, v0, v1⟩, ⟨M, m0, m1, hM⟩, hg⟩
        refine ⟨v, rfl, v0, .inl v1, ⟨hB, hl, BytesIn.below (.inr ⟨b, off, rfl, hb, hc⟩) (grownBy_below hg hB (by omega)) (Nat.le_refl _), p + 1, M, sz, by omega, m0, m1, hs12, ?_⟩, hg⟩
        rw [hM]; rfl
    · obtain rfl : p = len := by omega
      refine (src_n_end w g a p cap most mix sz (by omega) hm hl hh).mono ?_
      rintro e w' ⟨⟨v, rfl, v0, v1⟩, ⟨M, m0, m1, hM⟩, hg⟩
      exact ⟨v, rfl, v0, .inl v1, ⟨hB, hl, hby.below (grownBy_below hg hB (by omega)) (Nat.le_refl _), p, M, sz, by omega, m0, m1, hs12, hM⟩, hg⟩

set_option maxRecDepth 100000 in
set_option maxHeartbeats 400000 in
theorem src_one (B : Nat) (w : World) (g : Nat) (a : Option Addr) (len cap : Nat) (most : Int) (hm : most ≤ 4611686018427387904) (hs : Src 88 B w g a len cap) :
    Calls Try.prog 35 #[.pointer (some ⟨g, 0, none⟩), .int .i64 most] w fun e w' => ∃ r : Bool, e = .returned (.bool r) ∧ Src 88 B w' g a len cap ∧ w.grownBy w' (some g) := by
  have HS := hide hs
  clear hs
  go_enter Try.func35, Try.ntmps35
  go_wp2_with fail
  refine (src_n B _ g a len cap most hm HS.out).mono ?_
  rintro e w1 ⟨v, rfl, _, _, hs1, hg1⟩
  have HS1 := hide hs1
  clear hs1
  go_wp2_with fail
  go_ret
  exact ⟨_, rfl, HS1.out, hg1⟩
end Go.Proofs.Ytipeelkmmjgehab

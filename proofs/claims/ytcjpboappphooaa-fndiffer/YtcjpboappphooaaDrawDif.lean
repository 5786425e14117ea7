/- The draw of chapter 5. -/
import Derived.Test.YtcjpboappphooaaSrcE
import Derived.BigRegion
namespace Go.Proofs.Ytcjpboappphooaa
open Go.RowKit
def fivd (x : Int) : Array Value := #[.int .i64 0, .int .i64 1, .int .i64 256, .int .i64 257, .int .i64 x]
theorem fivd_at (x : Int) (x0 : -9223372036854775808 ≤ x) (x1 : x ≤ 9223372036854775807) (k : Nat) (hk : k < 5) : ∃ y : Int, -9223372036854775808 ≤ y ∧ y ≤ 9223372036854775807 ∧ (fivd x)[k]? = some (.int .i64 y) := by
  have h : k = 0 ∨ k = 1 ∨ k = 2 ∨ k = 3 ∨ k = 4 := by omega
  rcases h with rfl | rfl | rfl | rfl | rfl
  · exact ⟨0, by decide, by decide, rfl⟩
  · exact ⟨1, by decide, by decide, rfl⟩
  · exact ⟨256, by decide, by decide, rfl⟩
  · exact ⟨257, by decide, by decide, rfl⟩
  · exact ⟨x, x0, x1, rfl⟩

theorem src_drewD {T B : Nat} {w : World} {g : Nat} {a : Option Addr} {len cap : Nat} (h : Src T B w g a len cap) : Src T B w.drew g a len cap := h
theorem src_allocD {T B : Nat} {w : World} {g : Nat} {a : Option Addr} {len cap : Nat} (h : Src T B w g a len cap) (o : Obj) : Src T B (w.alloc o) g a len cap :=
  h.kept (World.grownBy_alloc w o none) (fun k hk => by cases hk) (by have := h.lt; have := h.1; omega)
theorem fivd_late (w : World) (x : Int) (x0 : -9223372036854775808 ≤ x) (x1 : x ≤ 9223372036854775807) (k : Nat) (hk : k < 5) (T : Nat) :
    ∃ y : Int, -9223372036854775808 ≤ y ∧ y ≤ 9223372036854775807 ∧ (w.alloc (.cells #[.int .i64 0, .int .i64 1, .int .i64 256, .int .i64 257, .int .i64 x] T)).cell? ⟨w.heap.size, k, none⟩ = some (.int .i64 y) := by
  obtain ⟨y, y0, y1, hy⟩ := fivd_at x x0 x1 k hk
  exact ⟨y, y0, y1, (cell_of_row _ _ _ _ _ _ (heap_alloc_new w _)).trans hy⟩
theorem fivd_soon {Ts B : Nat} {w w' : World} {g T : Nat} {a : Option Addr} {len cap : Nat} {x : Int} (hs : Src Ts B w g a len cap) (hg : (w.alloc (.cells #[.int .i64 0, .int .i64 1, .int .i64 256, .int .i64 257, .int .i64 x] T)).grownBy w' (some g)) (x0 : -9223372036854775808 ≤ x) (x1 : x ≤ 9223372036854775807) (k : Nat) (hk : k < 5) :
    ∃ y : Int, -9223372036854775808 ≤ y ∧ y ≤ 9223372036854775807 ∧ w'.cell? ⟨w.heap.size, k, none⟩ = some (.int .i64 y) := by
  obtain ⟨y, y0, y1, hy⟩ := fivd_late w x x0 x1 k hk T
  exact ⟨y, y0, y1, hg.cell hy (by have := hs.lt; intro e; injection e with e; have e2 : w.heap.size = g := e; omega)⟩

set_option maxRecDepth 100000 in
set_option maxHeartbeats 800000 in
theorem drawDiffer_any (w : World) (a : Option Addr) (len cap : Nat) (hl : len ≤ 1048576) (hby : BytesIn w w.heap.size a len) :
    Calls Try.prog 6 #[.slice a len cap] w fun e w' => ∃ (t : ByteArray) (n : Int), e = .returned (.tuple #[.string t, .int .i64 n]) ∧ t.size ≤ 39 ∧ -9223372036854775808 ≤ n ∧ n ≤ 9223372036854775807 ∧ w.grownBy w' none := by
  have HB := hide hby
  clear hby
  go_enter Try.func6, Try.ntmps6
  go_wp2_with fail
  refine (source_any _ a len cap hl HB.out).mono ?_
  rintro e w1 ⟨rfl, hs1, hg1⟩
  have H1 := hide hs1
  clear hs1
  go_wp2_with fail
  refine (src_n _ _ _ a len cap 40 (by omega) H1.out).mono ?_
  rintro e w2 ⟨v, rfl, v0, v1, hs2, hg2⟩
  have H2 := hide hs2
  have hG2 := grownBy_new hg1 hg2 (Nat.le_refl _)
  obtain ⟨k, rfl⟩ := Int.eq_ofNat_of_zero_le v0
  have hk : k < 40 := by omega
  clear hs2 hg1 hg2 H1 v1
  go_wp2_with fail
  refine (src_bytes _ _ _ a len cap k (by omega) H2.out).mono ?_
  rintro e w3 ⟨t, rfl, ht, hs3, hg3⟩
  have H3 := hide hs3
  have hG3 := grownBy_new hG2 hg3 (Nat.le_refl _)
  have HT : t.size ≤ 39 := by omega
  clear hs3 hg3 H2 hG2 ht
  go_wp2_with fail
  refine (src_one _ _ _ a len cap 4 (by omega) H3.out).mono ?_
  rintro e w4 ⟨r, rfl, hs4, hg4⟩
  have H4 := hide hs4
  have hG4 := grownBy_new hG3 hg4 (Nat.le_refl _)
  clear hs4 hg4 H3 hG3
  cases r
  · go_wp2_with fail
    refine (src_n _ _ _ a len cap 9 (by omega) H4.out).mono ?_
    rintro e w5 ⟨v, rfl, v0, v1, hs5, hg5⟩
    have hG5 := grownBy_new hG4 hg5 (Nat.le_refl _)
    obtain ⟨j, rfl⟩ := Int.eq_ofNat_of_zero_le v0
    have hj : j < 9 := by omega
    clear hs5 hg5 H4 v1 hG4
    go_wp2_with fail
    go_ret2
    exact ⟨t, _, rfl, HT, by omega, by omega, hG5⟩
  · have HG4 := hide hG4
    clear hG4 HB
    go_wp2_with fail
    go_region_with (first
      | (go_at_call 15; refine (src_edge _ _ _ a len cap (src_drewD H4.out)).mono ?_; rintro e w5 ⟨x, rfl, x0, x1, hs5, hg5⟩)
      | (go_at_call 13; refine (src_n _ _ _ a len cap 5 ?_ hs5).mono ?_; omega; rintro e w6 ⟨v, rfl, v0, v1, hs6, hg6⟩; obtain ⟨j, rfl⟩ := Int.eq_ofNat_of_zero_le v0; have hj : (j : Int) < 5 := (by omega); obtain ⟨y, y0, y1, hy⟩ := fivd_late w6 x x0 x1 j (by omega) 2)
      | (go_at_call 13; refine (src_n _ _ _ a len cap 5 ?_ (src_allocD hs5 _)).mono ?_; omega; rintro e w6 ⟨v, rfl, v0, v1, hs6, hg6⟩; obtain ⟨j, rfl⟩ := Int.eq_ofNat_of_zero_le v0; have hj : (j : Int) < 5 := (by omega); obtain ⟨y, y0, y1, hy⟩ := fivd_soon hs5 hg6 x0 x1 j (by omega)))
    all_goals
      have hG5 := grownBy_new (grownBy_drew HG4.out) hg5 (Nat.le_refl _)
      have hG6 : w.grownBy w6 none := by first | exact grownBy_new hG5 hg6 (Nat.le_refl _) | exact grownBy_new (grownBy_alloc hG5 _) hg6 (Nat.le_refl _)
      clear hg5 hg6 hG5 hs5 hs6
      go_wp2_with fail
      go_ret2
      first | exact ⟨t, y, rfl, HT, y0, y1, hG6⟩ | exact ⟨t, y, rfl, HT, y0, y1, grownBy_alloc hG6 _⟩
end Go.Proofs.Ytcjpboappphooaa

/- The draws of Digest, Mac, Stretch: some text, some number; nothing that was there turns. -/
import Derived.Test.YtiiefapcbegilaaDoorSrcE
import Derived.BigRegion
namespace Go.Proofs.YtiiefapcbegilaaDoor
open Go.RowKit

set_option maxRecDepth 100000 in
set_option maxHeartbeats 800000 in
theorem drawDigest_any (w : World) (a : Option Addr) (len cap : Nat) (hl : len ≤ 1048576) (hby : BytesIn w w.heap.size a len) :
    Calls Tryd.prog 11 #[.slice a len cap] w fun e w' => ∃ t : ByteArray, e = .returned (.string t) ∧ t.size ≤ 199 ∧ w.grownBy w' none := by
  have HB := hide hby
  clear hby
  go_enter Tryd.func11, Tryd.ntmps11
  go_wp2_with fail
  refine (source_any _ a len cap hl HB.out).mono ?_
  rintro e w1 ⟨rfl, hs1, hg1⟩
  have H1 := hide hs1
  clear hs1
  go_wp2_with fail
  refine (src_n _ _ _ a len cap 200 (by omega) H1.out).mono ?_
  rintro e w2 ⟨v, rfl, v0, v1, hs2, hg2⟩
  have H2 := hide hs2
  have hG2 := grownBy_new hg1 hg2 (Nat.le_refl _)
  obtain ⟨k, rfl⟩ := Int.eq_ofNat_of_zero_le v0
  have hk : k < 200 := by omega
  clear hs2 hg1 hg2 H1 v1
  go_wp2_with fail
  refine (src_bytes _ _ _ a len cap k (by omega) H2.out).mono ?_
  rintro e w3 ⟨t, rfl, ht, _, hg3⟩
  have hG3 := grownBy_new hG2 hg3 (Nat.le_refl _)
  have HT : t.size ≤ 199 := by omega
  clear hg3 H2 hG2 ht
  go_wp2_with fail
  go_ret
  exact ⟨t, rfl, HT, hG3⟩

set_option maxRecDepth 100000 in
set_option maxHeartbeats 800000 in
theorem drawMac_any (w : World) (a : Option Addr) (len cap : Nat) (hl : len ≤ 1048576) (hby : BytesIn w w.heap.size a len) :
    Calls Tryd.prog 7 #[.slice a len cap] w fun e w' => ∃ k t : ByteArray, e = .returned (.tuple #[.string k, .string t]) ∧ k.size ≤ 65 ∧ t.size ≤ 99 ∧ w.grownBy w' none := by
  have HB := hide hby
  clear hby
  obtain ⟨i0, hi, hz0, hz1, hz2⟩ := info_parts Tryd.infoV8
  go_enter Tryd.func7, Tryd.ntmps7
  go_wp2_with fail
  refine (source_any _ a len cap hl HB.out).mono ?_
  rintro e w1 ⟨rfl, hs1, hg1⟩
  have H1 := hide hs1
  clear hs1
  go_wp2_with fail
  refine (src_n _ _ _ a len cap 20 (by omega) H1.out).mono ?_
  rintro e w2 ⟨v, rfl, v0, v1, hs2, hg2⟩
  have H2 := hide hs2
  have hG2 := grownBy_new hg1 hg2 (Nat.le_refl _)
  obtain ⟨k, rfl⟩ := Int.eq_ofNat_of_zero_le v0
  have hk : k < 20 := by omega
  clear hs2 hg1 hg2 H1 v1
  go_wp2_with fail
  refine (src_bytes _ _ _ a len cap k (by omega) H2.out).mono ?_
  rintro e w3 ⟨t, rfl, ht, hs3, hg3⟩
  have H3 := hide hs3
  have hG3 := grownBy_new hG2 hg3 (Nat.le_refl _)
  have HT : t.size ≤ 65 := by omega
  clear hs3 hg3 H2 hG2 ht
  go_wp2_with fail
  refine (src_one _ _ _ a len cap 6 (by omega) H3.out).mono ?_
  rintro e w4 ⟨r, rfl, hs4, hg4⟩
  have H4 := hide hs4
  have hG4 := grownBy_new hG3 hg4 (Nat.le_refl _)
  clear hs4 hg4 H3 hG3
  cases r
  · go_wp2_with fail
    refine (src_n _ _ _ a len cap 100 (by omega) H4.out).mono ?_
    rintro e w5 ⟨v, rfl, v0, v1, hs5, hg5⟩
    have H5 := hide hs5
    have hG5 := grownBy_new hG4 hg5 (Nat.le_refl _)
    obtain ⟨j, rfl⟩ := Int.eq_ofNat_of_zero_le v0
    have hj : j < 100 := by omega
    clear hs5 hg5 H4 v1 hG4
    go_wp2_with fail
    refine (src_bytes _ _ _ a len cap j (by omega) H5.out).mono ?_
    rintro e w6 ⟨t2, rfl, ht2, _, hg6⟩
    have hG6 := grownBy_new hG5 hg6 (Nat.le_refl _)
    have HT2 : t2.size ≤ 99 := by omega
    clear hg6 H5 hG5 ht2
    go_wp2_with fail
    go_ret2
    exact ⟨t, t2, rfl, HT, HT2, hG6⟩
  · go_wp2_with fail
    refine (src_n _ _ _ a len cap 3 (by omega) H4.out).mono ?_
    rintro e w5 ⟨v, rfl, v0, v1, hs5, hg5⟩
    have hlt5 := hs5.lt
    have H5 := hide hs5
    have hG5 := grownBy_new hG4 hg5 (Nat.le_refl _)
    obtain ⟨m, rfl⟩ := Int.eq_ofNat_of_zero_le v0
    have hm : m < 3 := by omega
    clear hs5 hg5 H4 v1 hG4
    go_wp2_with (at_make; refine wpList_make_full _ rfl _ _ 22 rfl w5.heap.size 5 i0 (.int .u8 0) 1 Tryd.underlying22 hi hz0 hz1 .i64 .i64 _ _ (63 + m) rfl rfl (by omega) (by omega) ?m1 ?m2 (Nat.le_refl _) ?_)
    case m1 => rw [hz2]; omega
    case m2 => unfold maxLen; omega
    intro w6 hown hg6
    rw [made_bytes] at hown
    have hown' : w6.ownsRow w5.heap.size 5 1 (.slice (some ⟨w5.heap.size, 0, none⟩) (63 + m) (63 + m)) (List.replicate (63 + m) (0 : UInt8)).length ((List.replicate (63 + m) (0 : UInt8)).map byteV) := by simpa using hown
    have hcv := own_conv (P := Tryd.prog) hown' Tryd.underlying22 Tryd.underlying5 Tryd.underlying9
    generalize hT : (⟨(List.replicate (63 + m) (0 : UInt8)).toArray⟩ : ByteArray) = t0 at *
    have hts : t0.size = 63 + m := by rw [← hT, size_mk]; simp
    have HT0 := hide hts
    clear hown hown' hT hts
    have H6 := hide (H5.out.kept hg6 (fun k hk => by cases hk) (by omega))
    have hG6 := grownBy_none hG5 hg6
    clear hg6 hG5 H5
    go_wp2_with fail
    clear hcv
    refine (src_n _ _ _ a len cap 100 (by omega) H6.out).mono ?_
    rintro e w7 ⟨v, rfl, v0, v1, hs7, hg7⟩
    have H7 := hide hs7
    have hG7 := grownBy_new hG6 hg7 (Nat.le_refl _)
    obtain ⟨j, rfl⟩ := Int.eq_ofNat_of_zero_le v0
    have hj : j < 100 := by omega
    clear hs7 hg7 H6 v1 hG6
    go_wp2_with fail
    refine (src_bytes _ _ _ a len cap j (by omega) H7.out).mono ?_
    rintro e w8 ⟨t2, rfl, ht2, _, hg8⟩
    have hG8 := grownBy_new hG7 hg8 (Nat.le_refl _)
    have HT2 : t2.size ≤ 99 := by omega
    clear hg8 H7 hG7 ht2
    go_wp2_with fail
    go_ret2
    exact ⟨t0, t2, rfl, by rw [HT0.out]; omega, HT2, hG8⟩

def five (x : Int) : Array Value := #[.int .i64 0, .int .i64 1, .int .i64 100, .int .i64 101, .int .i64 x]
theorem five_at (x : Int) (x0 : -9223372036854775808 ≤ x) (x1 : x ≤ 9223372036854775807) (k : Nat) (hk : k < 5) : ∃ y : Int, -9223372036854775808 ≤ y ∧ y ≤ 9223372036854775807 ∧ (five x)[k]? = some (.int .i64 y) := by
  have h : k = 0 ∨ k = 1 ∨ k = 2 ∨ k = 3 ∨ k = 4 := by omega
  rcases h with rfl | rfl | rfl | rfl | rfl
  · exact ⟨0, by decide, by decide, rfl⟩
  · exact ⟨1, by decide, by decide, rfl⟩
  · exact ⟨100, by decide, by decide, rfl⟩
  · exact ⟨101, by decide, by decide, rfl⟩
  · exact ⟨x, x0, x1, rfl⟩

theorem src_drew {T B : Nat} {w : World} {g : Nat} {a : Option Addr} {len cap : Nat} (h : Src T B w g a len cap) : Src T B w.drew g a len cap := h
theorem src_alloc {T B : Nat} {w : World} {g : Nat} {a : Option Addr} {len cap : Nat} (h : Src T B w g a len cap) (o : Obj) : Src T B (w.alloc o) g a len cap :=
  h.kept (World.grownBy_alloc w o none) (fun k hk => by cases hk) (by have := h.lt; have := h.1; omega)
theorem five_late (w : World) (x : Int) (x0 : -9223372036854775808 ≤ x) (x1 : x ≤ 9223372036854775807) (k : Nat) (hk : k < 5) (T : Nat) :
    ∃ y : Int, -9223372036854775808 ≤ y ∧ y ≤ 9223372036854775807 ∧ (w.alloc (.cells #[.int .i64 0, .int .i64 1, .int .i64 100, .int .i64 101, .int .i64 x] T)).cell? ⟨w.heap.size, k, none⟩ = some (.int .i64 y) := by
  obtain ⟨y, y0, y1, hy⟩ := five_at x x0 x1 k hk
  exact ⟨y, y0, y1, (cell_of_row _ _ _ _ _ _ (heap_alloc_new w _)).trans hy⟩
theorem five_soon {Ts B : Nat} {w w' : World} {g T : Nat} {a : Option Addr} {len cap : Nat} {x : Int} (hs : Src Ts B w g a len cap) (hg : (w.alloc (.cells #[.int .i64 0, .int .i64 1, .int .i64 100, .int .i64 101, .int .i64 x] T)).grownBy w' (some g)) (x0 : -9223372036854775808 ≤ x) (x1 : x ≤ 9223372036854775807) (k : Nat) (hk : k < 5) :
    ∃ y : Int, -9223372036854775808 ≤ y ∧ y ≤ 9223372036854775807 ∧ w'.cell? ⟨w.heap.size, k, none⟩ = some (.int .i64 y) := by
  obtain ⟨y, y0, y1, hy⟩ := five_late w x x0 x1 k hk T
  exact ⟨y, y0, y1, hg.cell hy (by have := hs.lt; intro e; injection e with e; have e2 : w.heap.size = g := e; omega)⟩

set_option maxRecDepth 100000 in
set_option maxHeartbeats 800000 in
theorem drawStretch_any (w : World) (a : Option Addr) (len cap : Nat) (hl : len ≤ 1048576) (hby : BytesIn w w.heap.size a len) :
    Calls Tryd.prog 12 #[.slice a len cap] w fun e w' => ∃ (t : ByteArray) (n : Int), e = .returned (.tuple #[.string t, .int .i64 n]) ∧ t.size ≤ 8 ∧ -9223372036854775808 ≤ n ∧ n ≤ 9223372036854775807 ∧ w.grownBy w' none := by
  have HB := hide hby
  clear hby
  go_enter Tryd.func12, Tryd.ntmps12
  go_wp2_with fail
  refine (source_any _ a len cap hl HB.out).mono ?_
  rintro e w1 ⟨rfl, hs1, hg1⟩
  have H1 := hide hs1
  clear hs1
  go_wp2_with fail
  refine (src_n _ _ _ a len cap 9 (by omega) H1.out).mono ?_
  rintro e w2 ⟨v, rfl, v0, v1, hs2, hg2⟩
  have H2 := hide hs2
  have hG2 := grownBy_new hg1 hg2 (Nat.le_refl _)
  obtain ⟨k, rfl⟩ := Int.eq_ofNat_of_zero_le v0
  have hk : k < 9 := by omega
  clear hs2 hg1 hg2 H1 v1
  go_wp2_with fail
  refine (src_bytes _ _ _ a len cap k (by omega) H2.out).mono ?_
  rintro e w3 ⟨t, rfl, ht, hs3, hg3⟩
  have H3 := hide hs3
  have hG3 := grownBy_new hG2 hg3 (Nat.le_refl _)
  have HT : t.size ≤ 8 := by omega
  clear hs3 hg3 H2 hG2 ht
  go_wp2_with fail
  refine (src_one _ _ _ a len cap 6 (by omega) H3.out).mono ?_
  rintro e w4 ⟨r, rfl, hs4, hg4⟩
  have H4 := hide hs4
  have hG4 := grownBy_new hG3 hg4 (Nat.le_refl _)
  clear hs4 hg4 H3 hG3
  cases r
  · go_wp2_with fail
    refine (src_n _ _ _ a len cap 9 (by omega) H4.out).mono ?_
    rintro e w5 ⟨v, rfl, v0, v1, hs5, hg5⟩
    have hG5 := grownBy_new hG4 hg5 (Nat.le_refl _)
    obtain ⟨j, rfl⟩ := Int.eq_ofNat_of_zero_le v0
    have hj : j < 9 := by omega
    clear hs5 hg5 H4 v1 hG4
    go_wp2_with fail
    go_ret2
    exact ⟨t, _, rfl, HT, by omega, by omega, hG5⟩
  · have HG4 := hide hG4
    clear hG4 HB
    go_wp2_with fail
    go_region_with (first
      | (go_at_call 23; refine (src_edge _ _ _ a len cap (src_drew H4.out)).mono ?_; rintro e w5 ⟨x, rfl, x0, x1, hs5, hg5⟩)
      | (go_at_call 19; refine (src_n _ _ _ a len cap 5 ?_ hs5).mono ?_; omega; rintro e w6 ⟨v, rfl, v0, v1, hs6, hg6⟩; obtain ⟨j, rfl⟩ := Int.eq_ofNat_of_zero_le v0; have hj : (j : Int) < 5 := (by omega); obtain ⟨y, y0, y1, hy⟩ := five_late w6 x x0 x1 j (by omega) 2)
      | (go_at_call 19; refine (src_n _ _ _ a len cap 5 ?_ (src_alloc hs5 _)).mono ?_; omega; rintro e w6 ⟨v, rfl, v0, v1, hs6, hg6⟩; obtain ⟨j, rfl⟩ := Int.eq_ofNat_of_zero_le v0; have hj : (j : Int) < 5 := (by omega); obtain ⟨y, y0, y1, hy⟩ := five_soon hs5 hg6 x0 x1 j (by omega)))
    all_goals
      have hG5 := grownBy_new (grownBy_drew HG4.out) hg5 (Nat.le_refl _)
      have hG6 : w.grownBy w6 none := by first | exact grownBy_new hG5 hg6 (Nat.le_refl _) | exact grownBy_new (grownBy_alloc hG5 _) hg6 (Nat.le_refl _)
      clear hg5 hg6 hG5 hs5 hs6
      go_wp2_with fail
      go_ret2
      first | exact ⟨t, y, rfl, HT, y0, y1, hG6⟩ | exact ⟨t, y, rfl, HT, y0, y1, grownBy_alloc hG6 _⟩
end Go.Proofs.YtiiefapcbegilaaDoor

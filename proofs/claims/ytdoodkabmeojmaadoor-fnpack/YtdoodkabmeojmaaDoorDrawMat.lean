/- The draws of chapter 7: pick, l06Text. -/
import Derived.Test.YtdoodkabmeojmaaDoorSrcB
import Derived.Test.YtdoodkabmeojmaaDoorSrcS
import Derived.Test.YtdoodkabmeojmaaDoorLwV
import Derived.BigRegion
namespace Go.Proofs.YtdoodkabmeojmaaDoor
open Go.RowKit
set_option maxRecDepth 100000 in
set_option maxHeartbeats 400000 in
theorem src_pick (B : Nat) (w : World) (g : Nat) (a : Option Addr) (len cap : Nat) (z n : Nat) (f : Nat → ByteArray) (hn0 : 0 < n) (hn : n ≤ 1000) (hzg : z ≠ g) (hc : ∀ j, j < n → w.cell? ⟨z, j, none⟩ = some (.string (f j))) (hs : Src 55 B w g a len cap) :
    Calls Tryd.prog 26 #[.pointer (some ⟨g, 0, none⟩), .slice (some ⟨z, 0, none⟩) n n] w fun e w' => ∃ j, j < n ∧ e = .returned (.string (f j)) ∧ Src 55 B w' g a len cap ∧ w.grownBy w' (some g) := by
  have HC := hide hc
  have HS := hide hs
  clear hc hs
  go_enter Tryd.func26, Tryd.ntmps26
  go_wp2_with fail
  refine (src_n _ _ _ a len cap (n : Int) (by omega) HS.out).mono ?_
  rintro e w1 ⟨v, rfl, v0, v1, hs1, hg1⟩
  obtain ⟨j, rfl⟩ := Int.eq_ofNat_of_zero_le v0
  have hj : j < n := by omega
  have hj' : (j : Int) < (n : Int) := by omega
  have c1 : w1.cell? ⟨z, j, none⟩ = some (.string (f j)) := hg1.cell (a := ⟨z, j, none⟩) (HC.out j hj) (fun e => hzg (Option.some.inj e))
  have HS1 := hide hs1
  have HG1 := hide hg1
  clear hs1 hg1 HS HC v1
  obtain ⟨X, hX⟩ : ∃ X, X = f j := ⟨_, rfl⟩
  rw [← hX] at c1
  have HX := hide hX
  clear hX
  go_wp2_with fail
  go_ret
  exact ⟨j, hj, by rw [← HX.out]; rfl, HS1.out, HG1.out⟩
def four (j : Nat) : ByteArray := if j = 0 then ⟨#[97, 98, 99]⟩ else if j = 1 then ⟨#[97, 97, 97, 97]⟩ else if j = 2 then ⟨#[97, 98, 99, 97, 98, 99]⟩ else ⟨#[120]⟩
theorem four_size (j : Nat) : (four j).size ≤ 6 := by
  unfold four
  split
  · decide
  · split
    · decide
    · split <;> decide
theorem cut_size (t : ByteArray) : (t.extract 0 300).size ≤ 300 := by rw [ByteArray.size_extract]; omega
set_option maxRecDepth 100000 in
set_option maxHeartbeats 1600000 in
/-- l06Text: at most 300 bytes, or about 4000 zeros. -/
theorem src_text2 (B : Nat) (w : World) (g : Nat) (a : Option Addr) (len cap : Nat) (hs : Src 55 B w g a len cap) (hB : B ≤ w.heap.size) :
    Calls Tryd.prog 11 #[.pointer (some ⟨g, 0, none⟩)] w fun e w' => ∃ t : ByteArray, e = .returned (.string t) ∧ (t.size ≤ 300 ∨ ∃ n, n ≤ 4001 ∧ t = ⟨(List.replicate n (0 : UInt8)).toArray⟩) ∧ Src 55 B w' g a len cap ∧ w.grownBy w' (some g) := by
  have hgl := hs.lt
  have HS := hide hs
  clear hs
  go_enter Tryd.func11, Tryd.ntmps11
  go_wp2_with fail
  refine (src_n _ _ _ a len cap 12 (by omega) HS.out).mono ?_
  rintro e w1 ⟨x, rfl, x0, x1, hs1, hg1⟩
  have HS1 := hide hs1
  have HG1 := hide hg1
  obtain ⟨k1, rfl⟩ := Int.eq_ofNat_of_zero_le x0
  have hk1 : k1 < 12 := by omega
  clear hs1 hg1 HS x1
  go_wp2_with fail
  refine (src_bytes _ _ _ a len cap k1 (by omega) HS1.out).mono ?_
  rintro e w2 ⟨t0, rfl, ht0, hs2, hg2⟩
  have HS2 := hide hs2
  have HG2 := hide (grownBy_trans HG1.out hg2)
  have ht0' : t0.size ≤ 300 := by omega
  clear hs2 hg2 HS1 HG1 ht0
  go_wp2_with fail
  refine (src_n _ _ _ a len cap 5 (by omega) HS2.out).mono ?_
  rintro e w3 ⟨y, rfl, y0, y1, hs3, hg3⟩
  have HS3 := hide hs3
  have HG3 := hide (grownBy_trans HG2.out hg3)
  obtain ⟨k2, rfl⟩ := Int.eq_ofNat_of_zero_le y0
  have hk2 : k2 < 5 := by omega
  clear hs3 hg3 HS2 HG2 y1
  go_wp2_with fail
  go_loopw [3, 4] (fun tv i wx => ∃ (t : ByteArray) (k : Nat), k ≤ 5 ∧ tv = .string t ∧ i = .int .i64 k ∧ t.size ≤ 300 ∧ Hid (Src 55 B wx g a len cap) ∧ Hid (w.grownBy wx (some g))) (fun _ i _ => (intOf i).toNat)
  case atStart => exact ⟨t0, k2, by omega, rfl, rfl, ht0', HS3, HG3⟩
  case round =>
    clear HS3 HG3
    obtain ⟨t, k, hk, rfl, rfl, ht, hs, hg⟩ := hrel
    by_cases hk0 : 0 < k
    · have hk0' : (0 : Int) < (k : Int) := by omega
      go_wp2_with fail
      refine (src_n _ _ _ a len cap 3 (by omega) hs.out).mono ?_
      rintro e w4 ⟨c, rfl, c0, c1, hs4, hg4⟩
      have HS4 := hide hs4
      have HG4 := hide (grownBy_trans hg.out hg4)
      have hkb : (k : Int) ≤ 5 := by omega
      clear hs4 hg4 hs hg
      have ht300 : (t.size : Int) ≤ 300 := by omega
      by_cases hc0 : c = 0
      · have d0 : (c == 0) = true := by rw [hc0]; rfl
        clear hc0
        go_wp2_with fail
        all_goals
          exact ⟨⟨_, k - 1, by omega, rfl, congrArg _ (by omega), by first | exact cut_size _ | (simp only [ByteArray.size_append]; omega), HS4, HG4⟩, by simp [intOf]; omega⟩
      · have d0 : (c == 0) = false := by rw [beq_eq_false_iff_ne]; exact hc0
        by_cases hc1 : c = 1
        · have d1 : (c == 1) = true := by rw [hc1]; rfl
          clear hc0 hc1
          have S5 := hide (HS4.out.kept (grownBy_alloc (World.grownBy.refl w4 none) (.cells #[.string ⟨#[97, 98, 99]⟩, .string ⟨#[97, 97, 97, 97]⟩, .string ⟨#[97, 98, 99, 97, 98, 99]⟩, .string ⟨#[120]⟩] 9)) (fun k hk => by cases hk) (Nat.le_trans hB HG4.out.size))
          have G5 := hide (grownBy_alloc HG4.out (.cells #[.string ⟨#[97, 98, 99]⟩, .string ⟨#[97, 97, 97, 97]⟩, .string ⟨#[97, 98, 99, 97, 98, 99]⟩, .string ⟨#[120]⟩] 9))
          have hh := heap_alloc_new w4 (.cells #[.string ⟨#[97, 98, 99]⟩, .string ⟨#[97, 97, 97, 97]⟩, .string ⟨#[97, 98, 99, 97, 98, 99]⟩, .string ⟨#[120]⟩] 9)
          have hgz : w4.heap.size ≠ g := by have := HG4.out.size; omega
          go_wp2_with fail
          refine (src_pick B _ g a len cap w4.heap.size 4 four (by omega) (by omega) hgz (fun j hj => by
            rw [cell_of_row _ _ _ _ _ _ hh]
            match j, hj with
            | 0, _ => rfl
            | 1, _ => rfl
            | 2, _ => rfl
            | 3, _ => rfl) S5.out).mono ?_
          rintro e w6 ⟨j, hj, rfl, hs6, hg6⟩
          have HSX := hide hs6
          have HGX := hide (grownBy_trans G5.out hg6)
          have h4 := four_size j
          generalize four j = X at *
          have h4' : (X.size : Int) ≤ 6 := by omega
          clear hs6 hg6 S5 G5 hh HS4 HG4
          go_wp2_with fail
          all_goals
            exact ⟨⟨_, k - 1, by omega, rfl, congrArg _ (by omega), by first | exact cut_size _ | (simp only [ByteArray.size_append]; omega), HSX, HGX⟩, by simp [intOf]; omega⟩
        · have d1 : (c == 1) = false := by rw [beq_eq_false_iff_ne]; exact hc1
          clear hc0 hc1
          go_wp2_with fail
          refine (src_n _ _ _ a len cap 5 (by omega) HS4.out).mono ?_
          rintro e w5 ⟨y, rfl, y0, y1, hs5, hg5⟩
          have HS5 := hide hs5
          have HG5 := hide (grownBy_trans HG4.out hg5)
          obtain ⟨k5, rfl⟩ := Int.eq_ofNat_of_zero_le y0
          have hk5 : k5 < 5 := by omega
          clear hs5 hg5 HS4 HG4 y1
          go_wp2_with fail
          refine (src_bytes _ _ _ a len cap k5 (by omega) HS5.out).mono ?_
          rintro e w6 ⟨X, rfl, hX, hs6, hg6⟩
          have HSX := hide hs6
          have HGX := hide (grownBy_trans HG5.out hg6)
          have h4' : (X.size : Int) ≤ 6 := by omega
          clear hs6 hg6 HS5 HG5 hX
          go_wp2_with fail
          all_goals
            exact ⟨⟨_, k - 1, by omega, rfl, congrArg _ (by omega), by first | exact cut_size _ | (simp only [ByteArray.size_append]; omega), HSX, HGX⟩, by simp [intOf]; omega⟩
    · have hk0' : ¬ (0 : Int) < (k : Int) := by omega
      go_wp2_with fail
      refine (src_one _ _ _ a len cap 25 (by omega) hs.out).mono ?_
      rintro e w4 ⟨r, rfl, hs4, hg4⟩
      have HS4 := hide hs4
      have HG4 := hide (grownBy_trans hg.out hg4)
      clear hs4 hg4 hs hg
      cases r with
      | false =>
        go_wp2_with fail
        go_ret
        exact ⟨t, rfl, .inl ht, HS4.out, HG4.out⟩
      | true =>
        go_wp2_with fail
        refine (src_n _ _ _ a len cap 3 (by omega) HS4.out).mono ?_
        rintro e w5 ⟨y, rfl, y0, y1, hs5, hg5⟩
        have HS5 := hide hs5
        have HG5 := hide (grownBy_trans HG4.out hg5)
        obtain ⟨k5, rfl⟩ := Int.eq_ofNat_of_zero_le y0
        have hk5 : k5 < 3 := by omega
        obtain ⟨n, hn⟩ : ∃ n, n = 3999 + k5 := ⟨_, rfl⟩
        have s1 : (3999 : Int) + (k5 : Int) = (n : Int) := by omega
        have hn4 : n ≤ 4001 := by omega
        have hmk : ∀ w : World, (Instr.makeSlice 22 (.int .i64 (n : Int)) (.int .i64 (n : Int))).run Tryd.prog w = .ok (.slice (some ⟨w.heap.size, 0, none⟩) n n) (w.alloc (.cells (madeCells #[.int .u8 0] n) 5)) := run_make_row' (P := Tryd.prog) 22 5 (.int .u8 0) 1 Tryd.underlying22 (by kernel_rfl) rfl .i64 .i64 n (by omega) (by omega)
        have hcv := own_conv (P := Tryd.prog) (w := w5.alloc (.cells (madeCells #[.int .u8 0] n) 5)) (base := w5.heap.size) (e := 5) (v := .slice (some ⟨w5.heap.size, 0, none⟩) n n) (l := List.replicate n (0 : UInt8)) (by
          have h := World.ownsRow_lit (e := 5) (size := 1) (base := w5.heap.size) w5 (madeCells #[.int .u8 0] n) n (Nat.le_refl _) (by unfold maxLen; omega) (by rw [size_madeCells, Nat.mul_one])
          rw [made_bytes] at h
          rw [List.length_replicate]; exact h) Tryd.underlying22 Tryd.underlying5 Tryd.underlying9
        obtain ⟨X, hX⟩ : ∃ X : ByteArray, X = ⟨(List.replicate n (0 : UInt8)).toArray⟩ := ⟨_, rfl⟩
        rw [← hX] at hcv
        have hXs := hide (show X.size ≤ 300 ∨ ∃ n, n ≤ 4001 ∧ X = ⟨(List.replicate n (0 : UInt8)).toArray⟩ from .inr ⟨n, hn4, hX⟩)
        have SX := hide (HS5.out.kept (grownBy_alloc (World.grownBy.refl w5 none) (.cells (madeCells #[.int .u8 0] n) 5)) (fun k hk => by cases hk) (Nat.le_trans hB HG5.out.size))
        have GX := hide (grownBy_alloc HG5.out (.cells (madeCells #[.int .u8 0] n) 5))
        clear hs5 hg5 HS4 HG4 y1 hX hn HS5 HG5
        go_wp2_with fail
        go_ret
        exact ⟨X, rfl, hXs.out, SX.out, GX.out⟩
theorem src_text (B : Nat) (w : World) (g : Nat) (a : Option Addr) (len cap : Nat) (hs : Src 55 B w g a len cap) (hB : B ≤ w.heap.size) :
    Calls Tryd.prog 11 #[.pointer (some ⟨g, 0, none⟩)] w fun e w' => ∃ t : ByteArray, e = .returned (.string t) ∧ t.size ≤ 4001 ∧ Src 55 B w' g a len cap ∧ w.grownBy w' (some g) := by
  refine (src_text2 B w g a len cap hs hB).mono ?_
  rintro e w' ⟨t, rfl, ht, h1, h2⟩
  refine ⟨t, rfl, ?_, h1, h2⟩
  rcases ht with h | ⟨n, hn, rfl⟩
  · omega
  · rw [size_mk, List.length_replicate]; exact hn
end Go.Proofs.YtdoodkabmeojmaaDoor

/- The walks over the program's isMatch, size and TokenRight (written by mkimptok.py). -/
import Derived.Test.YtdoodkabmeojmaaMatchT
namespace Go.Proofs.Ytdoodkabmeojmaa
open Go.RowKit
set_option maxRecDepth 100000 in
set_option maxHeartbeats 400000 in
theorem imp_isMatch (b m f : Int) (w : World) :
    Calls Try.prog 83 #[.agg #[.int .i64 b, .int .i64 m, .int .i64 f]] w fun e w' => e = .returned (.bool (m != 0)) ∧ Below w.heap.size w w' := by
  go_enter Try.func83, Try.ntmps83
  go_wp2_with fail
  go_ret
  exact ⟨rfl, (Below.refl _ _).alloc (Nat.le_refl _) _⟩
/-- How many bytes a token makes. -/
def tokSize (m : Int) : Int := if m = 0 then 1 else m
set_option maxRecDepth 100000 in
set_option maxHeartbeats 400000 in
theorem imp_size (b m f : Int) (w : World) :
    Calls Try.prog 51 #[.agg #[.int .i64 b, .int .i64 m, .int .i64 f]] w fun e w' => e = .returned (.int .i64 (tokSize m)) ∧ Below w.heap.size w w' := by
  have SI := hide (fun w => imp_isMatch b m f w)
  by_cases hm : m = 0
  · have hd : (m != 0) = false := by rw [hm]; rfl
    have HE := hide (show tokSize m = 1 from if_pos hm)
    rw [hd] at SI
    clear hm
    go_enter Try.func51, Try.ntmps51
    go_wp2_with fail
    refine (SI.out _).mono ?_
    rintro e w1 ⟨rfl, hb⟩
    go_wp2_with fail
    go_ret
    exact ⟨by rw [HE.out]; rfl, ((Below.refl _ _).alloc (Nat.le_refl _) _).trans (hb.mono (by simp))⟩
  · have hd : (m != 0) = true := by simpa using hm
    have HE := hide (show tokSize m = m from if_neg hm)
    rw [hd] at SI
    clear hm
    go_enter Try.func51, Try.ntmps51
    go_wp2_with fail
    refine (SI.out _).mono ?_
    rintro e w1 ⟨rfl, hb⟩
    have c1 := (hb.cell (p := ⟨w.heap.size, 1, none⟩) (by simp)).trans (show (w.alloc (.cells #[.int .i64 b, .int .i64 m, .int .i64 f] 40)).cell? ⟨w.heap.size, 1, none⟩ = some (.int .i64 m) by simp)
    go_wp2_with fail
    go_ret
    exact ⟨by rw [HE.out]; rfl, ((Below.refl _ _).alloc (Nat.le_refl _) _).trans (hb.mono (by simp))⟩
set_option maxRecDepth 100000 in
set_option maxHeartbeats 1600000 in
theorem imp_tokenRight (b m f : Int) (w : World) :
    Calls Try.prog 19 #[.agg #[.int .i64 b, .int .i64 m, .int .i64 f]] w fun e w' => e = .returned (.bool (tokOk ⟨b, m, f⟩)) ∧ Below w.heap.size w w' := by
  by_cases hm0 : m = 0
  · have dm0 : (m == 0) = true := by rw [hm0]; rfl
    by_cases hf0 : f = 0
    · have df0 : (f == 0) = true := by rw [hf0]; rfl
      have hE := (show tokOk ⟨b, m, f⟩ = decide (0 ≤ b ∧ b ≤ 255) by rw [hm0, hf0]; exact tokOk_byte b)
      clear hm0 hf0
      by_cases h0 : 0 ≤ b
      · have d0 : decide (0 ≤ b) = true := decide_eq_true h0
        by_cases h1 : b ≤ 255
        · have d1 : decide (b ≤ 255) = true := decide_eq_true h1
          have HE := hide (show tokOk ⟨b, m, f⟩ = true by rw [hE]; exact decide_eq_true ⟨h0, h1⟩)
          clear hE
          go_enter Try.func19, Try.ntmps19
          go_wp2_with fail
          go_ret
          exact ⟨by rw [HE.out]; rfl, (Below.refl _ _).alloc (Nat.le_refl _) _⟩
        · have d1 : decide (b ≤ 255) = false := decide_eq_false h1
          have HE := hide (show tokOk ⟨b, m, f⟩ = false by rw [hE]; exact decide_eq_false (fun h => h1 h.2))
          clear hE
          go_enter Try.func19, Try.ntmps19
          go_wp2_with fail
          go_ret
          exact ⟨by rw [HE.out]; rfl, (Below.refl _ _).alloc (Nat.le_refl _) _⟩
      · have d0 : decide (0 ≤ b) = false := decide_eq_false h0
        have HE := hide (show tokOk ⟨b, m, f⟩ = false by rw [hE]; exact decide_eq_false (fun h => h0 h.1))
        clear hE
        go_enter Try.func19, Try.ntmps19
        go_wp2_with fail
        go_ret
        exact ⟨by rw [HE.out]; rfl, (Below.refl _ _).alloc (Nat.le_refl _) _⟩
    · have df0 : (f == 0) = false := by rw [beq_eq_false_iff_ne]; exact hf0
      have hn : ¬ (m = 0 ∧ f = 0) := fun h => hf0 h.2
      have hm3 : ¬ 3 ≤ m := by omega
      have dm3 : decide (3 ≤ m) = false := decide_eq_false hm3
      have hE : tokOk ⟨b, m, f⟩ = false := by unfold tokOk; rw [if_neg hn]; exact decide_eq_false (fun h => hm3 h.2.1)
      have HE := hide hE
      clear hm0 hf0 hn
      by_cases hb0 : b = 0
      · have db0 : (b == 0) = true := by rw [hb0]; rfl
        clear hb0
        clear hE
        go_enter Try.func19, Try.ntmps19
        go_wp2_with fail
        go_ret
        exact ⟨by rw [HE.out]; rfl, (Below.refl _ _).alloc (Nat.le_refl _) _⟩
      · have db0 : (b == 0) = false := by rw [beq_eq_false_iff_ne]; exact hb0
        clear hb0
        clear hE
        go_enter Try.func19, Try.ntmps19
        go_wp2_with fail
        go_ret
        exact ⟨by rw [HE.out]; rfl, (Below.refl _ _).alloc (Nat.le_refl _) _⟩
  · have dm0 : (m == 0) = false := by rw [beq_eq_false_iff_ne]; exact hm0
    have hn : ¬ (m = 0 ∧ f = 0) := fun h => hm0 h.1
    by_cases hb0 : b = 0
    · have db0 : (b == 0) = true := by rw [hb0]; rfl
      by_cases hm3 : 3 ≤ m
      · have dm3 : decide (3 ≤ m) = true := decide_eq_true hm3
        by_cases hm66 : m ≤ 66
        · have dm66 : decide (m ≤ 66) = true := decide_eq_true hm66
          by_cases hf1 : 1 ≤ f
          · have df1 : decide (1 ≤ f) = true := decide_eq_true hf1
            by_cases hf1024 : f ≤ 1024
            · have df1024 : decide (f ≤ 1024) = true := decide_eq_true hf1024
              have hE : tokOk ⟨b, m, f⟩ = true := by unfold tokOk; rw [if_neg hn]; exact decide_eq_true ⟨hb0, hm3, hm66, hf1, hf1024⟩
              have HE := hide hE
              clear hb0
              clear hE
              go_enter Try.func19, Try.ntmps19
              go_wp2_with fail
              go_ret
              exact ⟨by rw [HE.out]; rfl, (Below.refl _ _).alloc (Nat.le_refl _) _⟩
            · have df1024 : decide (f ≤ 1024) = false := decide_eq_false hf1024
              have hE : tokOk ⟨b, m, f⟩ = false := by unfold tokOk; rw [if_neg hn]; exact decide_eq_false (fun h => hf1024 h.2.2.2.2)
              have HE := hide hE
              clear hb0
              clear hE
              go_enter Try.func19, Try.ntmps19
              go_wp2_with fail
              go_ret
              exact ⟨by rw [HE.out]; rfl, (Below.refl _ _).alloc (Nat.le_refl _) _⟩
          · have df1 : decide (1 ≤ f) = false := decide_eq_false hf1
            have hE : tokOk ⟨b, m, f⟩ = false := by unfold tokOk; rw [if_neg hn]; exact decide_eq_false (fun h => hf1 h.2.2.2.1)
            have HE := hide hE
            clear hb0
            clear hE
            go_enter Try.func19, Try.ntmps19
            go_wp2_with fail
            go_ret
            exact ⟨by rw [HE.out]; rfl, (Below.refl _ _).alloc (Nat.le_refl _) _⟩
        · have dm66 : decide (m ≤ 66) = false := decide_eq_false hm66
          have hE : tokOk ⟨b, m, f⟩ = false := by unfold tokOk; rw [if_neg hn]; exact decide_eq_false (fun h => hm66 h.2.2.1)
          have HE := hide hE
          clear hb0
          clear hE
          go_enter Try.func19, Try.ntmps19
          go_wp2_with fail
          go_ret
          exact ⟨by rw [HE.out]; rfl, (Below.refl _ _).alloc (Nat.le_refl _) _⟩
      · have dm3 : decide (3 ≤ m) = false := decide_eq_false hm3
        have hE : tokOk ⟨b, m, f⟩ = false := by unfold tokOk; rw [if_neg hn]; exact decide_eq_false (fun h => hm3 h.2.1)
        have HE := hide hE
        clear hb0
        clear hE
        go_enter Try.func19, Try.ntmps19
        go_wp2_with fail
        go_ret
        exact ⟨by rw [HE.out]; rfl, (Below.refl _ _).alloc (Nat.le_refl _) _⟩
    · have db0 : (b == 0) = false := by rw [beq_eq_false_iff_ne]; exact hb0
      have hE : tokOk ⟨b, m, f⟩ = false := by unfold tokOk; rw [if_neg hn]; exact decide_eq_false (fun h => hb0 h.1)
      have HE := hide hE
      clear hb0
      clear hE
      go_enter Try.func19, Try.ntmps19
      go_wp2_with fail
      go_ret
      exact ⟨by rw [HE.out]; rfl, (Below.refl _ _).alloc (Nat.le_refl _) _⟩
end Go.Proofs.Ytdoodkabmeojmaa

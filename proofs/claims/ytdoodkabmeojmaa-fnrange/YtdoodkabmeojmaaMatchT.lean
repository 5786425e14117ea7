/- The walks over the model's l03Byte and TokenRight (written by mkmatch.py). -/
import Derived.Test.YtdoodkabmeojmaaRows
import Derived.Test.YtdoodkabmeojmaaMatchF
import Derived.Below
namespace Go.Proofs.Ytdoodkabmeojmaa
open Go.RowKit
set_option maxRecDepth 100000 in
set_option maxHeartbeats 400000 in
theorem spec_isByte (n : Int) (b : Bool) (w : World) (hb : b = decide (0 ≤ n ∧ n ≤ 255)) :
    Calls Try.prog 53 #[.int .i64 n] w fun e w' => e = .returned (.bool b) ∧ w = w' := by
  by_cases h0 : 0 ≤ n
  · have d0 : decide (0 ≤ n) = true := decide_eq_true h0
    by_cases h1 : n ≤ 255
    · have d1 : decide (n ≤ 255) = true := decide_eq_true h1
      obtain rfl : b = true := by rw [hb]; exact decide_eq_true ⟨h0, h1⟩
      clear hb
      go_enter Try.func53, Try.ntmps53
      go_wp2_with fail
      go_ret
      exact ⟨rfl, rfl⟩
    · have d1 : decide (n ≤ 255) = false := decide_eq_false h1
      obtain rfl : b = false := by rw [hb]; exact decide_eq_false (fun h => h1 h.2)
      clear hb
      go_enter Try.func53, Try.ntmps53
      go_wp2_with fail
      go_ret
      exact ⟨rfl, rfl⟩
  · have d0 : decide (0 ≤ n) = false := decide_eq_false h0
    obtain rfl : b = false := by rw [hb]; exact decide_eq_false (fun h => h0 h.1)
    clear hb
    go_enter Try.func53, Try.ntmps53
    go_wp2_with fail
    go_ret
    exact ⟨rfl, rfl⟩
/-- A token, as a value. -/
def tokV (t : Tok) : Value := .agg #[.int .i64 t.b, .int .i64 t.m, .int .i64 t.f]
theorem tokOk_byte (b : Int) : tokOk ⟨b, 0, 0⟩ = decide (0 ≤ b ∧ b ≤ 255) := by unfold tokOk; rw [if_pos ⟨rfl, rfl⟩]
set_option maxRecDepth 100000 in
set_option maxHeartbeats 1600000 in
theorem spec_tokenRight (b m f : Int) (w : World) :
    Calls Try.prog 18 #[.agg #[.int .i64 b, .int .i64 m, .int .i64 f]] w fun e w' => e = .returned (.bool (tokOk ⟨b, m, f⟩)) ∧ Below w.heap.size w w' := by
  by_cases hm0 : m = 0
  · have dm0 : (m == 0) = true := by rw [hm0]; rfl
    by_cases hf0 : f = 0
    · have df0 : (f == 0) = true := by rw [hf0]; rfl
      have HE := hide (show tokOk ⟨b, m, f⟩ = decide (0 ≤ b ∧ b ≤ 255) by rw [hm0, hf0]; exact tokOk_byte b)
      obtain ⟨r, hr⟩ : ∃ r, r = decide (0 ≤ b ∧ b ≤ 255) := ⟨_, rfl⟩
      have HR := hide hr
      clear hm0 hf0 hr
      go_enter Try.func18, Try.ntmps18
      go_wp2_with fail
      refine (spec_isByte b r _ HR.out).mono ?_
      rintro e w1 ⟨rfl, rfl⟩
      go_wp2_with fail
      go_ret
      exact ⟨by rw [HE.out, ← HR.out]; rfl, (Below.refl _ _).alloc (Nat.le_refl _) _⟩
    · have df0 : (f == 0) = false := by rw [beq_eq_false_iff_ne]; exact hf0
      have hn : ¬ (m = 0 ∧ f = 0) := fun h => hf0 h.2
      have hm3 : ¬ 3 ≤ m := by omega
      have dm3 : decide (3 ≤ m) = false := decide_eq_false hm3
      have hE : tokOk ⟨b, m, f⟩ = false := by unfold tokOk; rw [if_neg hn]; exact decide_eq_false (fun h => hm3 h.2.1)
      have HE := hide hE
      clear hm0 hf0 hn
      by_cases hb0 : b = 0
      · have db0 : (b == 0) = true := by rw [hb0]; rfl
        clear hb0
        clear hE
        go_enter Try.func18, Try.ntmps18
        go_wp2_with fail
        go_ret
        exact ⟨by rw [HE.out]; rfl, (Below.refl _ _).alloc (Nat.le_refl _) _⟩
      · have db0 : (b == 0) = false := by rw [beq_eq_false_iff_ne]; exact hb0
        clear hb0
        clear hE
        go_enter Try.func18, Try.ntmps18
        go_wp2_with fail
        go_ret
        exact ⟨by rw [HE.out]; rfl, (Below.refl _ _).alloc (Nat.le_refl _) _⟩
  · have dm0 : (m == 0) = false := by rw [beq_eq_false_iff_ne]; exact hm0
    have hn : ¬ (m = 0 ∧ f = 0) := fun h => hm0 h.1
    by_cases hb0 : b = 0
    · have db0 : (b == 0) = true := by rw [hb0]; rfl
      by_cases hm3 : 3 ≤ m
      · have dm3 : decide (3 ≤ m) = true := decide_eq_true hm3
        by_cases hm66 : m ≤ 66
        · have dm66 : decide (m ≤ 66) = true := decide_eq_true hm66
          by_cases hf1 : 1 ≤ f
          · have df1 : decide (1 ≤ f) = true := decide_eq_true hf1
            by_cases hf1024 : f ≤ 1024
            · have df1024 : decide (f ≤ 1024) = true := decide_eq_true hf1024
              have hE : tokOk ⟨b, m, f⟩ = true := by unfold tokOk; rw [if_neg hn]; exact decide_eq_true ⟨hb0, hm3, hm66, hf1, hf1024⟩
              have HE := hide hE
              clear hb0
              clear hE
              go_enter Try.func18, Try.ntmps18
              go_wp2_with fail
              go_ret
              exact ⟨by rw [HE.out]; rfl, (Below.refl _ _).alloc (Nat.le_refl _) _⟩
            · have df1024 : decide (f ≤ 1024) = false := decide_eq_false hf1024
              have hE : tokOk ⟨b, m, f⟩ = false := by unfold tokOk; rw [if_neg hn]; exact decide_eq_false (fun h => hf1024 h.2.2.2.2)
              have HE := hide hE
              clear hb0
              clear hE
              go_enter Try.func18, Try.ntmps18
              go_wp2_with fail
              go_ret
              exact ⟨by rw [HE.out]; rfl, (Below.refl _ _).alloc (Nat.le_refl _) _⟩
          · have df1 : decide (1 ≤ f) = false := decide_eq_false hf1
            have hE : tokOk ⟨b, m, f⟩ = false := by unfold tokOk; rw [if_neg hn]; exact decide_eq_false (fun h => hf1 h.2.2.2.1)
            have HE := hide hE
            clear hb0
            clear hE
            go_enter Try.func18, Try.ntmps18
            go_wp2_with fail
            go_ret
            exact ⟨by rw [HE.out]; rfl, (Below.refl _ _).alloc (Nat.le_refl _) _⟩
        · have dm66 : decide (m ≤ 66) = false := decide_eq_false hm66
          have hE : tokOk ⟨b, m, f⟩ = false := by unfold tokOk; rw [if_neg hn]; exact decide_eq_false (fun h => hm66 h.2.2.1)
          have HE := hide hE
          clear hb0
          clear hE
          go_enter Try.func18, Try.ntmps18
          go_wp2_with fail
          go_ret
          exact ⟨by rw [HE.out]; rfl, (Below.refl _ _).alloc (Nat.le_refl _) _⟩
      · have dm3 : decide (3 ≤ m) = false := decide_eq_false hm3
        have hE : tokOk ⟨b, m, f⟩ = false := by unfold tokOk; rw [if_neg hn]; exact decide_eq_false (fun h => hm3 h.2.1)
        have HE := hide hE
        clear hb0
        clear hE
        go_enter Try.func18, Try.ntmps18
        go_wp2_with fail
        go_ret
        exact ⟨by rw [HE.out]; rfl, (Below.refl _ _).alloc (Nat.le_refl _) _⟩
    · have db0 : (b == 0) = false := by rw [beq_eq_false_iff_ne]; exact hb0
      have hE : tokOk ⟨b, m, f⟩ = false := by unfold tokOk; rw [if_neg hn]; exact decide_eq_false (fun h => hb0 h.1)
      have HE := hide hE
      clear hb0
      clear hE
      go_enter Try.func18, Try.ntmps18
      go_wp2_with fail
      go_ret
      exact ⟨by rw [HE.out]; rfl, (Below.refl _ _).alloc (Nat.le_refl _) _⟩
end Go.Proofs.Ytdoodkabmeojmaa

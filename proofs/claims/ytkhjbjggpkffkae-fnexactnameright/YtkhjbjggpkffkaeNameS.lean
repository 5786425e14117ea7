/- The walk over the model's NameRight. -/
import Derived.Test.YtkhjbjggpkffkaeRows
import Derived.Test.YtkhjbjggpkffkaeOwn
import Derived.WalkKit
namespace Go.Proofs.Ytkhjbjggpkffkae
open Go.RowKit

/-- May this byte stand at that place of a name? -/
def okC (i : Nat) (c : UInt8) : Bool := decide ((97 ≤ c.toNat ∧ c.toNat ≤ 122) ∨ (i ≠ 0 ∧ ((48 ≤ c.toNat ∧ c.toNat ≤ 57) ∨ c.toNat = 95)))
/-- Is it a name? -/
def nameB (s : ByteArray) : Bool := decide (1 ≤ s.size ∧ s.size ≤ 20 ∧ ∀ i, i < s.size → okC i (s.data.toList.getD i 0) = true)

theorem getD_at (s : ByteArray) (k : Nat) (h : k < s.size) : s.data.toList.getD k 0 = s[k] := by
  have h' : k < s.data.toList.length := by simpa using h
  rw [List.getD_eq_getElem?_getD, List.getElem?_eq_getElem h']; rfl
theorem name_size {s : ByteArray} (h : s.size < 1 ∨ 20 < s.size) : nameB s = false := by
  unfold nameB; rw [decide_eq_false_iff_not]; omega
theorem name_no {s : ByteArray} {k : Nat} (hk : k < s.size) (h : okC k s[k] = false) : nameB s = false := by
  unfold nameB; rw [decide_eq_false_iff_not]; rintro ⟨_, _, h3⟩
  have := h3 k hk
  rw [getD_at s k hk, h] at this
  exact absurd this (by decide)
theorem name_yes {s : ByteArray} (h1 : 1 ≤ s.size) (h2 : s.size ≤ 20) {k : Nat} (hk : s.size ≤ k) (h : ∀ j, j < k → okC j (s.data.toList.getD j 0) = true) : nameB s = true := by
  unfold nameB; rw [decide_eq_true_iff]; exact ⟨h1, h2, fun i hi => h i (by omega)⟩
theorem ok_more {s : ByteArray} {k : Nat} (hk : k < s.size) (hok : okC k s[k] = true) (h : ∀ j, j < k → okC j (s.data.toList.getD j 0) = true) : ∀ j, j < k + 1 → okC j (s.data.toList.getD j 0) = true := by
  intro j hj
  by_cases e : j = k
  · subst e; rw [getD_at s j hk]; exact hok
  · exact h j (by omega)
theorem ok_yes {k : Nat} {c : UInt8} (h : (97 ≤ c.toNat ∧ c.toNat ≤ 122) ∨ (k ≠ 0 ∧ ((48 ≤ c.toNat ∧ c.toNat ≤ 57) ∨ c.toNat = 95))) : okC k c = true := by unfold okC; rw [decide_eq_true_iff]; exact h
theorem ok_no {k : Nat} {c : UInt8} (h : ¬ ((97 ≤ c.toNat ∧ c.toNat ≤ 122) ∨ (k ≠ 0 ∧ ((48 ≤ c.toNat ∧ c.toNat ≤ 57) ∨ c.toNat = 95)))) : okC k c = false := by unfold okC; rw [decide_eq_false_iff_not]; exact h
theorem ret_bool {a b : Bool} (h : a = b) : Ending.returned (.bool a) = .returned (.bool b) := by rw [h]

/-- The kinds of bytes that the tests part. -/
theorem kinds (n : Int) : (97 ≤ n ∧ n ≤ 122) ∨ (48 ≤ n ∧ n ≤ 57) ∨ n = 95 ∨ n < 48 ∨ (58 ≤ n ∧ n ≤ 94) ∨ n = 96 ∨ 122 < n := by omega

set_option maxRecDepth 100000 in
set_option maxHeartbeats 1600000 in
theorem spec_name (s : ByteArray) (w : World) (hs : s.size ≤ 9223372036854775807) :
    Calls Try.prog 8 #[.string s] w fun e w' => e = .returned (.bool (nameB s)) ∧ w = w' := by
  by_cases h1 : s.size < 1
  · go_enter Try.func8, Try.ntmps8
    go_wp2
    go_ret
    exact ⟨ret_bool (name_size (.inl h1)).symm, rfl⟩
  by_cases h2 : 20 < s.size
  · go_enter Try.func8, Try.ntmps8
    go_wp2
    go_ret
    exact ⟨ret_bool (name_size (.inr h2)).symm, rfl⟩
  go_enter Try.func8, Try.ntmps8
  go_wp2_with fail
  go_loop [3] (fun i => ∃ k : Nat, k ≤ s.size ∧ i = .int .i64 k ∧ Hid (∀ j, j < k → okC j (s.data.toList.getD j 0) = true)) (fun i => s.size - (intOf i).toNat)
  case atStart => exact ⟨0, by omega, rfl, fun j hj => absurd hj (by omega)⟩
  case round =>
    obtain ⟨k, hk, rfl, hall⟩ := hrel
    by_cases hlt : k < s.size
    · by_cases h0 : k = 0
      · subst h0
        have hp : 0 < s.size := hlt
        rcases kinds (s[0].toNat : Int) with h | h | h | h | h | h | h
        all_goals go_wp2_with fail
        all_goals first
          | (exfalso; rename_i hh; simp at hh; omega)
          | (go_round
             case rel => exact ⟨0 + 1, by omega, by go_num, ok_more hlt (ok_yes (by omega)) hall.out⟩
             case measure => simp [intOf]; omega)
          | (go_ret
             exact ⟨ret_bool (name_no hlt (ok_no (by omega))).symm, rfl⟩)
      · have hk0 : ((k : Int) == 0) = false := by simp; omega
        rcases kinds (s[k].toNat : Int) with h | h | h | h | h | h | h
        all_goals go_wp2_with fail
        all_goals first
          | (exfalso; rename_i hh; simp at hh; omega)
          | (go_round
             case rel => exact ⟨k + 1, by omega, by go_num, ok_more hlt (ok_yes (by omega)) hall.out⟩
             case measure => simp [intOf]; omega)
          | (go_ret
             exact ⟨ret_bool (name_no hlt (ok_no (by omega))).symm, rfl⟩)
    · go_wp2_with fail
      go_ret
      exact ⟨ret_bool (name_yes (by omega) (by omega) (by omega) hall.out).symm, rfl⟩
end Go.Proofs.Ytkhjbjggpkffkae

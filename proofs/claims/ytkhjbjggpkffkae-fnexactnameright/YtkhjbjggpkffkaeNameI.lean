/- The walk over the program's NameRight. -/
import Derived.Test.YtkhjbjggpkffkaeNameS
namespace Go.Proofs.Ytkhjbjggpkffkae
open Go.RowKit

theorem isLetter_yes (c : Int) (w : World) (h1 : 97 ≤ c) (h2 : c ≤ 122) : Calls Try.prog 19 #[.int .u8 c] w fun e w' => e = .returned (.bool true) ∧ w = w' := by
  go_enter Try.func19, Try.ntmps19
  go_wp2
  go_ret
  exact ⟨rfl, rfl⟩
theorem isLetter_no (c : Int) (w : World) (h : c < 97 ∨ 122 < c) : Calls Try.prog 19 #[.int .u8 c] w fun e w' => e = .returned (.bool false) ∧ w = w' := by
  by_cases h1 : 97 ≤ c
  · have h2 : 122 < c := by omega
    go_enter Try.func19, Try.ntmps19
    go_wp2
    go_ret
    exact ⟨ret_bool (by simp; omega), rfl⟩
  · go_enter Try.func19, Try.ntmps19
    go_wp2
    go_ret
    exact ⟨rfl, rfl⟩

theorem isDigit_yes (c : Int) (w : World) (h1 : 48 ≤ c) (h2 : c ≤ 57) : Calls Try.prog 20 #[.int .u8 c] w fun e w' => e = .returned (.bool true) ∧ w = w' := by
  go_enter Try.func20, Try.ntmps20
  go_wp2
  go_ret
  exact ⟨rfl, rfl⟩
theorem isDigit_no (c : Int) (w : World) (h : c < 48 ∨ 57 < c) : Calls Try.prog 20 #[.int .u8 c] w fun e w' => e = .returned (.bool false) ∧ w = w' := by
  by_cases h1 : 48 ≤ c
  · have h2 : 57 < c := by omega
    go_enter Try.func20, Try.ntmps20
    go_wp2
    go_ret
    exact ⟨ret_bool (by simp; omega), rfl⟩
  · go_enter Try.func20, Try.ntmps20
    go_wp2
    go_ret
    exact ⟨rfl, rfl⟩

set_option maxRecDepth 100000 in
set_option maxHeartbeats 1600000 in
theorem impl_name (s : ByteArray) (w : World) (hs : s.size ≤ 9223372036854775807) :
    Calls Try.prog 9 #[.string s] w fun e w' => e = .returned (.bool (nameB s)) ∧ w = w' := by
  by_cases h1 : s.size < 1
  · go_enter Try.func9, Try.ntmps9
    go_wp2_with fail
    go_ret
    exact ⟨ret_bool (name_size (.inl h1)).symm, rfl⟩
  by_cases h2 : 20 < s.size
  · go_enter Try.func9, Try.ntmps9
    go_wp2_with fail
    go_ret
    exact ⟨ret_bool (name_size (.inr h2)).symm, rfl⟩
  have hp : 0 < s.size := by omega
  by_cases hl : 97 ≤ (s[0].toNat : Int) ∧ (s[0].toNat : Int) ≤ 122
  · go_enter Try.func9, Try.ntmps9
    go_wp2_with (go_at_call 19; refine (isLetter_yes _ _ hl.1 hl.2).mono ?_; rintro e w' ⟨rfl, rfl⟩)
    go_loop [3] (fun i => ∃ k : Nat, 1 ≤ k ∧ k ≤ s.size ∧ i = .int .i64 k ∧ Hid (∀ j, j < k → okC j (s.data.toList.getD j 0) = true)) (fun i => s.size - (intOf i).toNat)
    case atStart => exact ⟨1, by omega, by omega, rfl, ok_more (k := 0) hp (ok_yes (by omega)) (fun j hj => absurd hj (by omega))⟩
    case round =>
      obtain ⟨k, hk1, hk, rfl, hall⟩ := hrel
      clear hl
      by_cases hlt : k < s.size
      · rcases kinds (s[k].toNat : Int) with h | h | h | h | h | h | h
        all_goals go_wp2_with (first | (go_at_call 19; refine (isLetter_yes _ _ ?_ ?_).mono ?_; omega; omega; rintro e w' ⟨rfl, rfl⟩) | (go_at_call 19; refine (isLetter_no _ _ ?_).mono ?_; omega; rintro e w' ⟨rfl, rfl⟩) | (go_at_call 20; refine (isDigit_yes _ _ ?_ ?_).mono ?_; omega; omega; rintro e w' ⟨rfl, rfl⟩) | (go_at_call 20; refine (isDigit_no _ _ ?_).mono ?_; omega; rintro e w' ⟨rfl, rfl⟩))
        all_goals first
          | (exfalso; rename_i hh; simp at hh; omega)
          | (go_round
             case rel => exact ⟨k + 1, by omega, by omega, by go_num, ok_more hlt (ok_yes (by omega)) hall.out⟩
             case measure => simp [intOf]; omega)
          | (go_ret
             exact ⟨ret_bool (name_no hlt (ok_no (by omega))).symm, rfl⟩)
      · go_wp2_with fail
        go_ret
        exact ⟨ret_bool (name_yes (by omega) (by omega) (by omega) hall.out).symm, rfl⟩
  · go_enter Try.func9, Try.ntmps9
    go_wp2_with (go_at_call 19; refine (isLetter_no _ _ ?_).mono ?_; omega; rintro e w' ⟨rfl, rfl⟩)
    go_ret
    exact ⟨ret_bool (name_no hp (ok_no (by omega))).symm, rfl⟩
end Go.Proofs.Ytkhjbjggpkffkae

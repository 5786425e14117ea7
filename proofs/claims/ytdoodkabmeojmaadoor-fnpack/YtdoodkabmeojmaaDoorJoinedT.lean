/- The program's joined, of one text and of two. -/
import Derived.Test.YtdoodkabmeojmaaDoorJoinedI
namespace Go.Proofs.YtdoodkabmeojmaaDoor
open Go.RowKit

theorem cat_one (s : ByteArray) : (⟨(catB [s]).toArray⟩ : ByteArray) = s := by
  apply ByteArray.ext; simp [catB]
theorem cat_two (s t : ByteArray) : (⟨(catB [s, t]).toArray⟩ : ByteArray) = s ++ t := by
  apply ByteArray.ext; simp [catB]

theorem joined_one (s : ByteArray) (w : World) (b : Nat) (hbw : b = w.heap.size) (h : s.size ≤ 1099511627776) :
    Calls Tryd.prog 15 #[.slice (some ⟨b, 0, none⟩) 1 1] (w.alloc (.cells #[.string s] 9)) fun e w' => e = .returned (.string s) ∧ Below w.heap.size w w' := by
  subst hbw
  refine (joined_any w.heap.size [s] (w.alloc (.cells #[.string s] 9)) ?_ (by simp) (by simp) (by simpa [catB] using h)).mono ?_
  · intro j hj
    match j, hj with
    | 0, _ => simp
  · rintro e w' ⟨rfl, hb⟩
    exact ⟨by rw [cat_one], ((Below.refl w.heap.size w).alloc (Nat.le_refl _) _).trans (hb.mono (by simp))⟩
theorem joined_two (s t : ByteArray) (w : World) (b : Nat) (hbw : b = w.heap.size) (h : s.size + t.size ≤ 1099511627776) :
    Calls Tryd.prog 15 #[.slice (some ⟨b, 0, none⟩) 2 2] (w.alloc (.cells #[.string s, .string t] 9)) fun e w' => e = .returned (.string (s ++ t)) ∧ Below w.heap.size w w' := by
  subst hbw
  refine (joined_any w.heap.size [s, t] (w.alloc (.cells #[.string s, .string t] 9)) ?_ (by simp) (by simp) (by simpa [catB] using h)).mono ?_
  · intro j hj
    match j, hj with
    | 0, _ => simp
    | 1, _ => simp
  · rintro e w' ⟨rfl, hb⟩
    exact ⟨by rw [cat_two], ((Below.refl w.heap.size w).alloc (Nat.le_refl _) _).trans (hb.mono (by simp))⟩
end Go.Proofs.YtdoodkabmeojmaaDoor

/- The law of DiskCrash holds. -/
import Derived.Test.YtipeelkmmjgehabLwDCrash
import Derived.Test.YtipeelkmmjgehabDkK
namespace Go.Proofs.Ytipeelkmmjgehab
open Go Go.RowKit
theorem dskV_none (w : World) (lo hi : Nat) (fS fC : Nat → Value) : dskV w (.agg #[.slice none 0 0, .slice none 0 0]) lo hi 0 fS 0 fC :=
  ⟨_, _, rfl, ⟨none, 0, rfl, Nat.le_refl _, .inl rfl⟩, ⟨none, 0, rfl, Nat.le_refl _, .inl rfl⟩, (fun k hk => by cases hk), (fun k hk => by cases hk), (fun k hk => by cases hk)⟩
theorem fnExactDiskCrash_walk (v : Value) (nS : Nat) (S : Nat → ByteArray) (nC : Nat) (A : Nat → Int) (X : Nat → ByteArray) (ka : Option Addr) (nK kk : Nat) (Kf : Nat → Bool) (w : World) (hI : dskI w w.heap.size v nS S nC A X) (hS : nS ≤ maxLen) (hC : nC ≤ maxLen) (hSz : ∀ j, j < nS → (S j).size ≤ maxLen) (hXz : ∀ j, j < nC → (X j).size ≤ maxLen) (hnK : nK ≤ maxLen) (hkb : booI w w.heap.size (.slice ka nK kk) nK Kf) :
    Calls Try.prog 8 #[v, .slice ka nK kk] w fun e w' => e = .returned (.bool true) ∧ Below w.heap.size w w' := by
  unfold maxLen at hS hC hnK
  have hSz' : ∀ j, j < nS → (S j).size ≤ 9223372036854775807 := fun j hj => Nat.le_trans (hSz j hj) (by unfold maxLen; omega)
  have hXz' : ∀ j, j < nC → (X j).size ≤ 9223372036854775807 := fun j hj => Nat.le_trans (hXz j hj) (by unfold maxLen; omega)
  by_cases h0 : 1048576 < nK
  · obtain ⟨sv, cv, rfl, h1, h2⟩ := hI
    have d0 : decide ((1048576 : Int) < (nK : Int)) = true := decide_eq_true (by omega)
    have hb := hide ((Below.refl w.heap.size w).alloc (Nat.le_refl _) (.cells #[sv, cv] 41))
    go_enter Try.func8, Try.ntmps8
    go_wp2_with fail
    go_ret
    exact ⟨rfl, hb.out⟩
  have hK : nK ≤ 1048576 := by omega
  by_cases h4 : 400 < nK
  · exact fnExactDiskCrash_core v nS S nC A X ka nK kk Kf hK 0 S 0 A X w (by omega) (by omega) (by omega) (by omega) hSz' hXz'
      (fun _ _ _ _ u x ka kk h _ => (spec_diskCrash_long x nS S nC A X ka nK kk u h4 (by omega) h).mono fun _ w1 ⟨h1, h2⟩ => ⟨_, h1, dskV_none w1 _ _ _ _, h2⟩)
      (fun _ _ _ _ u x ka kk h _ => (imp_diskCrash_long x nS S nC A X ka nK kk u h4 (by omega) h).mono fun _ w1 ⟨h1, h2⟩ => ⟨_, h1, dskV_none w1 _ _ _ _, h2⟩) hI hkb
  have h4' : nK ≤ 400 := by omega
  by_cases hok : dskOk nS S nC A X
  · exact fnExactDiskCrash_core v nS S nC A X ka nK kk Kf hK nS (flS S A X (fun j => decide (j < nK) && Kf j) nC) 0 A X w (by have := hok.1; omega) (by omega) (by omega) (by omega) hSz' hXz'
      (fun _ _ _ _ u x ka kk h hb => spec_diskCrash_yes x nS S nC A X (.slice ka nK kk) nK Kf u h4' hb hok h)
      (fun _ _ _ _ u x ka kk h hb => imp_diskCrash_yes x nS S nC A X ka nK kk Kf u h4' hb hok h) hI hkb
  · by_cases hb : nS ≤ 1048576 ∧ nC ≤ 1048576
    · exact fnExactDiskCrash_core v nS S nC A X ka nK kk Kf hK nS S nC A X w hb.1 hb.2 (by omega) (by omega) hSz' hXz'
        (fun a b _ _ u x ka kk h hb => spec_diskCrash_no x nS S nC A X (.slice ka nK kk) nK Kf u h4' hb a b hok h)
        (fun a b c d u x ka kk h _ => imp_diskCrash_no x nS S nC A X ka nK kk u h4' a b hok c d h) hI hkb
    · exact fnExactDiskCrash_core v nS S nC A X ka nK kk Kf hK 0 S 0 A X w (by omega) (by omega) (by omega) (by omega) hSz' hXz' (fun a b => absurd ⟨a, b⟩ hb) (fun a b => absurd ⟨a, b⟩ hb) hI hkb
end Go.Proofs.Ytipeelkmmjgehab

/- The walk over the law of RangeEncode. -/
import Derived.Test.YtdoodkabmeojmaaRngO
import Derived.Test.YtdoodkabmeojmaaLwBit
namespace Go.Proofs.Ytdoodkabmeojmaa
open Go.RowKit
set_option maxRecDepth 100000 in
set_option maxHeartbeats 800000 in
theorem fnExactRangeEncode_walk (a0 : Option Addr) (len0 cap0 : Nat) (l : List (Int × Bool)) (w : World) (hl : l.length = len0) (hml : len0 ≤ maxLen) (hbits : BitsI w w.heap.size (.slice a0 len0 cap0) l) :
    Calls Try.prog 5 #[.slice a0 len0 cap0] w fun e w' => e = .returned (.bool true) ∧ Below w.heap.size w w' := by
  unfold maxLen at hml
  have hsz := fun w => law_szBit a0 len0 cap0 w hml
  by_cases h0 : 1048576 < len0
  · rw [if_pos h0] at hsz
    have SZ := hide hsz
    clear hsz
    go_enter Try.func5, Try.ntmps5
    go_wp2_with fail
    refine (SZ.out _).mono ?_
    rintro e w1 ⟨rfl, rfl⟩
    go_wp2_with fail
    go_ret
    exact ⟨rfl, Below.refl _ _⟩
  · rw [if_neg h0] at hsz
    have SZ := hide hsz
    clear hsz
    have C0 := hide (show ∀ u, Below w.heap.size w u → BitsI u u.heap.size (.slice a0 len0 cap0) l from fun u hu => (hbits.below hu).wide hu.size)
    have S := hide (And.intro (fun v w hb => spec_rangeEncode v l w (by omega) hb) (And.intro (fun v w hb => imp_rangeEncode v l w (by omega) hb) (fun v w hb => law_toBitS v l w (by omega) hb)))
    have hl20 := hide (show l.length ≤ 1048576 by omega)
    obtain ⟨X, hX⟩ : ∃ X, X = encS l := ⟨_, rfl⟩
    rw [← hX] at S
    obtain ⟨lf, hlf⟩ : ∃ z : Int, z = 1048576 - (len0 : Int) := ⟨_, rfl⟩
    rw [← hlf] at SZ
    have hlf0 : ¬ lf < 0 := by omega
    have heq := str_eq (rfl : X = X)
    clear hX hbits hl hlf
    go_enter Try.func5, Try.ntmps5
    go_wp2_with fail
    refine (SZ.out _).mono ?_
    rintro e w1 ⟨rfl, rfl⟩
    clear SZ
    go_wp2_with fail
    refine (S.out.2.2 _ _ (C0.out w (Below.refl _ _))).mono ?_
    rintro e u1 ⟨x0, rfl, bx0, hb1⟩
    go_wp2_with fail
    refine (S.out.1 _ _ bx0).mono ?_
    rintro e u2 ⟨rfl, hb2⟩
    have B2 := hide (hb1.trans (hb2.mono hb1.size))
    clear hb1 hb2 bx0
    go_wp2_with fail
    refine (S.out.2.2 _ _ (C0.out u2 B2.out)).mono ?_
    rintro e u3 ⟨x1, rfl, bx1, hb3⟩
    have B3 := hide (B2.out.trans (hb3.mono B2.out.size))
    clear B2 hb3
    go_wp2_with fail
    refine (S.out.2.1 _ _ bx1).mono ?_
    rintro e u4 ⟨rfl, hb4⟩
    have B4 := hide (B3.out.trans (hb4.mono B3.out.size))
    have bx1a := hide ((bx1.below hb4).wide hb4.size)
    clear B3 hb4 bx1
    go_wp2_with fail
    refine (S.out.2.2 _ _ (C0.out u4 B4.out)).mono ?_
    rintro e u5 ⟨x2, rfl, bx2, hb5⟩
    have B5 := hide (B4.out.trans (hb5.mono B4.out.size))
    have bx1b := hide ((bx1a.out.below hb5).wide hb5.size)
    clear B4 hb5 bx1a
    go_wp2_with fail
    refine (law_eqBitS x1 x2 l u5 hl20.out bx1b.out bx2).mono ?_
    rintro e u6 ⟨rfl, hb6⟩
    have B6 := hide (B5.out.trans (hb6.mono B5.out.size))
    clear B5 hb6 bx1b bx2
    go_wp2_with fail
    go_ret
    exact ⟨rfl, B6.out⟩
end Go.Proofs.Ytdoodkabmeojmaa

/- The walk over the law of Parse. -/
import Derived.Test.YtdoodkabmeojmaaImpPar
import Derived.Test.YtdoodkabmeojmaaMatchH
import Derived.Test.YtdoodkabmeojmaaLwTok2
namespace Go.Proofs.Ytdoodkabmeojmaa
open Go.RowKit
theorem valM.toks {w : World} {base e : Nat} {v : Value} {l : List Tok} (h : w.ownsRow base e 3 v l.length (tokC l)) : valM 3 w v l.length (fun j => (tokC l).getD j (.int .i64 0)) :=
  valM.of_own h (fun j hj => by rw [List.getD_eq_getElem?_getD, List.getElem?_eq_getElem (by rw [tokC_len]; exact hj)]; rfl)
set_option maxRecDepth 100000 in
set_option maxHeartbeats 800000 in
theorem fnExactParse_walk (t : ByteArray) (wt : t.size ≤ maxLen) (w : World) :
    Calls Try.prog 6 #[.string t] w fun e w' => e = .returned (.bool true) ∧ Below w.heap.size w w' := by
  unfold maxLen at wt
  by_cases h0 : 1048576 < t.size
  · go_enter Try.func6, Try.ntmps6
    go_wp2_with fail
    go_ret
    exact ⟨rfl, Below.refl _ _⟩
  · have S := hide (And.intro (fun w => spec_parse t w wt) (fun w => imp_parse t w wt))
    have hlen := (parS_len t).1
    generalize parS t = l at *
    obtain ⟨n, hn⟩ : ∃ n, n = l.length := ⟨_, rfl⟩
    have HN := hide hn
    have hn4 : n ≤ 4000 := by omega
    have hl4 := hide hlen
    clear hn hlen
    go_enter Try.func6, Try.ntmps6
    go_wp2_with fail
    refine (S.out.1 _).mono ?_
    rintro e u1 ⟨v0, rfl, own0, hb1⟩
    have T0 := hide (own_toks own0)
    have B1 := hide hb1
    clear own0 hb1
    go_wp2_with fail
    refine (S.out.2 _).mono ?_
    rintro e u2 ⟨v1, rfl, own1, hb2⟩
    have T1 := hide (own_toks own1)
    have V1 := hide (valM.toks own1)
    have l1 := hide (show within v1 u1.heap.size u2.heap.size from own1.lt)
    rw [← HN.out] at V1
    have C2 := hide hb2
    clear own1 hb2
    go_wp2_with fail
    refine (law_eqTokS v1 v0 l u2 (by have := hl4.out; omega) T1.out ((T0.out.below C2.out).wide C2.out.size)).mono ?_
    rintro e u3 ⟨rfl, hb3⟩
    have C3 := hide (C2.out.trans (hb3.mono C2.out.size))
    have V1a := hide (V1.out.below hb3)
    have z3 := hb3.size
    clear C2 hb3 V1 T1
    go_wp2_with fail
    refine (law_markTok v1 n 1 _ u3 (by omega) (by omega) V1a.out).mono ?_
    rintro e u4 ⟨rfl, mv, hgr⟩
    have hb4 := grown_own (B := u1.heap.size) hgr (Nat.le_trans C3.out.size (Nat.le_refl _)) (fun k hk => (l1.out k hk).1)
    have C4 := hide (C3.out.trans hb4)
    have MV := hide mv
    clear C3 hb4 hgr mv V1a
    obtain ⟨q, hq⟩ : ∃ q, q = 1 + 3 * n := ⟨_, rfl⟩
    have HQ := hide hq
    rw [← hq]
    have hq0 : ¬ (q : Int) < 0 := by omega
    clear hq
    go_wp2_with fail
    refine (law_heldTok v1 n 1 u4 (by omega) (by omega) MV.out).mono ?_
    rintro e u5 ⟨rfl, hb5⟩
    rw [← HQ.out]
    have C5 := hide (C4.out.trans (hb5.mono C4.out.size))
    have MV5 := hide (MV.out.below hb5)
    clear C4 hb5 MV
    go_wp2_with fail
    refine (S.out.2 _).mono ?_
    rintro e u6 ⟨v2, rfl, own2, hb6⟩
    have T2 := hide (own_toks own2)
    have C6 := hide (C5.out.trans (hb6.mono C5.out.size))
    have MV6 := hide (MV5.out.below hb6)
    clear C5 hb6 MV5 own2
    go_wp2_with fail
    refine (law_eqTokS v2 v0 l u6 (by have := hl4.out; omega) T2.out ((T0.out.below C6.out).wide C6.out.size)).mono ?_
    rintro e u7 ⟨rfl, hb7⟩
    have C7 := hide (C6.out.trans (hb7.mono C6.out.size))
    have MV7 := hide (MV6.out.below hb7)
    clear C6 hb7 MV6 T2
    go_wp2_with fail
    refine (law_heldTok v1 n 1 u7 (by omega) (by omega) MV7.out).mono ?_
    rintro e u8 ⟨rfl, hb8⟩
    rw [← HQ.out]
    have B8 := hide (B1.out.trans ((C7.out.trans (hb8.mono C7.out.size)).mono B1.out.size))
    clear C7 hb8 MV7
    go_wp2_with fail
    go_ret
    exact ⟨rfl, B8.out⟩
end Go.Proofs.Ytdoodkabmeojmaa

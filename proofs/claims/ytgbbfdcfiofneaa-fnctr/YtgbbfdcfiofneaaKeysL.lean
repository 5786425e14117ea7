/- The walk over the law of AesKeys. -/
import Derived.Test.YtgbbfdcfiofneaaImpKeys
import Derived.Test.YtgbbfdcfiofneaaMark
namespace Go.Proofs.Ytgbbfdcfiofneaa
open Go.RowKit
theorem strV.of_own {w : World} {base e : Nat} {v : Value} {l : List ByteArray} (h : w.ownsRow base e 1 v l.length (l.map Value.string)) : strV w v l.length (fun j => l.getD j ⟨#[]⟩) := by
  have h0 := h
  obtain ⟨_, ⟨rfl, hn⟩ | ⟨g, cap, cur, rfl, hg, hb, _⟩⟩ := h
  · exact ⟨none, 0, by rw [hn], .inl hn⟩
  · refine ⟨_, cap, rfl, .inr ⟨g, rfl, (h0.lt g rfl).2, fun j hj => ⟨?_, h0.frozenAt j⟩⟩⟩
    show _ = some (Value.string (l.getD j ⟨#[]⟩))
    rw [h0.cellAt j (by omega), List.getElem?_map, List.getD_eq_getElem?_getD, List.getElem?_eq_getElem hj]
    rfl
theorem strV.kept {w w' : World} {v : Value} {n : Nat} {f : Nat → ByteArray} {r : Option Nat} (h : strV w v n f) (hg : w.grownBy w' r) (hr : ∀ k, v.ownBlock = some k → some k ≠ r) : strV w' v n f := by
  obtain ⟨ao, cap, rfl, h | ⟨g, rfl, hl, hc⟩⟩ := h
  · exact ⟨ao, cap, rfl, .inl h⟩
  · have hne := hr g rfl
    exact ⟨_, cap, rfl, .inr ⟨g, rfl, Nat.lt_of_lt_of_le hl hg.size, fun j hj => by rw [hg.cell_far ⟨g, j, none⟩ hl hne, hg.frozen_far ⟨g, j, none⟩ hl hne]; exact hc j hj⟩⟩
theorem grown_own {w w' : World} {v : Value} {B : Nat} (hg : w.grownBy w' v.ownBlock) (hB : B ≤ w.heap.size) (h : ∀ k, v.ownBlock = some k → B ≤ k) : Below B w w' := by
  cases e : v.ownBlock with
  | none => rw [e] at hg; exact (grownBy_toBelow hg).mono hB
  | some k => rw [e] at hg; exact grownBy_below hg (h k e) hB
set_option maxRecDepth 100000 in
set_option maxHeartbeats 800000 in
theorem fnExactAesKeys_walk (a0 : ByteArray) (w0 : a0.size ≤ maxLen) (w : World) :
    Calls Try.prog 4 #[.string a0] w fun e w' => e = .returned (.bool true) ∧ Below w.heap.size w w' := by
  unfold maxLen at w0
  by_cases h0 : 1048576 < a0.size
  · go_enter Try.func4, Try.ntmps4
    go_wp2_with fail
    go_ret
    exact ⟨rfl, Below.refl _ _⟩
  · have S := hide (And.intro (fun w => spec_aesKeys a0 w (by omega)) (fun w => imp_aesKeys a0 w (by omega)))
    have hlen : (roundKeys (kB (keyF a0)) (if a0.size = 16 then 11 else 0)).length ≤ 11 := by rw [roundKeys_len]; split <;> omega
    generalize roundKeys (kB (keyF a0)) (if a0.size = 16 then 11 else 0) = l at *
    obtain ⟨n, hn⟩ : ∃ n, n = l.length := ⟨_, rfl⟩
    rw [← hn] at hlen
    have HN := hide hn
    clear hn
    go_enter Try.func4, Try.ntmps4
    go_wp2_with fail
    refine (S.out.1 _).mono ?_
    rintro e u1 ⟨v0, rfl, own0, hb1⟩
    go_wp2_with fail
    refine (S.out.2 _).mono ?_
    rintro e u2 ⟨v1, rfl, own1, hb2⟩
    have sv0 := (strV.of_own own0).below hb2
    have sv1 := strV.of_own own1
    have l0 := hide own0.lt
    have l1 := hide own1.lt
    rw [← HN.out] at sv0 sv1
    have B2 := hide (hb1.trans (hb2.mono hb1.size))
    have z1 := hb1.size
    have z2 := hb2.size
    clear own0 own1 hb1 hb2
    go_wp2_with fail
    refine (eq_strs v1 v0 n _ u2 (by omega) sv1 sv0).mono ?_
    rintro e u3 ⟨rfl, hb3⟩
    have sv0 := sv0.below hb3
    have sv1 := sv1.below hb3
    have B3 := hide (B2.out.trans (hb3.mono B2.out.size))
    have z3 := hb3.size
    clear B2 hb3
    go_wp2_with fail
    refine (mark_strs v1 n 1 _ u3 (by omega) (by omega) sv1).mono ?_
    rintro e u4 ⟨rfl, mv1, hgr⟩
    have sv0 := sv0.kept hgr (fun k hk e => by
      have h1 := l0.out k hk
      have h2 := l1.out k e.symm
      omega)
    have hb4 := grown_own (B := u1.heap.size) hgr (by omega) (fun k hk => (l1.out k hk).1)
    have B4 := hide (B3.out.trans (hb4.mono z1))
    have z4 := hgr.size
    clear B3 hb4 hgr
    rename_i sv0a sv1a sv0b sv1b
    obtain ⟨q, hq⟩ : ∃ q, q = 1 + n := ⟨_, rfl⟩
    have HQ := hide hq
    rw [← hq]
    have hq0 : ¬ (q : Int) < 0 := by omega
    have hqq : (q : Int) ≤ 100 := by omega
    clear hq
    go_wp2_with fail
    refine (held_strs v1 n 1 u4 (by omega) (by omega) mv1).mono ?_
    rintro e u5 ⟨rfl, hb5⟩
    rw [← HQ.out]
    have sv0c := sv0.below hb5
    have mv1a := mv1.below hb5
    have B5 := hide (B4.out.trans (hb5.mono B4.out.size))
    clear B4 hb5 mv1 sv0
    go_wp2_with fail
    refine (S.out.2 _).mono ?_
    rintro e u6 ⟨v2, rfl, own2, hb6⟩
    have sv2 := strV.of_own own2
    rw [← HN.out] at sv2
    have sv0d := sv0c.below hb6
    have mv1b := mv1a.below hb6
    have B6 := hide (B5.out.trans (hb6.mono B5.out.size))
    clear B5 hb6 own2 sv0c mv1a
    go_wp2_with fail
    refine (eq_strs v2 v0 n _ u6 (by omega) sv2 sv0d).mono ?_
    rintro e u7 ⟨rfl, hb7⟩
    have mv1c := mv1b.below hb7
    have B7 := hide (B6.out.trans (hb7.mono B6.out.size))
    clear B6 hb7 sv2 sv0d mv1b
    go_wp2_with fail
    refine (held_strs v1 n 1 u7 (by omega) (by omega) mv1c).mono ?_
    rintro e u8 ⟨rfl, hb8⟩
    rw [← HQ.out]
    have B8 := hide (B7.out.trans (hb8.mono B7.out.size))
    clear B7 hb8 mv1c
    go_wp2_with fail
    go_ret
    exact ⟨rfl, B8.out⟩
end Go.Proofs.Ytgbbfdcfiofneaa

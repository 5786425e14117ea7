/- The walk over the law of RangeDecode. -/
import Derived.Test.YtnehnhclhokahaaRngD
import Derived.Test.YtnehnhclhokahaaLwI
import Derived.Test.YtnehnhclhokahaaLwBo
namespace Go.Proofs.Ytnehnhclhokahaa
open Go.RowKit
theorem ctx_of_row {w : World} {a : Option Addr} {len cap : Nat} {zs : List Int} (h : IsRow .i64 w a len cap zs) : ∃ l : List Int, l.length = len ∧ len ≤ maxLen ∧ CtxAt w w.heap.size (.slice a len cap) l := by
  rcases h with ⟨rfl, rfl, rfl, rfl⟩ | ⟨x, rfl, hl, hm, hz, hc, hw⟩
  · exact ⟨[], rfl, Nat.zero_le _, none, 0, rfl, Nat.le_refl _, .inl rfl⟩
  · have hlen : (zs.take len).length = len := by rw [List.length_take]; omega
    refine ⟨zs.take len, hlen, Nat.le_trans hl hm, some x, cap, by rw [hlen], by rw [hlen]; exact hl, ?_⟩
    by_cases h0 : len = 0
    · exact .inl (by rw [h0]; rfl)
    · obtain ⟨b, off, spot⟩ := x
      have hc0 := hc 0 (by omega)
      have hspot : spot = none := by simpa [Addr.add] using World.cell?_spot hc0
      subst hspot
      have hb := World.block_lt_of_cell? w _ hc0
      refine .inr ⟨b, off, rfl, by simpa [Addr.add] using hb, fun j x hx => ?_⟩
      have hj : j < len := by have := (List.getElem?_eq_some_iff.1 hx).1; omega
      rw [List.getElem?_take_of_lt hj] at hx
      have := hc j (by omega)
      have e : (⟨b, off, none⟩ : Addr).add j = ⟨b, off + j, none⟩ := by by_cases hz : j = 0 <;> simp [Addr.add, hz]
      rw [e, List.getD_eq_getElem?_getD, hx] at this
      exact this
theorem CtxAt.below {w w' : World} {B : Nat} {v : Value} {l : List Int} (h : CtxAt w B v l) (hb : Below B w w') : CtxAt w' B v l := by
  obtain ⟨a, cap, e, hc, h⟩ := h
  refine ⟨a, cap, e, hc, ?_⟩
  rcases h with h | ⟨r, o, e2, hr, hcell⟩
  · exact .inl h
  · exact .inr ⟨r, o, e2, hr, fun j x hx => (hb.cell (p := ⟨r, o + j, none⟩) hr).trans (hcell j x hx)⟩
theorem CtxAt.wide {w : World} {B C : Nat} {v : Value} {l : List Int} (h : CtxAt w B v l) (hb : B ≤ C) : CtxAt w C v l := by
  obtain ⟨a, cap, e, hc, h⟩ := h
  refine ⟨a, cap, e, hc, ?_⟩
  rcases h with h | ⟨r, o, e2, hr, hcell⟩
  · exact .inl h
  · exact .inr ⟨r, o, e2, Nat.lt_of_lt_of_le hr hb, hcell⟩
theorem decS_len (t : ByteArray) (l : List Int) : (decS t l).length ≤ l.length := by
  unfold decS
  split
  · rw [dbits_len]; simp [ctxN]
  · exact Nat.zero_le _
def boolF (l : List Bool) (j : Nat) : Bool := l.getD j false
theorem valV.bools {w : World} {base e : Nat} {v : Value} {l : List Bool} (h : w.ownsRow base e 1 v l.length (l.map Value.bool)) : valV w v l.length (fun j => .bool (boolF l j)) :=
  valV.of_own h (fun j hj => by rw [List.getElem?_map, boolF, List.getD_eq_getElem?_getD, List.getElem?_eq_getElem hj]; rfl)
set_option maxRecDepth 100000 in
set_option maxHeartbeats 800000 in
theorem fnExactRangeDecode_walk (t : ByteArray) (wt : t.size ≤ maxLen) (a1 : Option Addr) (len1 cap1 : Nat) (z1 : List Int) (w : World) (w1 : IsRow .i64 w a1 len1 cap1 z1) :
    Calls Try.prog 5 #[.string t, .slice a1 len1 cap1] w fun e w' => e = .returned (.bool true) ∧ Below w.heap.size w w' := by
  unfold maxLen at wt
  obtain ⟨l, hl, hml, hctx⟩ := ctx_of_row w1
  unfold maxLen at hml
  clear w1
  by_cases h0 : 1048576 < t.size
  · go_enter Try.func5, Try.ntmps5
    go_wp2_with fail
    go_ret
    exact ⟨rfl, Below.refl _ _⟩
  · by_cases h1 : 1048576 < len1
    · go_enter Try.func5, Try.ntmps5
      go_wp2_with fail
      go_ret
      exact ⟨rfl, Below.refl _ _⟩
    · have C0 := hide (show ∀ u, Below w.heap.size w u → CtxAt u u.heap.size (.slice a1 len1 cap1) l from fun u hu => (hctx.below hu).wide hu.size)
      have S := hide (And.intro (fun v w hb => spec_rangeDecode t v l w (by omega) (by omega) hb) (And.intro (fun v w hb => imp_rangeDecode t v l w (by omega) (by omega) hb) (fun v w hb => law_toI64 v l w (by omega) hb)))
      have hdl := decS_len t l
      generalize decS t l = D at *
      obtain ⟨n, hn⟩ : ∃ n, n = D.length := ⟨_, rfl⟩
      have HN := hide hn
      have hn20 : n ≤ 1048576 := by omega
      have hl20 := hide (show l.length ≤ 1048576 by omega)
      clear hn hdl hctx
      go_enter Try.func5, Try.ntmps5
      go_wp2_with fail
      refine (S.out.2.2 _ _ (C0.out w (Below.refl _ _))).mono ?_
      rintro e u1 ⟨x0, rfl, vx0, _, hb1⟩
      have cx0 := vx0.ctx
      go_wp2_with fail
      refine (S.out.1 _ _ cx0).mono ?_
      rintro e u2 ⟨v0, rfl, own0, hb2⟩
      have B2 := hide (hb1.trans (hb2.mono hb1.size))
      have sv0 := hide (valV.bools own0)
      have l0 := hide (show within v0 u1.heap.size u2.heap.size from own0.lt)
      clear vx0 cx0 own0 hb1 hb2
      go_wp2_with fail
      refine (S.out.2.2 _ _ (C0.out u2 B2.out)).mono ?_
      rintro e u3 ⟨x1, rfl, vx1, fx1, hb3⟩
      have B3 := hide (B2.out.trans (hb3.mono B2.out.size))
      have B2s := hide B2.out.size
      have sv0a := hide (sv0.out.below hb3)
      have cx1 := vx1.ctx
      have z3 := hb3.size
      clear B2 sv0 hb3
      go_wp2_with fail
      refine (S.out.2.1 _ _ cx1).mono ?_
      rintro e u4 ⟨v1, rfl, own1, hb4⟩
      have sv1 := hide (valV.bools own1)
      have l1 := hide (show within v1 u3.heap.size u4.heap.size from own1.lt)
      have B4 := hide (B3.out.trans (hb4.mono B3.out.size))
      have sv0b := hide (sv0a.out.below hb4)
      have vx1a := hide (vx1.below hb4)
      have z4 := hb4.size
      clear B3 sv0a cx1 vx1 hb4 own1
      rw [← HN.out] at sv1 sv0b
      go_wp2_with fail
      refine (law_eqBool v1 v0 n _ u4 (by omega) sv1.out sv0b.out).mono ?_
      rintro e u5 ⟨rfl, hb5⟩
      have B5 := hide (B4.out.trans (hb5.mono B4.out.size))
      have sv0c := hide (sv0b.out.below hb5)
      have sv1a := hide (sv1.out.below hb5)
      have vx1b := hide (vx1a.out.below hb5)
      have z5 := hb5.size
      clear B4 sv0b sv1 vx1a hb5
      go_wp2_with fail
      refine (S.out.2.2 _ _ (C0.out u5 B5.out)).mono ?_
      rintro e u6 ⟨x2, rfl, vx2, _, hb6⟩
      have B6 := hide (B5.out.trans (hb6.mono B5.out.size))
      have sv0d := hide (sv0c.out.below hb6)
      have sv1b := hide (sv1a.out.below hb6)
      have vx1c := hide (vx1b.out.below hb6)
      have z6 := hb6.size
      clear B5 sv0c sv1a vx1b hb6
      go_wp2_with fail
      refine (law_eqI64 x1 x2 l.length (fun j => l.getD j 0) u6 hl20.out vx1c.out vx2).mono ?_
      rintro e u7 ⟨rfl, hb7⟩
      have B7 := hide (B6.out.trans (hb7.mono B6.out.size))
      have sv0e := hide (sv0d.out.below hb7)
      have sv1c := hide (sv1b.out.below hb7)
      have vx1d := hide (vx1c.out.below hb7)
      have z7 := hb7.size
      clear B6 sv0d sv1b vx1c hb7 vx2
      go_wp2_with fail
      refine (law_markI64 x1 l.length 1 _ u7 hl20.out (by omega) vx1d.out).mono ?_
      rintro e u8 ⟨rfl, _, hgr⟩
      have sv0f := hide (sv0e.out.kept hgr (l0.out.apart fx1 (.inl (Nat.le_refl _))))
      have sv1d := hide (sv1c.out.kept hgr (l1.out.apart fx1 (.inr (Nat.le_refl _))))
      have hb8 := grown_own (B := u2.heap.size) hgr (by omega) (fun k hk => (fx1 k hk).1)
      have B8 := hide (B7.out.trans (hb8.mono (by have := B2s.out; omega)))
      have z8 := hgr.size
      obtain ⟨q, hq⟩ : ∃ q, q = 1 + l.length := ⟨_, rfl⟩
      rw [← hq]
      have hq0 : ¬ (q : Int) < 0 := by omega
      have hq0d : decide ((q : Int) < 0) = false := decide_eq_false hq0
      clear B7 sv0e sv1c vx1d hb8 hgr hq
      go_wp2_with fail
      refine (law_eqBool v1 v0 n _ u8 (by omega) sv1d.out sv0f.out).mono ?_
      rintro e u9 ⟨rfl, hb9⟩
      have B9 := hide (B8.out.trans (hb9.mono B8.out.size))
      have sv0g := hide (sv0f.out.below hb9)
      have sv1e := hide (sv1d.out.below hb9)
      have z9 := hb9.size
      clear B8 sv0f sv1d hb9
      go_wp2_with fail
      refine (law_markBool v1 n 1 _ u9 (by omega) (by omega) sv1e.out).mono ?_
      rintro e ua ⟨rfl, mv1, hgr⟩
      have sv0h := hide (sv0g.out.kept hgr (l0.out.apart l1.out (.inl (by omega))))
      have hba := grown_own (B := u3.heap.size) hgr (by omega) (fun k hk => (l1.out k hk).1)
      have Ba := hide (B9.out.trans (hba.mono (by have := B2s.out; omega)))
      have za := hgr.size
      obtain ⟨q2, hq2⟩ : ∃ q, q = 1 + n := ⟨_, rfl⟩
      have HQ2 := hide hq2
      rw [← hq2]
      have hq20 : ¬ (q2 : Int) < 0 := by omega
      have MV := hide mv1
      clear B9 sv0g sv1e hba hgr mv1 hq2
      go_wp2_with fail
      refine (law_heldBool v1 n 1 ua (by omega) (by omega) MV.out).mono ?_
      rintro e ub ⟨rfl, hbb⟩
      rw [← HQ2.out]
      have Bb := hide (Ba.out.trans (hbb.mono Ba.out.size))
      have sv0i := hide (sv0h.out.below hbb)
      have MVb := hide (MV.out.below hbb)
      clear Ba sv0h MV hbb
      go_wp2_with fail
      refine (S.out.2.2 _ _ (C0.out ub Bb.out)).mono ?_
      rintro e uc ⟨x3, rfl, vx3, _, hbc⟩
      have Bc := hide (Bb.out.trans (hbc.mono Bb.out.size))
      have sv0j := hide (sv0i.out.below hbc)
      have MVc := hide (MVb.out.below hbc)
      have cx3 := vx3.ctx
      clear Bb sv0i MVb hbc
      go_wp2_with fail
      refine (S.out.2.1 _ _ cx3).mono ?_
      rintro e ud ⟨v2, rfl, own2, hbd⟩
      have sv2 := hide (valV.bools own2)
      rw [← HN.out] at sv2
      have Bd := hide (Bc.out.trans (hbd.mono Bc.out.size))
      have sv0k := hide (sv0j.out.below hbd)
      have MVd := hide (MVc.out.below hbd)
      clear Bc sv0j MVc hbd own2 cx3 vx3
      go_wp2_with fail
      refine (law_eqBool v2 v0 n _ ud (by omega) sv2.out sv0k.out).mono ?_
      rintro e ue ⟨rfl, hbe⟩
      have Be := hide (Bd.out.trans (hbe.mono Bd.out.size))
      have MVe := hide (MVd.out.below hbe)
      clear Bd sv0k MVd hbe sv2
      go_wp2_with fail
      refine (law_heldBool v1 n 1 ue (by omega) (by omega) MVe.out).mono ?_
      rintro e uf ⟨rfl, hbf⟩
      rw [← HQ2.out]
      have Bf := hide (Be.out.trans (hbf.mono Be.out.size))
      clear Be MVe hbf
      go_wp2_with fail
      go_ret
      exact ⟨rfl, Bf.out⟩
end Go.Proofs.Ytnehnhclhokahaa

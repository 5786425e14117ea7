/- Put together: RangeD, PackR, OwnConv. -/
import Derived.Test.YtconcnndghmdfaaGreatDoorSf15
import Derived.Handy
namespace Go.Proofs.YtconcnndghmdfaaGreatDoor
open Go.RowKit
structure Two (g gc : Nat) (w w' : World) : Prop where
 os : w'.os = w.os
 tape : w'.tape = w.tape
 output : w'.output = w.output
 size : w.heap.size ≤ w'.heap.size
 block : ∀ k, k < w.heap.size → k ≠ g → k ≠ gc → w'.heap[k]? = w.heap[k]?
theorem Two.refl (g gc : Nat) (w : World) : Two g gc w w := ⟨rfl, rfl, rfl, Nat.le_refl _, fun _ _ _ _ => rfl⟩
theorem Two.grown {g gc : Nat} {w w1 w2 : World} (h : Two g gc w w1) (h2 : w1.grownBy w2 (some g)) : Two g gc w w2 :=
 ⟨h2.os.trans h.os, h2.tape.trans h.tape, h2.output.trans h.output, Nat.le_trans h.size h2.size, fun k hk h1 h3 => (h2.block k (Nat.lt_of_lt_of_le hk h.size) (fun e => h1 (Option.some.inj e))).trans (h.block k hk h1 h3)⟩
theorem Two.setg {g gc : Nat} {w w1 : World} (h : Two g gc w w1) (i : Nat) (v : Value) : Two g gc w (w1.setCell ⟨g, i, none⟩ v) := h.grown (grownBy_set ⟨rfl, rfl, rfl, Nat.le_refl _, fun _ _ _ => rfl⟩ v)
theorem Two.setc {g gc : Nat} {w w1 : World} (h : Two g gc w w1) (i : Nat) (v : Value) : Two g gc w (w1.setCell ⟨gc, i, none⟩ v) :=
 ⟨h.os, h.tape, h.output, by simpa [World.setCell] using h.size, fun k hk h1 h3 => (heap_setCell_other w1 ⟨gc, i, none⟩ k v h3).trans (h.block k hk h1 h3)⟩
theorem Two.below {g gc B : Nat} {w w' : World} (h : Two g gc w w') (h1 : B ≤ g) (h2 : B ≤ gc) (h3 : B ≤ w.heap.size) : Below B w w' := ⟨h.os, h.tape, h.output, h.size, fun k hk => h.block k (by omega) (by omega) (by omega)⟩
theorem Two.own {g gc base e size n : Nat} {w w' : World} {v : Value} {xs : List Value} (h : Two g gc w w') (ho : w.ownsRow base e size v n xs) (h1 : v.ownBlock ≠ some g) (h2 : v.ownBlock ≠ some gc) : w'.ownsRow base e size v n xs := by
 obtain ⟨a, hb | ⟨k, cap, cur, rfl, c1, c2, c3⟩⟩ := ho
 · exact ⟨a, .inl hb⟩
 · exact ⟨a, .inr ⟨k, cap, cur, rfl, c1, (h.block k (Array.getElem?_eq_some_iff.1 c2).1 (fun e => h1 (by simp [Value.ownBlock, e])) (fun e => h2 (by simp [Value.ownBlock, e]))).trans c2, c3⟩⟩
def size3 (w : World) (g : Nat) : Nat := match w.cell? ⟨g, 3, none⟩ with
 | some (.int _ n) => n.toNat
 | _ => 0
theorem size3_of {w : World} {g x : Nat} (h : w.cell? ⟨g, 3, none⟩ = some (.int .u64 (x : Nat))) : size3 w g = x := by unfold size3; rw [h]; rfl
set_option maxRecDepth 100000 in
set_option maxHeartbeats 1600000 in
theorem spec_dbit (g gc c x : Nat) (t : ByteArray) (s : RC) (w : World) (hok : RcOk s) (hn : s.n ≤ 90000) (hc : c < 1600) (hx : x < 18446744073709551616) (hts : t.size ≤ 9223372036854775807) (hdec : Dec w g gc t s x) (hne : g ≠ gc) :
 Calls Tryz.prog 135 #[.pointer (some ⟨g, 0, none⟩), .int .i64 (c : Int)] w fun e w' => e = .returned (.bool (dbit s x c)) ∧ Dec w' g gc t (step s c (dbit s x c)) (dx (tbN t) s x c) ∧ Two g gc w w' := by
 obtain ⟨P, hP⟩ : ∃ P, P = part1 s c (dbit s x c) := ⟨_, rfl⟩
 have hpo := part1_ok s c (dbit s x c) hok
 rw [← hP] at hpo
 have HNOK := hide (norm_ok P hpo.1 hpo.2.1 hpo.2.2.1 (by rw [hpo.2.2.2.2]; exact hpo.2.2.2.1))
 have HPN := hide (show P.n ≤ 100000 by rw [hpo.2.2.2.2]; omega)
 have HSN := hide (show P.n = s.n from hpo.2.2.2.2)
 obtain ⟨x1, hx1⟩ : ∃ y, y = dx1 s x c := ⟨_, rfl⟩
 have HX1E := hide hx1
 have HX1 := hide (show x1 < 18446744073709551616 by rw [hx1, dx1]; split <;> omega)
 obtain ⟨b1, b2⟩ := bound_in s c hok
 have hlo := hok.lo
 have hhi := hok.hi
 have hch := hok.ch c
 obtain ⟨hr, hcr⟩ := hdec
 obtain ⟨z, hz⟩ : ∃ z, z = s.size := ⟨_, rfl⟩
 obtain ⟨p, hp⟩ : ∃ p, p = s.ch c := ⟨_, rfl⟩
 obtain ⟨q, hq⟩ : ∃ q, q = z / 2048 := ⟨_, rfl⟩
 obtain ⟨b, hb⟩ : ∃ b, b = bound s c := ⟨_, rfl⟩
 have hbq : q * p = b := by rw [hq, hp, hz, hb]; rfl
 rw [← hb, ← hz] at b2
 rw [← hb] at b1
 rw [← hz] at hlo hhi hr
 rw [← hp] at hch
 obtain ⟨_, _, c2, c3, c4⟩ := dec_cells hr
 have cc : w.cell? ⟨gc, c, none⟩ = some (.int .u64 (p : Nat)) := by rw [hcr.cell (i := c) hc, u64V, hp]
 have fc := hcr.frozen c
 have f2 := hr.frozen 2
 have f3 := hr.frozen 3
 have hc' : (c : Int) < 1600 := by omega
 have k1 : (z : Int) / 2048 = (q : Int) := by omega
 have k2 : IntKind.u64.wrap ((q : Int) * (p : Int)) = (b : Int) := by
  have e : (q : Int) * (p : Int) = (b : Int) := by rw [← hbq]; simp
  rw [e, IntKind.wrap_u64]; omega
 by_cases hone : b ≤ x
 · have hd : decide ((b : Int) ≤ (x : Int)) = true := decide_eq_true (by omega)
   have hone' : (b : Int) ≤ (x : Int) := by omega
   have HBIT := hide (show dbit s x c = true by rw [dbit, ← hb]; exact decide_eq_true hone)
   obtain ⟨pe, hpe⟩ : ∃ x, x = p / 32 := ⟨_, rfl⟩
   obtain ⟨p2, hp2⟩ : ∃ x, x = p - p / 32 := ⟨_, rfl⟩
   obtain ⟨z1, hz1'⟩ : ∃ x, x = z - b := ⟨_, rfl⟩
   have hxx : x1 = x - b := by rw [hx1, dx1, ← hb, if_pos hone]
   have k3 : (x : Int) - (b : Int) = (x1 : Int) := by omega
   have k4 : (z : Int) - (b : Int) = (z1 : Int) := by omega
   have k5 : (p : Int) / 32 = (pe : Int) := by omega
   have k6 : (p : Int) - (pe : Int) = (p2 : Int) := by omega
   have HPS := hide (show P = part1 s c true by rw [hP, HBIT.out])
   have HPP := hide (show P = ⟨z1, setCh s.ch c p2, s.low + b, s.n⟩ by rw [HPS.out, hp2, hz1', hz, hb, hp]; rfl)
   have HR := hide (And.intro hr hcr)
   clear hP hz hp hq hb hbq hp2 hpe hr hcr hpo hz1' hx1 hxx
   go_enter Tryz.func135, Tryz.ntmps135
   go_wp2_with fail
   obtain ⟨hr, hcr⟩ := HR.out
   have HDEC := hide (show Dec (((w.setCell ⟨g, 2, none⟩ (.int .u64 (x1 : Int))).setCell ⟨g, 3, none⟩ (.int .u64 (z1 : Int))).setCell ⟨gc, c, none⟩ (.int .u64 (p2 : Int))) g gc t P x1 by
    rw [HPP.out]
    exact ⟨((dec_set ((dec_set hr).2.1 x1)).2.2 z1).setOther hne _, set_u64 ((hcr.setOther (fun e => hne e.symm) _).setOther (fun e => hne e.symm) _)⟩)
   have HBEL := hide ((((Two.refl g gc w).setg 2 (.int .u64 (x1 : Int))).setg 3 (.int .u64 (z1 : Int))).setc c (.int .u64 (p2 : Int)))
   generalize ((w.setCell ⟨g, 2, none⟩ (.int .u64 (x1 : Int))).setCell ⟨g, 3, none⟩ (.int .u64 (z1 : Int))).setCell ⟨gc, c, none⟩ (.int .u64 (p2 : Int)) = W1 at *
   clear HR hr hcr c2 c3 c4 cc fc f2 f3 k1 k2 k3 k4 k5 k6 HPP
   go_loopw [72] (fun _ wx => ∃ (u : RC) (y : Nat), Hid ((u = P ∧ y = x1) ∨ (u = norm P ∧ P.size < 16777216 ∧ y = (256 * x1 + tbN t (s.n + 4)) % 18446744073709551616)) ∧ Dec wx g gc t u y ∧ Hid (Two g gc w wx)) (fun _ wx => if size3 wx g < 16777216 then 1 else 0)
   case atStart => exact ⟨P, x1, .inl ⟨rfl, rfl⟩, HDEC.out, HBEL⟩
   case round =>
    clear HDEC HBEL
    obtain ⟨u, y, hu, ⟨hr, hc⟩, hbel⟩ := hrel
    obtain ⟨_, _, _, c3, _⟩ := dec_cells hr
    have hsw := hide (size3_of c3)
    by_cases hsz : u.size < 16777216
    · have huP : u = P ∧ y = x1 := by
       rcases hu.out with h | ⟨h, _⟩
       · exact h
       · rw [h] at hsz; exact absurd hsz (by have := HNOK.out.lo; omega)
      obtain ⟨rfl, rfl⟩ := huP
      obtain ⟨z, hz⟩ : ∃ z, z = u.size := ⟨_, rfl⟩
      rw [← hz] at hr c3 hsw hsz
      have hsz' : (z : Int) < 16777216 := by omega
      obtain ⟨z2, hz2⟩ : ∃ x, x = 256 * z := ⟨_, rfl⟩
      have k1 : (z : Int) * 256 = (z2 : Int) := by omega
      have f3 := hr.frozen 3
      have r1 := (dec_set hr).2.2 z2
      have hcc := hc.setOther (a := ⟨g, 3, none⟩) (fun e => hne e.symm) (.int .u64 (z2 : Int))
      have hbb := hide (hbel.out.setg 3 (.int .u64 (z2 : Int)))
      have SN := hide (spec_next g gc (u.n + 4) y z2 t _ (by have := HPN.out; omega) hts HX1.out r1)
      have HZ := hide (And.intro hz hz2)
      have HCC := hide hcc
      clear hz hz2 r1 hcc hr hc hbel hu
      go_wp2_with fail
      refine SN.out.mono ?_
      rintro e w2 ⟨rfl, hr2, hg2⟩
      have s2 := size3_of (dec_cells hr2).2.2.2.1
      have hrr := hide (show w2.rowIs g 216 5 (decV t ((norm u).n + 4) ((256 * y + tbN t (s.n + 4)) % 18446744073709551616) (norm u).size gc) ∧ w2.rowIs gc 58 1600 (u64V (norm u).ch) by
       have hZ := HZ.out
       rw [norm, if_pos (by rw [← hZ.1]; exact hsz)]
       show w2.rowIs g 216 5 (decV t (u.n + 1 + 4) ((256 * y + tbN t (s.n + 4)) % 18446744073709551616) (256 * u.size) gc) ∧ w2.rowIs gc 58 1600 (u64V u.ch)
       refine ⟨?_, HCC.out.of_block (hg2.block gc HCC.out.lt (fun e => hne (by simpa using e.symm)))⟩
       rw [← hZ.1, ← hZ.2, ← HSN.out, show u.n + 1 + 4 = u.n + 4 + 1 by omega]
       exact hr2)
      have hb2 := hide (hbb.out.grown hg2)
      clear SN hr2 hg2 HCC hbb c3 f3 k1
      go_wp2_with fail
      refine ⟨⟨norm u, _, .inr ⟨rfl, by rw [← HZ.out.1]; exact hsz, rfl⟩, hrr.out, hb2⟩, ?_⟩
      rw [s2, hsw.out, if_pos hsz, if_neg (by have hZ := HZ.out; have h := HNOK.out.lo; rw [norm, if_pos (by rw [← hZ.1]; exact hsz)] at h; have h' : 16777216 ≤ 256 * u.size := h; rw [← hZ.1] at h'; omega)]
      omega
    · have hsz' : ¬ (u.size : Int) < 16777216 := by omega
      have hfin := hide (show Dec wr g gc t (norm P) (if P.size < 16777216 then (256 * x1 + tbN t (s.n + 4)) % 18446744073709551616 else x1) by
       rcases hu.out with ⟨h1, h2⟩ | ⟨h1, h2, h3⟩
       · rw [norm, if_neg (by rw [← h1]; exact hsz), if_neg (by rw [← h1]; exact hsz), ← h1, ← h2]; exact ⟨hr, hc⟩
       · rw [if_pos h2, ← h1, ← h3]; exact ⟨hr, hc⟩)
      obtain ⟨z, hz⟩ : ∃ z, z = u.size := ⟨_, rfl⟩
      rw [← hz] at c3 hsz'
      clear hr hc hu hsz hsw hz
      go_wp2_with fail
      go_ret
      exact ⟨by rw [HBIT.out]; rfl, by rw [HBIT.out]; show Dec wr g gc t (norm (part1 s c _)) (dx (tbN t) s x c); rw [dx, HBIT.out, ← HPS.out, ← HX1E.out]; exact hfin.out, hbel.out⟩
 · have hd : decide ((b : Int) ≤ (x : Int)) = false := decide_eq_false (by omega)
   have hone' : ¬ (b : Int) ≤ (x : Int) := by omega
   have HBIT := hide (show dbit s x c = false by rw [dbit, ← hb]; exact decide_eq_false hone)
   obtain ⟨p2, hp2⟩ : ∃ x, x = p + (2048 - p) / 32 := ⟨_, rfl⟩
   obtain ⟨pd, hpd⟩ : ∃ x, x = 2048 - p := ⟨_, rfl⟩
   obtain ⟨pe, hpe⟩ : ∃ x, x = (2048 - p) / 32 := ⟨_, rfl⟩
   have hxx : x1 = x := by rw [hx1, dx1, ← hb, if_neg hone]
   have HXX := hide hxx
   have k3 : 2048 - (p : Int) = (pd : Int) := by omega
   have k4 : (pd : Int) / 32 = (pe : Int) := by omega
   have k5 : (p : Int) + (pe : Int) = (p2 : Int) := by omega
   have HPS := hide (show P = part1 s c false by rw [hP, HBIT.out])
   have HPP := hide (show P = ⟨b, setCh s.ch c p2, s.low, s.n⟩ by rw [HPS.out, hp2, hb, hp]; rfl)
   have HR := hide (And.intro hr hcr)
   clear hP hz hp hq hb hbq hp2 hpd hpe hr hcr hpo hx1 hxx
   go_enter Tryz.func135, Tryz.ntmps135
   go_wp2_with fail
   obtain ⟨hr, hcr⟩ := HR.out
   have HDEC := hide (show Dec ((w.setCell ⟨g, 3, none⟩ (.int .u64 (b : Int))).setCell ⟨gc, c, none⟩ (.int .u64 (p2 : Int))) g gc t P x1 by
    rw [HPP.out, HXX.out]
    exact ⟨((dec_set hr).2.2 b).setOther hne _, set_u64 (hcr.setOther (fun e => hne e.symm) _)⟩)
   have HBEL := hide (((Two.refl g gc w).setg 3 (.int .u64 (b : Int))).setc c (.int .u64 (p2 : Int)))
   generalize (w.setCell ⟨g, 3, none⟩ (.int .u64 (b : Int))).setCell ⟨gc, c, none⟩ (.int .u64 (p2 : Int)) = W1 at *
   clear HR hr hcr c2 c3 c4 cc fc f2 f3 k1 k2 k3 k4 k5 HPP HXX
   go_loopw [72] (fun _ wx => ∃ (u : RC) (y : Nat), Hid ((u = P ∧ y = x1) ∨ (u = norm P ∧ P.size < 16777216 ∧ y = (256 * x1 + tbN t (s.n + 4)) % 18446744073709551616)) ∧ Dec wx g gc t u y ∧ Hid (Two g gc w wx)) (fun _ wx => if size3 wx g < 16777216 then 1 else 0)
   case atStart => exact ⟨P, x1, .inl ⟨rfl, rfl⟩, HDEC.out, HBEL⟩
   case round =>
    clear HDEC HBEL
    obtain ⟨u, y, hu, ⟨hr, hc⟩, hbel⟩ := hrel
    obtain ⟨_, _, _, c3, _⟩ := dec_cells hr
    have hsw := hide (size3_of c3)
    by_cases hsz : u.size < 16777216
    · have huP : u = P ∧ y = x1 := by
       rcases hu.out with h | ⟨h, _⟩
       · exact h
       · rw [h] at hsz; exact absurd hsz (by have := HNOK.out.lo; omega)
      obtain ⟨rfl, rfl⟩ := huP
      obtain ⟨z, hz⟩ : ∃ z, z = u.size := ⟨_, rfl⟩
      rw [← hz] at hr c3 hsw hsz
      have hsz' : (z : Int) < 16777216 := by omega
      obtain ⟨z2, hz2⟩ : ∃ x, x = 256 * z := ⟨_, rfl⟩
      have k1 : (z : Int) * 256 = (z2 : Int) := by omega
      have f3 := hr.frozen 3
      have r1 := (dec_set hr).2.2 z2
      have hcc := hc.setOther (a := ⟨g, 3, none⟩) (fun e => hne e.symm) (.int .u64 (z2 : Int))
      have hbb := hide (hbel.out.setg 3 (.int .u64 (z2 : Int)))
      have SN := hide (spec_next g gc (u.n + 4) y z2 t _ (by have := HPN.out; omega) hts HX1.out r1)
      have HZ := hide (And.intro hz hz2)
      have HCC := hide hcc
      clear hz hz2 r1 hcc hr hc hbel hu
      go_wp2_with fail
      refine SN.out.mono ?_
      rintro e w2 ⟨rfl, hr2, hg2⟩
      have s2 := size3_of (dec_cells hr2).2.2.2.1
      have hrr := hide (show w2.rowIs g 216 5 (decV t ((norm u).n + 4) ((256 * y + tbN t (s.n + 4)) % 18446744073709551616) (norm u).size gc) ∧ w2.rowIs gc 58 1600 (u64V (norm u).ch) by
       have hZ := HZ.out
       rw [norm, if_pos (by rw [← hZ.1]; exact hsz)]
       show w2.rowIs g 216 5 (decV t (u.n + 1 + 4) ((256 * y + tbN t (s.n + 4)) % 18446744073709551616) (256 * u.size) gc) ∧ w2.rowIs gc 58 1600 (u64V u.ch)
       refine ⟨?_, HCC.out.of_block (hg2.block gc HCC.out.lt (fun e => hne (by simpa using e.symm)))⟩
       rw [← hZ.1, ← hZ.2, ← HSN.out, show u.n + 1 + 4 = u.n + 4 + 1 by omega]
       exact hr2)
      have hb2 := hide (hbb.out.grown hg2)
      clear SN hr2 hg2 HCC hbb c3 f3 k1
      go_wp2_with fail
      refine ⟨⟨norm u, _, .inr ⟨rfl, by rw [← HZ.out.1]; exact hsz, rfl⟩, hrr.out, hb2⟩, ?_⟩
      rw [s2, hsw.out, if_pos hsz, if_neg (by have hZ := HZ.out; have h := HNOK.out.lo; rw [norm, if_pos (by rw [← hZ.1]; exact hsz)] at h; have h' : 16777216 ≤ 256 * u.size := h; rw [← hZ.1] at h'; omega)]
      omega
    · have hsz' : ¬ (u.size : Int) < 16777216 := by omega
      have hfin := hide (show Dec wr g gc t (norm P) (if P.size < 16777216 then (256 * x1 + tbN t (s.n + 4)) % 18446744073709551616 else x1) by
       rcases hu.out with ⟨h1, h2⟩ | ⟨h1, h2, h3⟩
       · rw [norm, if_neg (by rw [← h1]; exact hsz), if_neg (by rw [← h1]; exact hsz), ← h1, ← h2]; exact ⟨hr, hc⟩
       · rw [if_pos h2, ← h1, ← h3]; exact ⟨hr, hc⟩)
      obtain ⟨z, hz⟩ : ∃ z, z = u.size := ⟨_, rfl⟩
      rw [← hz] at c3 hsz'
      clear hr hc hu hsz hsw hz
      go_wp2_with fail
      go_ret
      exact ⟨by rw [HBIT.out]; rfl, by rw [HBIT.out]; show Dec wr g gc t (norm (part1 s c _)) (dx (tbN t) s x c); rw [dx, HBIT.out, ← HPS.out, ← HX1E.out]; exact hfin.out, hbel.out⟩
structure DecOk (st : RC × Nat) (m : Nat) : Prop where
 ok : RcOk st.1
 x : st.2 < 18446744073709551616
 n : st.1.n ≤ m
theorem DecOk.next (tb : Nat → Nat) (st : RC × Nat) (c m : Nat) (h : DecOk st m) : DecOk (dnext tb st c) (m + 1) := by
 refine ⟨step_ok _ _ _ h.ok, ?_, ?_⟩
 · show dx tb st.1 st.2 c < _
   have := h.x
   unfold dx
   split
   · exact Nat.mod_lt _ (by decide)
   · unfold dx1; split <;> omega
 · have h2 : (step st.1 c (dbit st.1 st.2 c)).n ≤ st.1.n + 1 := by have := norm_n_le (part1 st.1 c (dbit st.1 st.2 c)); rw [part1_n] at this; exact this
   have := h.n
   show (step st.1 c (dbit st.1 st.2 c)).n ≤ m + 1
   omega
theorem readG_ok (tb : Nat → Nat) (base : Nat) : ∀ k st node m, DecOk st m → DecOk (readG tb base k st node).1 (m + k)
 | 0, _, _, _, h => h
 | k + 1, st, node, m, h => by
   have := readG_ok tb base k (dnext tb st (base + node)) (2 * node + bN (dbit st.1 st.2 (base + node))) (m + 1) (DecOk.next tb st _ m h)
   rw [show m + 1 + k = m + (k + 1) by omega] at this
   exact this
theorem Two.trans {g gc : Nat} {w w1 w2 : World} (h : Two g gc w w1) (h2 : Two g gc w1 w2) : Two g gc w w2 :=
 ⟨h2.os.trans h.os, h2.tape.trans h.tape, h2.output.trans h.output, Nat.le_trans h.size h2.size, fun k hk h1 h3 => (h2.block k (Nat.lt_of_lt_of_le hk h.size) h1 h3).trans (h.block k hk h1 h3)⟩
set_option maxRecDepth 100000 in
set_option maxHeartbeats 800000 in
theorem spec_read (g gc many base m P2 : Nat) (t : ByteArray) (st : RC × Nat) (w : World) (hP : P2 = 2 ^ many) (hm : many ≤ 10) (hb : base ≤ 400) (hok : DecOk st m) (hmn : m ≤ 80000) (hts : t.size ≤ 9223372036854775807) (hdec : Dec w g gc t st.1 st.2) (hne : g ≠ gc) :
 Calls Tryz.prog 136 #[.pointer (some ⟨g, 0, none⟩), .int .i64 (many : Int), .int .i64 (base : Int)] w fun e w' => e = .returned (.int .i64 (((readG (tbN t) base many st 1).2 - P2 : Nat) : Int)) ∧ Dec w' g gc t (readG (tbN t) base many st 1).1.1 (readG (tbN t) base many st 1).1.2 ∧ Two g gc w w' := by
 have hP1024 : P2 ≤ 1024 := by rw [hP]; exact Nat.le_trans (Nat.pow_le_pow_right (by omega) hm) (by decide)
 have hn1 := readG_node (tbN t) base many st 1
 rw [← hP] at hn1
 obtain ⟨R, hR⟩ : ∃ R, R = readG (tbN t) base many st 1 := ⟨_, rfl⟩
 rw [← hR] at hn1 ⊢
 have HR := hide hR
 have HD := hide hdec
 have HPP := hide hP
 clear hR hdec hP
 go_enter Tryz.func136, Tryz.ntmps136
 go_wp2_with fail
 go_loopw [7, 8] (fun nd i wx => ∃ (k node : Nat) (s : RC × Nat), k ≤ many ∧ node < 2 ^ (k + 1) ∧ i = .int .i64 (k : Int) ∧ nd = .int .i64 (node : Int) ∧ Hid (readG (tbN t) base (many - k) s node = R) ∧ Hid (DecOk s (m + k)) ∧ Hid (Dec wx g gc t s.1 s.2) ∧ Hid (Two g gc w wx)) (fun _ i _ => many - (intOf i).toNat)
 case atStart => exact ⟨0, 1, st, Nat.zero_le _, by decide, rfl, rfl, HR.out.symm, hok, HD, Two.refl _ _ _⟩
 case round =>
  clear HD
  obtain ⟨k, node, s, hk, hnd, rfl, rfl, hre, hso, hd, htw⟩ := hrel
  have hnode : node < 2048 := Nat.lt_of_lt_of_le hnd (Nat.le_trans (Nat.pow_le_pow_right (by omega) (show k + 1 ≤ 11 by omega)) (by decide))
  by_cases hlt : k < many
  · have hlt' : (k : Int) < (many : Int) := by omega
    have hnode2 : node < 1024 := Nat.lt_of_lt_of_le hnd (Nat.le_trans (Nat.pow_le_pow_right (by omega) (show k + 1 ≤ 10 by omega)) (by decide))
    obtain ⟨c, hc⟩ : ∃ c, c = base + node := ⟨_, rfl⟩
    have s1 : (base : Int) + (node : Int) = (c : Int) := by omega
    have SB := hide (spec_dbit g gc c s.2 t s.1 wr hso.out.ok (by have := hso.out.n; omega) (by omega) hso.out.x hts hd.out hne)
    obtain ⟨bit, hbit⟩ : ∃ b, b = dbit s.1 s.2 c := ⟨_, rfl⟩
    have HRE := hide (show readG (tbN t) base (many - (k + 1)) (dnext (tbN t) s c) (2 * node + bN bit) = R by
     rw [← hre.out, show many - k = (many - (k + 1)) + 1 by omega, hbit, hc]; rfl)
    have HSO := hide (DecOk.next (tbN t) s c (m + k) hso.out)
    have HND := hide (show 2 * node + bN bit < 2 ^ (k + 1 + 1) by
     have := bN_le bit
     rw [Nat.pow_succ]; omega)
    rw [← hbit] at SB
    have HDE := hide (show dnext (tbN t) s c = (step s.1 c bit, dx (tbN t) s.1 s.2 c) by unfold dnext; rw [← hbit])
    have hcb : (c : Int) ≤ 2000 := by omega
    have hnb : (node : Int) ≤ 1024 := by omega
    clear hbit hc hre hso hd hnd
    go_wp2_with fail
    refine SB.out.mono ?_
    rintro e w2 ⟨rfl, hd2, ht2⟩
    have HD2 := hide (show Dec w2 g gc t (dnext (tbN t) s c).1 (dnext (tbN t) s c).2 by rw [HDE.out]; exact hd2)
    have HT2 := hide (htw.out.trans ht2)
    clear hd2 ht2 htw SB HDE
    cases bit with
    | true =>
      go_wp2_with fail
      go_roundw
      case rel => exact ⟨k + 1, 2 * node + 1, dnext (tbN t) s c, by omega, HND.out, by go_num, congrArg _ (by omega), HRE, HSO, HD2, HT2⟩
      case measure => simp [intOf]; omega
    | false =>
      go_wp2_with fail
      go_roundw
      case rel => exact ⟨k + 1, 2 * node, dnext (tbN t) s c, by omega, HND.out, by go_num, congrArg _ (by omega), HRE, HSO, HD2, HT2⟩
      case measure => simp [intOf]; omega
  · have hlt' : ¬ (k : Int) < (many : Int) := by omega
    have hkm : k = many := by omega
    have e := hre.out
    rw [hkm, Nat.sub_self] at e
    have e2 : R = (s, node) := e.symm
    have HD2 := hide (show Dec wr g gc t R.1.1 R.1.2 by rw [e2]; exact hd.out)
    have hn2 : R.2 = node := by rw [e2]
    rw [hn2] at hn1
    have HN2 := hide hn2
    clear e e2 hre hso hd hnd hn2
    have e1 : (2 : Int) ^ many = (P2 : Int) := by rw [HPP.out]; simp
    obtain ⟨d, hd⟩ : ∃ d, d = node - P2 := ⟨_, rfl⟩
    have e3 : (node : Int) - (P2 : Int) = (d : Int) := by omega
    have hdb : (d : Int) ≤ 2048 := by omega
    have hpb : (P2 : Int) ≤ 1024 := by omega
    have hnb : (node : Int) ≤ 2048 := by omega
    have HDD := hide hd
    clear hd hkm
    go_wp2_with fail
    go_ret
    exact ⟨by rw [HN2.out, ← HDD.out]; rfl, HD2.out, htw.out⟩
theorem own_conv {P : Program} {w : World} {base e src dst : Nat} {v : Value} {l : List UInt8} (h : w.ownsRow base e 1 v l.length (l.map byteV)) (hs : P.underlying src = some (.slice e)) (he : P.underlying e = some (.int .u8)) (hd : P.underlying dst = some .string) :
 (convert src dst v).run P w = .ok (.string ⟨l.toArray⟩) w := by
 by_cases hl : l = []
 · subst hl
   obtain ⟨_, ⟨rfl, _⟩ | ⟨g, cap, cur, rfl, _⟩⟩ := h
   · have h1 := run_convert_bytes_string w src dst e none 0 0 hs he hd
     rw [h1]
     simp [Conv.bytesToString]
     rfl
   · exact run_convert_bytes_back w src dst e ⟨g, 0, none⟩ cap [] hs he hd (fun j hj => by simp at hj)
 · obtain ⟨g, cap, rfl, _, hc⟩ := own_bytes h hl
   exact run_convert_bytes_back w src dst e ⟨g, 0, none⟩ cap l hs he hd hc
theorem push_below {w wr w1 : World} {g e : Nat} {v : Value} {n : Nat} {xs : List Value} {o : Obj} (hown : wr.ownsRow w.heap.size e 1 v n xs) (hg : w.grownBy wr (some g)) (hgr : (wr.alloc o).grownBy w1 v.ownBlock) : w.grownBy w1 (some g) :=
 ⟨hgr.os.trans hg.os, hgr.tape.trans hg.tape, hgr.output.trans hg.output, by have := hgr.size; have := hg.size; simp at *; omega, fun k hk hr => by
  have hs := hg.size
  rw [hgr.block k (by simp; omega) (fun e => by have := (hown.lt k e.symm).1; omega), Below.heap_alloc _ _ _ (by omega)]
  exact hg.block k hk hr⟩
theorem made_bytes (n : Nat) : (madeCells #[Value.int IntKind.u8 0] n).toList = (List.replicate n (0 : UInt8)).map byteV := by
 rw [toList_madeCells_one]
 simp [byteV]
end Go.Proofs.YtconcnndghmdfaaGreatDoor

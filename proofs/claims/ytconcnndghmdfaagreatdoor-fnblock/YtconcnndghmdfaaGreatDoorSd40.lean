/- Put together: RngG, UnpF, GetTok. -/
import Derived.Test.YtconcnndghmdfaaGreatDoorSd39
namespace Go.Proofs.YtconcnndghmdfaaGreatDoor
open Go.RowKit
set_option maxRecDepth 100000 in
set_option maxHeartbeats 1600000 in
theorem imp_get (g c x : Nat) (t : ByteArray) (s : RC) (w : World) (hok : RcOk s) (hc : c < 1600) (hx : x < 18446744073709551616) (hts : t.size ≤ 9223372036854775807) (hdec : DecP w g t s x) :
 Calls Tryz.prog 162 #[.pointer (some ⟨g, 0, none⟩), .int .i64 (c : Int)] w fun e w' => e = .returned (.bool (dbit s x c)) ∧ DecP w' g t (step s c (dbit s x c)) (dx (tbN t) s x c) ∧ w.grownBy w' (some g) := by
 obtain ⟨P, hP⟩ : ∃ P, P = part1 s c (dbit s x c) := ⟨_, rfl⟩
 have hpo := part1_ok s c (dbit s x c) hok
 rw [← hP] at hpo
 have HPS := hide hP
 have HNOK := hide (norm_ok P hpo.1 hpo.2.1 hpo.2.2.1 (by rw [hpo.2.2.2.2]; exact hpo.2.2.2.1))
 have HPN := hide (show P.n = s.n from hpo.2.2.2.2)
 obtain ⟨b1, b2⟩ := bound_in s c hok
 have hhi := hok.hi
 have hch := hok.ch c
 obtain ⟨b, hb⟩ : ∃ b, b = bound s c := ⟨_, rfl⟩
 have HB := hide (show s.size / 2048 * s.ch c = b from hb.symm)
 have HB2 := hide hb
 rw [← hb] at b1 b2
 have hr : w.rowIs g 199 1603 (cdF s.size s.ch x (.string (restOf t (s.n + 4)))) := hdec
 obtain ⟨V, hV⟩ : ∃ V, V = Value.string (restOf t (s.n + 4)) := ⟨_, rfl⟩
 rw [← hV] at hr
 have HV := hide hV
 have SB := hide (imp_bound g 199 s.size x c s.ch V w hhi hc (by omega) hr)
 rw [HB.out] at SB
 obtain ⟨x1, hx1⟩ : ∃ x1, x1 = dx1 s x c := ⟨_, rfl⟩
 have HX1E := hide hx1
 have hx1lt : x1 < 18446744073709551616 := by rw [hx1]; unfold dx1; split <;> omega
 by_cases hbx : b ≤ x
 · have hbx' : (b : Int) ≤ (x : Int) := by omega
   have HBIT := hide (show dbit s x c = true by unfold dbit; rw [← hb]; exact decide_eq_true hbx)
   have hx1' : x1 = x - b := by rw [hx1, dx1, ← hb, if_pos hbx]
   have kx : (x : Int) - (b : Int) = (x1 : Int) := by omega
   have kx2 : IntKind.u64.wrap ((x : Int) - (b : Int)) = (x1 : Int) := by rw [IntKind.wrap_u64]; omega
   have HPE := hide (show P = ⟨s.size - b, setCh s.ch c (chOne (s.ch c)), s.low + b, s.n⟩ by rw [HPS.out, HBIT.out, hb]; rfl)
   have HR := hide hr
   clear hP hpo hb hdec hV hx1 hx1' hr
   go_enter Tryz.func162, Tryz.ntmps162
   go_wp2_with fail
   refine SB.out.mono ?_
   rintro e w1 ⟨rfl, m, hw1⟩
   have R1 : w1.rowIs g 199 1603 (cdF s.size s.ch x V) := by rw [hw1]; exact HR.out
   have G1 : w.grownBy w1 (some g) := by rw [hw1]; exact ⟨rfl, rfl, rfl, Nat.le_refl _, fun _ _ _ => rfl⟩
   obtain ⟨_, c1, _, _⟩ := cd_cells R1
   have f1 := R1.frozen 1601
   have R2 := (cd_set R1).2.1 x1
   have G2 := grownBy_set (i := 1601) G1 (.int .u64 (x1 : Int))
   have SN := hide (imp_narrow g 199 s.size x1 c b true s.ch V (w1.setCell ⟨g, 1601, none⟩ (.int .u64 (x1 : Int))) hhi (by omega) hc (by omega) R2)
   have HG := hide G2
   clear hw1 R1 G1 SB R2 G2 HR
   go_wp2_with fail
   refine SN.out.mono ?_
   rintro e w3 ⟨rfl, r3, g3⟩
   have HROW := hide (show w3.rowIs g 199 1603 (cdF P.size P.ch x1 (.string (restOf t (P.n + 4)))) by rw [HPE.out, ← HV.out]; exact r3)
   have HBEL := hide (grownBy_trans HG.out g3)
   clear r3 g3 SN HG c1 f1 kx kx2
   have HPE2 := hide (show P = part1 s c true by rw [HPS.out, HBIT.out])
   go_wp2_with fail
   go_loopw [35] (fun _ wx => ∃ (u : RC) (y : Nat), Hid ((u = P ∧ y = x1) ∨ (u = norm P ∧ P.size < 16777216 ∧ y = (256 * x1 + tbN t (s.n + 4)) % 18446744073709551616)) ∧ Hid (DecP wx g t u y) ∧ Hid (w.grownBy wx (some g))) (fun _ wx => if size0 wx g < 16777216 then 1 else 0)
   case atStart => exact ⟨P, x1, .inl ⟨rfl, rfl⟩, HROW, HBEL⟩
   case round =>
    clear HROW HBEL
    obtain ⟨u, y, hu, hrow, hbel⟩ := hrel
    have hr : wr.rowIs g 199 1603 (cdF u.size u.ch y (.string (restOf t (u.n + 4)))) := hrow.out
    have hsw := hide (size0_of (cd_cells hr).1)
    by_cases hsz : u.size < 16777216
    · have huP : u = P ∧ y = x1 := by
       rcases hu.out with h | ⟨h, h2, _⟩
       · exact h
       · rw [h] at hsz; exact absurd hsz (by have := HNOK.out.lo; omega)
      have SW := hide (imp_widen_yes g 199 u.size y u.ch _ wr hsz hr)
      have HT := hide huP
      clear hr huP hrow hu
      go_wp2_with fail
      refine SW.out.mono ?_
      rintro e w1 ⟨rfl, r1, g1⟩
      have ST := hide (imp_take g (256 * u.size) y (u.n + 4) u.ch t w1 hts r1)
      have hb1 := hide (grownBy_trans hbel.out g1)
      clear r1 g1 SW hbel
      go_wp2_with fail
      refine ST.out.mono ?_
      rintro e w2 ⟨rfl, r2, g2⟩
      have hb3 := hide (grownBy_trans hb1.out g2)
      have hs3 := hide (size0_of (cd_cells r2).1)
      have hC3 := hide (show DecP w2 g t (norm P) ((256 * x1 + tbN t (s.n + 4)) % 18446744073709551616) by
       have h := HT.out
       rw [norm, if_pos (by rw [← h.1]; exact hsz), ← HPN.out, ← h.1, ← h.2]; exact r2)
      clear r2 g2 hb1 ST
      go_wp2_with fail
      go_roundw
      case rel => exact ⟨norm P, _, .inr ⟨rfl, by rw [← HT.out.1]; exact hsz, rfl⟩, hC3, hb3⟩
      case measure =>
       rw [hs3.out, hsw.out, if_pos hsz, if_neg (by have h := HNOK.out.lo; rw [norm, if_pos (by rw [← HT.out.1]; exact hsz)] at h; have h' : 16777216 ≤ 256 * P.size := h; rw [← HT.out.1] at h'; omega)]
       omega
    · have hfin := hide (show DecP wr g t (norm P) (if P.size < 16777216 then (256 * x1 + tbN t (s.n + 4)) % 18446744073709551616 else x1) by
       have h0 := hrow.out
       rcases hu.out with ⟨h1, h2⟩ | ⟨h1, h2, h3⟩
       · rw [norm, if_neg (by rw [← h1]; exact hsz), if_neg (by rw [← h1]; exact hsz), ← h1, ← h2]; exact h0
       · rw [if_pos h2, ← h1, ← h3]; exact h0)
      have SW := hide (imp_widen_no g 199 u.size y u.ch _ wr hsz hr)
      clear hr hu hrow
      go_wp2_with fail
      refine SW.out.mono ?_
      rintro e w1 ⟨rfl, rfl⟩
      go_wp2_with fail
      go_ret
      exact ⟨by rw [HBIT.out]; rfl, by rw [HBIT.out]; show DecP _ g t (norm (part1 s c _)) (dx (tbN t) s x c); rw [dx, HBIT.out, ← HPE2.out, ← HX1E.out]; exact hfin.out, hbel.out⟩
 · have hbx' : ¬ (b : Int) ≤ (x : Int) := by omega
   have HBIT := hide (show dbit s x c = false by unfold dbit; rw [← hb]; exact decide_eq_false hbx)
   have hx1' : x1 = x := by rw [hx1, dx1, ← hb, if_neg hbx]
   have HPE := hide (show P = ⟨b, setCh s.ch c (chNot (s.ch c)), s.low, s.n⟩ by rw [HPS.out, HBIT.out, hb]; rfl)
   have HX1 := hide hx1'
   have HR := hide hr
   clear hP hpo hb hdec hV hx1 hx1' hr
   go_enter Tryz.func162, Tryz.ntmps162
   go_wp2_with fail
   refine SB.out.mono ?_
   rintro e w1 ⟨rfl, m, hw1⟩
   have R1 : w1.rowIs g 199 1603 (cdF s.size s.ch x V) := by rw [hw1]; exact HR.out
   have G1 : w.grownBy w1 (some g) := by rw [hw1]; exact ⟨rfl, rfl, rfl, Nat.le_refl _, fun _ _ _ => rfl⟩
   obtain ⟨_, c1, _, _⟩ := cd_cells R1
   have SN := hide (imp_narrow g 199 s.size x c b false s.ch V w1 hhi (by omega) hc (by omega) R1)
   have HG := hide G1
   clear hw1 R1 G1 SB HR
   go_wp2_with fail
   refine SN.out.mono ?_
   rintro e w3 ⟨rfl, r3, g3⟩
   have HROW := hide (show w3.rowIs g 199 1603 (cdF P.size P.ch x1 (.string (restOf t (P.n + 4)))) by rw [HPE.out, ← HV.out, HX1.out]; exact r3)
   have HBEL := hide (grownBy_trans HG.out g3)
   clear r3 g3 SN HG c1
   have HPE2 := hide (show P = part1 s c false by rw [HPS.out, HBIT.out])
   go_wp2_with fail
   go_loopw [35] (fun _ wx => ∃ (u : RC) (y : Nat), Hid ((u = P ∧ y = x1) ∨ (u = norm P ∧ P.size < 16777216 ∧ y = (256 * x1 + tbN t (s.n + 4)) % 18446744073709551616)) ∧ Hid (DecP wx g t u y) ∧ Hid (w.grownBy wx (some g))) (fun _ wx => if size0 wx g < 16777216 then 1 else 0)
   case atStart => exact ⟨P, x1, .inl ⟨rfl, rfl⟩, HROW, HBEL⟩
   case round =>
    clear HROW HBEL
    obtain ⟨u, y, hu, hrow, hbel⟩ := hrel
    have hr : wr.rowIs g 199 1603 (cdF u.size u.ch y (.string (restOf t (u.n + 4)))) := hrow.out
    have hsw := hide (size0_of (cd_cells hr).1)
    by_cases hsz : u.size < 16777216
    · have huP : u = P ∧ y = x1 := by
       rcases hu.out with h | ⟨h, h2, _⟩
       · exact h
       · rw [h] at hsz; exact absurd hsz (by have := HNOK.out.lo; omega)
      have SW := hide (imp_widen_yes g 199 u.size y u.ch _ wr hsz hr)
      have HT := hide huP
      clear hr huP hrow hu
      go_wp2_with fail
      refine SW.out.mono ?_
      rintro e w1 ⟨rfl, r1, g1⟩
      have ST := hide (imp_take g (256 * u.size) y (u.n + 4) u.ch t w1 hts r1)
      have hb1 := hide (grownBy_trans hbel.out g1)
      clear r1 g1 SW hbel
      go_wp2_with fail
      refine ST.out.mono ?_
      rintro e w2 ⟨rfl, r2, g2⟩
      have hb3 := hide (grownBy_trans hb1.out g2)
      have hs3 := hide (size0_of (cd_cells r2).1)
      have hC3 := hide (show DecP w2 g t (norm P) ((256 * x1 + tbN t (s.n + 4)) % 18446744073709551616) by
       have h := HT.out
       rw [norm, if_pos (by rw [← h.1]; exact hsz), ← HPN.out, ← h.1, ← h.2]; exact r2)
      clear r2 g2 hb1 ST
      go_wp2_with fail
      go_roundw
      case rel => exact ⟨norm P, _, .inr ⟨rfl, by rw [← HT.out.1]; exact hsz, rfl⟩, hC3, hb3⟩
      case measure =>
       rw [hs3.out, hsw.out, if_pos hsz, if_neg (by have h := HNOK.out.lo; rw [norm, if_pos (by rw [← HT.out.1]; exact hsz)] at h; have h' : 16777216 ≤ 256 * P.size := h; rw [← HT.out.1] at h'; omega)]
       omega
    · have hfin := hide (show DecP wr g t (norm P) (if P.size < 16777216 then (256 * x1 + tbN t (s.n + 4)) % 18446744073709551616 else x1) by
       have h0 := hrow.out
       rcases hu.out with ⟨h1, h2⟩ | ⟨h1, h2, h3⟩
       · rw [norm, if_neg (by rw [← h1]; exact hsz), if_neg (by rw [← h1]; exact hsz), ← h1, ← h2]; exact h0
       · rw [if_pos h2, ← h1, ← h3]; exact h0)
      have SW := hide (imp_widen_no g 199 u.size y u.ch _ wr hsz hr)
      clear hr hu hrow
      go_wp2_with fail
      refine SW.out.mono ?_
      rintro e w1 ⟨rfl, rfl⟩
      go_wp2_with fail
      go_ret
      exact ⟨by rw [HBIT.out]; rfl, by rw [HBIT.out]; show DecP _ g t (norm (part1 s c _)) (dx (tbN t) s x c); rw [dx, HBIT.out, ← HPE2.out, ← HX1E.out]; exact hfin.out, hbel.out⟩
end Go.Proofs.YtconcnndghmdfaaGreatDoor
namespace Go.Proofs.YtconcnndghmdfaaGreatDoor
def dtok (tb : Nat → Nat) (st : RC × Nat) : Tok × (RC × Nat) :=
 if dbit st.1 st.2 0 = true then (⟨0, (((readG tb 300 6 (dnext tb st 0) 1).2 - 64 + 3 : Nat) : Int), (((readG tb 400 10 (readG tb 300 6 (dnext tb st 0) 1).1 1).2 - 1024 + 1 : Nat) : Int)⟩, (readG tb 400 10 (readG tb 300 6 (dnext tb st 0) 1).1 1).1)
 else (⟨(((readG tb 16 8 (dnext tb st 0) 1).2 - 256 : Nat) : Int), 0, 0⟩, (readG tb 16 8 (dnext tb st 0) 1).1)
def tsz (x : Tok) : Nat := (tokSize x.m).toNat
def dtoks (tb : Nat → Nat) (size : Nat) : Nat → RC × Nat → Nat → List Tok
 | 0, _, _ => []
 | k + 1, st, made => if made < size then (dtok tb st).1 :: dtoks tb size k (dtok tb st).2 (made + tsz (dtok tb st).1) else []
def growT (x : Tok) (b : List UInt8) : Option (List UInt8) :=
 if x.m = 0 then some (b ++ [UInt8.ofNat x.b.toNat]) else if b.length < x.f.toNat then none else some (copyN x.f.toNat x.m.toNat b)
def growL : List Tok → List UInt8 → Option (List UInt8)
 | [], b => some b
 | x :: l, b => (growT x b).bind (growL l)
theorem growL_app : ∀ l k b, growL (l ++ k) b = (growL l b).bind (growL k)
 | [], _, _ => rfl
 | x :: l, k, b => by
   show (growT x b).bind (growL (l ++ k)) = ((growT x b).bind (growL l)).bind (growL k)
   cases growT x b with
   | none => rfl
   | some c => exact growL_app l k c
theorem dtok_two (tb : Nat → Nat) (st : RC × Nat) : (∃ y : Nat, y < 256 ∧ (dtok tb st).1 = ⟨(y : Int), 0, 0⟩) ∨ ∃ M F : Nat, 3 ≤ M ∧ M ≤ 66 ∧ 1 ≤ F ∧ F ≤ 1024 ∧ (dtok tb st).1 = ⟨0, (M : Int), (F : Int)⟩ := by
 unfold dtok
 split
 · have h1 := (readG_node tb 300 6 (dnext tb st 0) 1).2
   have h2 := (readG_node tb 400 10 (readG tb 300 6 (dnext tb st 0) 1).1 1).2
   have e1 : (1 + 1) * 2 ^ 6 = 128 := rfl
   have e2 : (1 + 1) * 2 ^ 10 = 2048 := rfl
   exact .inr ⟨_, _, by omega, by omega, by omega, by omega, rfl⟩
 · have h1 := (readG_node tb 16 8 (dnext tb st 0) 1).2
   have e1 : (1 + 1) * 2 ^ 8 = 512 := rfl
   exact .inl ⟨_, by omega, rfl⟩
theorem tsz_byte (y : Int) : tsz ⟨y, 0, 0⟩ = 1 := rfl
theorem tsz_match (M F : Nat) (h : 3 ≤ M) : tsz ⟨0, (M : Int), (F : Int)⟩ = M := by
 show (tokSize (M : Int)).toNat = M
 unfold tokSize
 rw [if_neg (by omega)]; omega
theorem growT_byte (y : Nat) (b : List UInt8) : growT ⟨(y : Int), 0, 0⟩ b = some (b ++ [UInt8.ofNat y]) := rfl
theorem growT_match (M F : Nat) (b : List UInt8) (h : 3 ≤ M) : growT ⟨0, (M : Int), (F : Int)⟩ b = if b.length < F then none else some (copyN F M b) := by
 show (if (M : Int) = 0 then _ else if b.length < ((F : Int)).toNat then none else some (copyN ((F : Int)).toNat ((M : Int)).toNat b)) = _
 rw [if_neg (by omega), Int.toNat_natCast, Int.toNat_natCast]
theorem tsz_pos (tb : Nat → Nat) (st : RC × Nat) : 1 ≤ tsz (dtok tb st).1 ∧ tsz (dtok tb st).1 ≤ 66 := by
 rcases dtok_two tb st with ⟨y, _, e⟩ | ⟨M, F, h1, h2, _, _, e⟩
 · rw [e, tsz_byte]; omega
 · rw [e, tsz_match M F h1]; omega
theorem growT_len (tb : Nat → Nat) (st : RC × Nat) (b c : List UInt8) (h : growT (dtok tb st).1 b = some c) : c.length = b.length + tsz (dtok tb st).1 := by
 rcases dtok_two tb st with ⟨y, _, e⟩ | ⟨M, F, h1, h2, _, _, e⟩
 · rw [e, growT_byte] at h
   rw [e, tsz_byte, ← Option.some.inj h, List.length_append]; rfl
 · rw [e, growT_match M F b h1] at h
   split at h
   · cases h
   · rw [e, tsz_match M F h1, ← Option.some.inj h, copyN_len]
theorem unpack_toks (tb : Nat → Nat) (many : Nat) : ∀ k st b, unpackG tb many k st b = growL (dtoks tb many k st b.length) b
 | 0, _, _ => rfl
 | k + 1, st, b => by
   unfold unpackG dtoks
   by_cases hlt : b.length < many
   · rw [if_pos hlt, if_pos hlt]
     show _ = (growT (dtok tb st).1 b).bind (growL (dtoks tb many k (dtok tb st).2 (b.length + tsz (dtok tb st).1)))
     cases hg : growT (dtok tb st).1 b with
     | none =>
       show _ = none
       by_cases hd : dbit st.1 st.2 0 = true
       · rw [if_pos hd]
         unfold dtok at hg
         rw [if_pos hd] at hg
         rw [growT_match _ _ b (by omega)] at hg
         split at hg
         · rename_i h; rw [if_pos h]
         · cases hg
       · unfold dtok at hg
         rw [if_neg hd] at hg
         rw [growT_byte] at hg; cases hg
     | some c =>
       show _ = growL (dtoks tb many k (dtok tb st).2 (b.length + tsz (dtok tb st).1)) c
       rw [← growT_len tb st b c hg, ← unpack_toks tb many k (dtok tb st).2 c]
       by_cases hd : dbit st.1 st.2 0 = true
       · rw [if_pos hd]
         unfold dtok at hg ⊢
         rw [if_pos hd] at hg ⊢
         rw [growT_match _ _ b (by omega)] at hg
         split at hg
         · cases hg
         · rename_i h
           rw [if_neg h, Option.some.inj hg]
       · rw [if_neg hd]
         unfold dtok at hg ⊢
         rw [if_neg hd] at hg ⊢
         rw [growT_byte] at hg
         rw [Option.some.inj hg]
   · rw [if_neg hlt, if_neg hlt]; rfl
theorem dtok_ok (tb : Nat → Nat) (st : RC × Nat) (m : Nat) (h : DecOk st m) : DecOk (dtok tb st).2 (m + 17) := by
 have h1 := DecOk.next tb st 0 m h
 unfold dtok
 split
 · have h2 := readG_ok tb 300 6 (dnext tb st 0) 1 _ h1
   exact readG_ok tb 400 10 _ 1 _ h2
 · have h2 := readG_ok tb 16 8 (dnext tb st 0) 1 _ h1
   exact ⟨h2.ok, h2.x, Nat.le_trans h2.n (by omega)⟩
end Go.Proofs.YtconcnndghmdfaaGreatDoor
namespace Go.Proofs.YtconcnndghmdfaaGreatDoor
open Go.RowKit
theorem DecP.kept {w w' : World} {g x : Nat} {t : ByteArray} {s : RC} (h : DecP w g t s x) (hg : w'.heap[g]? = w.heap[g]?) : DecP w' g t s x := h.of_block hg
theorem DecP.lt {w : World} {g x : Nat} {t : ByteArray} {s : RC} (h : DecP w g t s x) : g < w.heap.size := World.rowIs.lt h
theorem set3_blk (w : World) (g : Nat) (x y z a b c : Value) (t : TypeId) (h : w.heap[g]? = some (.cells #[x, y, z] t)) : (((w.setCell ⟨g, 0, none⟩ a).setCell ⟨g, 1, none⟩ b).setCell ⟨g, 2, none⟩ c).heap[g]? = some (.cells #[a, b, c] t) := by
 simp [World.setCell, Array.getElem?_modify, h]
theorem set3_far (w : World) (g k : Nat) (a b c : Value) (h : k ≠ g) : (((w.setCell ⟨g, 0, none⟩ a).setCell ⟨g, 1, none⟩ b).setCell ⟨g, 2, none⟩ c).heap[k]? = w.heap[k]? := by
 simp [World.setCell, Array.getElem?_modify, Ne.symm h]
theorem grownBy_set3 {w w1 : World} {r : Option Nat} (h : w.grownBy w1 r) (g : Nat) (hg : w.heap.size ≤ g) (a b c : Value) : w.grownBy (((w1.setCell ⟨g, 0, none⟩ a).setCell ⟨g, 1, none⟩ b).setCell ⟨g, 2, none⟩ c) r :=
 ⟨h.os, h.tape, h.output, by have := h.size; simpa [World.setCell] using this, fun k hk hne => (set3_far w1 g k a b c (by omega)).trans (h.block k hk hne)⟩
set_option maxRecDepth 100000 in
set_option maxHeartbeats 800000 in
theorem imp_getNum (g many base m P2 : Nat) (t : ByteArray) (st : RC × Nat) (w : World) (hP : P2 = 2 ^ many) (hm : many ≤ 10) (hb : base ≤ 400) (hok : DecOk st m) (hts : t.size ≤ 9223372036854775807) (hdec : DecP w g t st.1 st.2) :
 Calls Tryz.prog 163 #[.pointer (some ⟨g, 0, none⟩), .int .i64 (base : Int), .int .i64 (many : Int)] w fun e w' => e = .returned (.int .i64 (((readG (tbN t) base many st 1).2 - P2 : Nat) : Int)) ∧ DecP w' g t (readG (tbN t) base many st 1).1.1 (readG (tbN t) base many st 1).1.2 ∧ w.grownBy w' (some g) := by
 have hP1024 : P2 ≤ 1024 := by rw [hP]; exact Nat.le_trans (Nat.pow_le_pow_right (by omega) hm) (by decide)
 have hn1 := readG_node (tbN t) base many st 1
 rw [← hP] at hn1
 obtain ⟨R, hR⟩ : ∃ R, R = readG (tbN t) base many st 1 := ⟨_, rfl⟩
 rw [← hR] at hn1 ⊢
 have HR := hide hR
 have HD := hide hdec
 have HPP := hide hP
 clear hR hdec hP
 go_enter Tryz.func163, Tryz.ntmps163
 go_wp2_with fail
 go_loopw [7, 9] (fun nd i wx => ∃ (k node : Nat) (s : RC × Nat), k ≤ many ∧ node < 2 ^ (k + 1) ∧ i = .int .i64 (k : Int) ∧ nd = .int .i64 (node : Int) ∧ Hid (readG (tbN t) base (many - k) s node = R) ∧ Hid (DecOk s (m + k)) ∧ Hid (DecP wx g t s.1 s.2) ∧ Hid (w.grownBy wx (some g))) (fun _ i _ => many - (intOf i).toNat)
 case atStart => exact ⟨0, 1, st, Nat.zero_le _, by decide, rfl, rfl, HR.out.symm, hok, HD, World.grownBy.refl _ _⟩
 case round =>
  clear HD
  obtain ⟨k, node, s, hk, hnd, rfl, rfl, hre, hso, hd, htw⟩ := hrel
  have hnode : node < 2048 := Nat.lt_of_lt_of_le hnd (Nat.le_trans (Nat.pow_le_pow_right (by omega) (show k + 1 ≤ 11 by omega)) (by decide))
  by_cases hlt : k < many
  · have hlt' : (k : Int) < (many : Int) := by omega
    have hnode2 : node < 1024 := Nat.lt_of_lt_of_le hnd (Nat.le_trans (Nat.pow_le_pow_right (by omega) (show k + 1 ≤ 10 by omega)) (by decide))
    obtain ⟨c, hc⟩ : ∃ c, c = base + node := ⟨_, rfl⟩
    have s1 : (base : Int) + (node : Int) = (c : Int) := by omega
    have SB := hide (imp_get g c s.2 t s.1 wr hso.out.ok (by omega) hso.out.x hts hd.out)
    obtain ⟨bit, hbit⟩ : ∃ b, b = dbit s.1 s.2 c := ⟨_, rfl⟩
    have HRE := hide (show readG (tbN t) base (many - (k + 1)) (dnext (tbN t) s c) (2 * node + bN bit) = R by
     rw [← hre.out, show many - k = (many - (k + 1)) + 1 by omega, hbit, hc]; rfl)
    have HSO := hide (DecOk.next (tbN t) s c (m + k) hso.out)
    have HND := hide (show 2 * node + bN bit < 2 ^ (k + 1 + 1) by
     have := bN_le bit
     rw [Nat.pow_succ]; omega)
    rw [← hbit] at SB
    have HDE := hide (show dnext (tbN t) s c = (step s.1 c bit, dx (tbN t) s.1 s.2 c) by unfold dnext; rw [← hbit])
    have hcb : (c : Int) ≤ 2000 := by omega
    have hnb : (node : Int) ≤ 1024 := by omega
    clear hbit hc hre hso hd hnd
    go_wp2_with fail
    refine SB.out.mono ?_
    rintro e w2 ⟨rfl, hd2, ht2⟩
    have HD2 := hide (show DecP w2 g t (dnext (tbN t) s c).1 (dnext (tbN t) s c).2 by rw [HDE.out]; exact hd2)
    have HT2 := hide (grownBy_trans htw.out ht2)
    clear hd2 ht2 htw SB HDE
    go_wp2_with fail
    refine (imp_below node bit w2 (by omega)).mono ?_
    rintro e w3 ⟨rfl, rfl⟩
    obtain ⟨nn, hnn⟩ : ∃ nn, nn = 2 * node + bN bit := ⟨_, rfl⟩
    rw [← hnn] at HRE HND ⊢
    clear hnn
    go_wp2_with fail
    go_roundw
    case rel => exact ⟨k + 1, nn, dnext (tbN t) s c, by omega, HND.out, by go_num, rfl, HRE, HSO, HD2, HT2⟩
    case measure => simp [intOf]; omega
  · have hlt' : ¬ (k : Int) < (many : Int) := by omega
    have hkm : k = many := by omega
    have e := hre.out
    rw [hkm, Nat.sub_self] at e
    have e2 : R = (s, node) := e.symm
    have HD2 := hide (show DecP wr g t R.1.1 R.1.2 by rw [e2]; exact hd.out)
    have hn2 : R.2 = node := by rw [e2]
    rw [hn2] at hn1
    have HN2 := hide hn2
    clear e e2 hre hso hd hnd hn2
    have e1 : (2 : Int) ^ many = (P2 : Int) := by rw [HPP.out]; simp
    obtain ⟨d, hd⟩ : ∃ d, d = node - P2 := ⟨_, rfl⟩
    have e3 : (node : Int) - (P2 : Int) = (d : Int) := by omega
    have hdb : (d : Int) ≤ 2048 := by omega
    have hpb : (P2 : Int) ≤ 1024 := by omega
    have hnb : (node : Int) ≤ 2048 := by omega
    have HDD := hide hd
    clear hd hkm
    go_wp2_with fail
    go_ret
    exact ⟨by rw [HN2.out, ← HDD.out]; rfl, HD2.out, htw.out⟩
set_option maxRecDepth 100000 in
set_option maxHeartbeats 1600000 in
theorem imp_getToken (g m : Nat) (t : ByteArray) (st : RC × Nat) (w : World) (hok : DecOk st m) (hts : t.size ≤ 9223372036854775807) (hdec : DecP w g t st.1 st.2) :
 Calls Tryz.prog 156 #[.pointer (some ⟨g, 0, none⟩)] w fun e w' => e = .returned (tokV (dtok (tbN t) st).1) ∧ DecP w' g t (dtok (tbN t) st).2.1 (dtok (tbN t) st).2.2 ∧ w.grownBy w' (some g) := by
 obtain ⟨z, hz⟩ : ∃ z, z = w.heap.size := ⟨_, rfl⟩
 have hgl := hdec.lt
 have hgz : g < z := by omega
 have q1 : (w.alloc (.cells #[.int .i64 0, .int .i64 0, .int .i64 0] 80)).heap[z]? = some (.cells #[.int .i64 0, .int .i64 0, .int .i64 0] 80) := by rw [hz]; exact heap_alloc_new w _
 have s1 : (w.alloc (.cells #[.int .i64 0, .int .i64 0, .int .i64 0] 80)).heap.size = z + 1 := by simp [hz]
 have d1 : DecP (w.alloc (.cells #[.int .i64 0, .int .i64 0, .int .i64 0] 80)) g t st.1 st.2 := hdec.kept (Below.heap_alloc _ _ _ hgl)
 have g1 : w.grownBy (w.alloc (.cells #[.int .i64 0, .int .i64 0, .int .i64 0] 80)) (some g) := grownBy_alloc (World.grownBy.refl _ _) _
 have SB := hide (imp_get g 0 st.2 t st.1 (w.alloc (.cells #[.int .i64 0, .int .i64 0, .int .i64 0] 80)) hok.ok (by omega) hok.x hts d1)
 have HK2 := hide (DecOk.next (tbN t) st 0 _ hok)
 have HZ := hide hz
 have H1 := hide (And.intro q1 (And.intro s1 g1))
 obtain ⟨bit, hbit⟩ : ∃ b, b = dbit st.1 st.2 0 := ⟨_, rfl⟩
 rw [← hbit] at SB
 have HDE := hide (show dnext (tbN t) st 0 = (step st.1 0 bit, dx (tbN t) st.1 st.2 0) by unfold dnext; rw [← hbit])
 have HTK := hide (show dtok (tbN t) st = if bit = true then (⟨0, (((readG (tbN t) 300 6 (dnext (tbN t) st 0) 1).2 - 64 + 3 : Nat) : Int), (((readG (tbN t) 400 10 (readG (tbN t) 300 6 (dnext (tbN t) st 0) 1).1 1).2 - 1024 + 1 : Nat) : Int)⟩, (readG (tbN t) 400 10 (readG (tbN t) 300 6 (dnext (tbN t) st 0) 1).1 1).1)
 else (⟨(((readG (tbN t) 16 8 (dnext (tbN t) st 0) 1).2 - 256 : Nat) : Int), 0, 0⟩, (readG (tbN t) 16 8 (dnext (tbN t) st 0) 1).1) by rw [hbit]; rfl)
 clear hz q1 s1 d1 g1 hdec hbit hok
 go_enter Tryz.func156, Tryz.ntmps156
 go_wp2_with fail
 refine SB.out.mono ?_
 rw [← HZ.out]
 obtain ⟨q1, s1, g1⟩ := H1.out
 generalize w.alloc (.cells #[.int .i64 0, .int .i64 0, .int .i64 0] 80) = W1 at *
 rintro e w2 ⟨rfl, hd2, ht2⟩
 have HD2 := hide (show DecP w2 g t (dnext (tbN t) st 0).1 (dnext (tbN t) st 0).2 by rw [HDE.out]; exact hd2)
 have hs2 := ht2.size
 have q2 := hide ((ht2.block z (by omega) (fun e => by cases e; omega)).trans q1)
 have G2 := hide (grownBy_trans g1 ht2)
 clear hd2 ht2 SB HDE q1 g1 H1
 cases bit with
 | false =>
   have SR := hide (imp_getNum g 8 16 (m + 1) 256 t (dnext (tbN t) st 0) w2 rfl (by omega) (by omega) HK2.out hts HD2.out)
   have hnn := readG_node (tbN t) 16 8 (dnext (tbN t) st 0) 1
   have HT2 := hide (show dtok (tbN t) st = (⟨(((readG (tbN t) 16 8 (dnext (tbN t) st 0) 1).2 - 256 : Nat) : Int), 0, 0⟩, (readG (tbN t) 16 8 (dnext (tbN t) st 0) 1).1) by rw [HTK.out]; rfl)
   obtain ⟨R, hR⟩ : ∃ R, R = readG (tbN t) 16 8 (dnext (tbN t) st 0) 1 := ⟨_, rfl⟩
   rw [← hR] at SR hnn HT2
   obtain ⟨y, hy⟩ : ∃ y, y = R.2 - 256 := ⟨_, rfl⟩
   rw [← hy] at SR HT2
   have hy8 : y < 256 := by have h1 := hnn.2; have e : (1 + 1) * 2 ^ 8 = 512 := rfl; omega
   clear hR hy hnn HK2 HD2 HTK
   go_wp2_with fail
   refine SR.out.mono ?_
   rintro e w3 ⟨rfl, hd3, ht3⟩
   have hs3 := ht3.size
   have q3 := (ht3.block z (by omega) (fun e => by cases e; omega)).trans q2.out
   have c0 : w3.cell? ⟨z, 0, none⟩ = some (.int .i64 0) := by simp [World.cell?, q3]
   have c1 : w3.cell? ⟨z, 1, none⟩ = some (.int .i64 0) := by simp [World.cell?, q3]
   have c2 : w3.cell? ⟨z, 2, none⟩ = some (.int .i64 0) := by simp [World.cell?, q3]
   have f0 : w3.frozen? ⟨z, 0, none⟩ = false := by simp [World.frozen?, q3]
   have f1 : w3.frozen? ⟨z, 1, none⟩ = false := by simp [World.frozen?, q3]
   have f2 : w3.frozen? ⟨z, 2, none⟩ = false := by simp [World.frozen?, q3]
   have HD3 := hide hd3
   have G3 := hide (grownBy_trans G2.out ht3)
   have Q3 := hide q3
   clear hd3 ht3 SR q2 G2 q3
   go_wp2_with fail
   have fin := set3_blk w3 z _ _ _ (.int .i64 (y : Int)) (.int .i64 0) (.int .i64 0) _ Q3.out
   have HDX := HD3.out.kept (set3_far w3 z g (.int .i64 (y : Int)) (.int .i64 0) (.int .i64 0) (by omega))
   have HGX := grownBy_set3 G3.out z (by rw [HZ.out]; exact Nat.le_refl _) (.int .i64 (y : Int)) (.int .i64 0) (.int .i64 0)
   rw [HT2.out]
   exact bodyPost_ret (results_cell_row Tryz.results156 _ _ z 80 #[.int .i64 (y : Int), .int .i64 0, .int .i64 0] (0, 0) _ rfl fin Tryz.underlying80 rfl (by kernel_rfl)) rfl ⟨rfl, HDX, HGX⟩
 | true =>
   have SR := hide (imp_getNum g 6 300 (m + 1) 64 t (dnext (tbN t) st 0) w2 rfl (by omega) (by omega) HK2.out hts HD2.out)
   have hnn := readG_node (tbN t) 300 6 (dnext (tbN t) st 0) 1
   have HK3 := hide (readG_ok (tbN t) 300 6 (dnext (tbN t) st 0) 1 _ HK2.out)
   have HT2 := hide (show dtok (tbN t) st = (⟨0, (((readG (tbN t) 300 6 (dnext (tbN t) st 0) 1).2 - 64 + 3 : Nat) : Int), (((readG (tbN t) 400 10 (readG (tbN t) 300 6 (dnext (tbN t) st 0) 1).1 1).2 - 1024 + 1 : Nat) : Int)⟩, (readG (tbN t) 400 10 (readG (tbN t) 300 6 (dnext (tbN t) st 0) 1).1 1).1) by rw [HTK.out]; rfl)
   obtain ⟨R, hR⟩ : ∃ R, R = readG (tbN t) 300 6 (dnext (tbN t) st 0) 1 := ⟨_, rfl⟩
   rw [← hR] at SR hnn HT2 HK3
   obtain ⟨y, hy⟩ : ∃ y, y = R.2 - 64 := ⟨_, rfl⟩
   rw [← hy] at SR HT2
   have hy6 : y < 64 := by have h1 := hnn.2; have e : (1 + 1) * 2 ^ 6 = 128 := rfl; omega
   obtain ⟨M, hM⟩ : ∃ M, M = y + 3 := ⟨_, rfl⟩
   rw [← hM] at HT2
   have hyw : (y : Int) + (3 : Int) = (M : Int) := by omega
   have hyw2 : IntKind.i64.wrap ((y : Int) + (3 : Int)) = (M : Int) := by rw [IntKind.wrap_i64]; omega
   have hM66 : (M : Int) ≤ 66 := by omega
   clear hR hy hnn HK2 HD2 HTK hM
   go_wp2_with fail
   refine SR.out.mono ?_
   rintro e w3 ⟨rfl, hd3, ht3⟩
   have hs3 := ht3.size
   have q3 := hide ((ht3.block z (by omega) (fun e => by cases e; omega)).trans q2.out)
   have G3 := hide (grownBy_trans G2.out ht3)
   have SR2 := hide (imp_getNum g 10 400 _ 1024 t R.1 w3 rfl (by omega) (by omega) HK3.out hts hd3)
   have hnn := readG_node (tbN t) 400 10 R.1 1
   obtain ⟨R2, hR⟩ : ∃ R2, R2 = readG (tbN t) 400 10 R.1 1 := ⟨_, rfl⟩
   rw [← hR] at SR2 hnn HT2
   obtain ⟨f, hf⟩ : ∃ f, f = R2.2 - 1024 := ⟨_, rfl⟩
   rw [← hf] at SR2 HT2
   have hf10 : f < 1024 := by have h1 := hnn.2; have e : (1 + 1) * 2 ^ 10 = 2048 := rfl; omega
   obtain ⟨F, hF⟩ : ∃ F, F = f + 1 := ⟨_, rfl⟩
   rw [← hF] at HT2
   have hfw : (f : Int) + (1 : Int) = (F : Int) := by omega
   have hfw2 : IntKind.i64.wrap ((f : Int) + (1 : Int)) = (F : Int) := by rw [IntKind.wrap_i64]; omega
   have hF1024 : (F : Int) ≤ 1024 := by omega
   clear hF hR hf hnn SR HK3 hd3 ht3 q2 G2
   go_wp2_with fail
   refine SR2.out.mono ?_
   rintro e w4 ⟨rfl, hd4, ht4⟩
   have hs4 := ht4.size
   have q4 := (ht4.block z (by omega) (fun e => by cases e; omega)).trans q3.out
   have c0 : w4.cell? ⟨z, 0, none⟩ = some (.int .i64 0) := by simp [World.cell?, q4]
   have c1 : w4.cell? ⟨z, 1, none⟩ = some (.int .i64 0) := by simp [World.cell?, q4]
   have c2 : w4.cell? ⟨z, 2, none⟩ = some (.int .i64 0) := by simp [World.cell?, q4]
   have f0 : w4.frozen? ⟨z, 0, none⟩ = false := by simp [World.frozen?, q4]
   have f1 : w4.frozen? ⟨z, 1, none⟩ = false := by simp [World.frozen?, q4]
   have f2 : w4.frozen? ⟨z, 2, none⟩ = false := by simp [World.frozen?, q4]
   have HD4 := hide hd4
   have G4 := hide (grownBy_trans G3.out ht4)
   have Q3 := hide q4
   clear hd4 ht4 SR2 q3 G3 q4
   go_wp2_with fail
   have fin := set3_blk w4 z _ _ _ (.int .i64 0) (.int .i64 (M : Int)) (.int .i64 (F : Int)) _ Q3.out
   have HDX := HD4.out.kept (set3_far w4 z g (.int .i64 0) (.int .i64 (M : Int)) (.int .i64 (F : Int)) (by omega))
   have HGX := grownBy_set3 G4.out z (by rw [HZ.out]; exact Nat.le_refl _) (.int .i64 0) (.int .i64 (M : Int)) (.int .i64 (F : Int))
   rw [HT2.out]
   exact bodyPost_ret (results_cell_row Tryz.results156 _ _ z 80 #[.int .i64 0, .int .i64 (M : Int), .int .i64 (F : Int)] (0, 0) _ rfl fin Tryz.underlying80 rfl (by kernel_rfl)) rfl ⟨rfl, HDX, HGX⟩
end Go.Proofs.YtconcnndghmdfaaGreatDoor

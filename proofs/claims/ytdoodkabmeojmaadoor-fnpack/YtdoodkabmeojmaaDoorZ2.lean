/- RngG, UnpF, BelowI, GetTok, ImpTokS, TokD, UnpG, AppOld, ByteI, ImpGrow, PastM, one behind the other. -/
import Derived.Test.YtdoodkabmeojmaaDoorZ1
import Derived.Test.YtdoodkabmeojmaaDoorRangeD
import Derived.Test.YtdoodkabmeojmaaDoorPackF
import Derived.Test.YtdoodkabmeojmaaDoorPackR
import Derived.Test.YtdoodkabmeojmaaDoorTokC
import Derived.Test.YtdoodkabmeojmaaDoorRows
import Derived.WalkKit
import Derived.Below
import Derived.Shelf.Abstract
import Derived.Shelf.RegionOpen
import Derived.TacticsInMore
import Derived.LoopNIn
import Derived.LoopIn
import Derived.Deep.AppendLies
import Derived.Test.YtdoodkabmeojmaaDoorOwn
import Derived.Test.YtdoodkabmeojmaaDoorOwnConv
import Derived.WideKeyEntry
import Derived.DeepKeys4
import Derived.Laws.AppendOwn
import Derived.Test.YtdoodkabmeojmaaDoorArr
/- The walk over the program's get. -/
namespace Go.Proofs.YtdoodkabmeojmaaDoor
open Go.RowKit
set_option maxRecDepth 100000 in
set_option maxHeartbeats 1600000 in
theorem imp_get (g c x : Nat) (t : ByteArray) (s : RC) (w : World) (hok : RcOk s) (hc : c < 1600) (hx : x < 18446744073709551616) (hts : t.size ≤ 9223372036854775807) (hdec : DecP w g t s x) :
    Calls Tryd.prog 81 #[.pointer (some ⟨g, 0, none⟩), .int .i64 (c : Int)] w fun e w' => e = .returned (.bool (dbit s x c)) ∧ DecP w' g t (step s c (dbit s x c)) (dx (tbN t) s x c) ∧ w.grownBy w' (some g) := by
  obtain ⟨P, hP⟩ : ∃ P, P = part1 s c (dbit s x c) := ⟨_, rfl⟩
  have hpo := part1_ok s c (dbit s x c) hok
  rw [← hP] at hpo
  have HPS := hide hP
  have HNOK := hide (norm_ok P hpo.1 hpo.2.1 hpo.2.2.1 (by rw [hpo.2.2.2.2]; exact hpo.2.2.2.1))
  have HPN := hide (show P.n = s.n from hpo.2.2.2.2)
  obtain ⟨b1, b2⟩ := bound_in s c hok
  have hhi := hok.hi
  have hch := hok.ch c
  obtain ⟨b, hb⟩ : ∃ b, b = bound s c := ⟨_, rfl⟩
  have HB := hide (show s.size / 2048 * s.ch c = b from hb.symm)
  have HB2 := hide hb
  rw [← hb] at b1 b2
  have hr : w.rowIs g 122 1603 (cdF s.size s.ch x (.string (restOf t (s.n + 4)))) := hdec
  obtain ⟨V, hV⟩ : ∃ V, V = Value.string (restOf t (s.n + 4)) := ⟨_, rfl⟩
  rw [← hV] at hr
  have HV := hide hV
  have SB := hide (imp_bound g 122 s.size x c s.ch V w hhi hc (by omega) hr)
  rw [HB.out] at SB
  obtain ⟨x1, hx1⟩ : ∃ x1, x1 = dx1 s x c := ⟨_, rfl⟩
  have HX1E := hide hx1
  have hx1lt : x1 < 18446744073709551616 := by rw [hx1]; unfold dx1; split <;> omega
  by_cases hbx : b ≤ x
  · have hbx' : (b : Int) ≤ (x : Int) := by omega
    have HBIT := hide (show dbit s x c = true by unfold dbit; rw [← hb]; exact decide_eq_true hbx)
    have hx1' : x1 = x - b := by rw [hx1, dx1, ← hb, if_pos hbx]
    have kx : (x : Int) - (b : Int) = (x1 : Int) := by omega
    have kx2 : IntKind.u64.wrap ((x : Int) - (b : Int)) = (x1 : Int) := by rw [IntKind.wrap_u64]; omega
    have HPE := hide (show P = ⟨s.size - b, setCh s.ch c (chOne (s.ch c)), s.low + b, s.n⟩ by rw [HPS.out, HBIT.out, hb]; rfl)
    have HR := hide hr
    clear hP hpo hb hdec hV hx1 hx1' hr
    go_enter Tryd.func81, Tryd.ntmps81
    go_wp2_with fail
    refine SB.out.mono ?_
    rintro e w1 ⟨rfl, m, hw1⟩
    have R1 : w1.rowIs g 122 1603 (cdF s.size s.ch x V) := by rw [hw1]; exact HR.out
    have G1 : w.grownBy w1 (some g) := by rw [hw1]; exact ⟨rfl, rfl, rfl, Nat.le_refl _, fun _ _ _ => rfl⟩
    obtain ⟨_, c1, _, _⟩ := cd_cells R1
    have f1 := R1.frozen 1601
    have R2 := (cd_set R1).2.1 x1
    have G2 := grownBy_set (i := 1601) G1 (.int .u64 (x1 : Int))
    have SN := hide (imp_narrow g 122 s.size x1 c b true s.ch V (w1.setCell ⟨g, 1601, none⟩ (.int .u64 (x1 : Int))) hhi (by omega) hc (by omega) R2)
    have HG := hide G2
    clear hw1 R1 G1 SB R2 G2 HR
    go_wp2_with fail
    refine SN.out.mono ?_
    rintro e w3 ⟨rfl, r3, g3⟩
    have HROW := hide (show w3.rowIs g 122 1603 (cdF P.size P.ch x1 (.string (restOf t (P.n + 4)))) by rw [HPE.out, ← HV.out]; exact r3)
    have HBEL := hide (grownBy_trans HG.out g3)
    clear r3 g3 SN HG c1 f1 kx kx2
    have HPE2 := hide (show P = part1 s c true by rw [HPS.out, HBIT.out])
    go_wp2_with fail
    go_loopw [35] (fun _ wx => ∃ (u : RC) (y : Nat), Hid ((u = P ∧ y = x1) ∨ (u = norm P ∧ P.size < 16777216 ∧ y = (256 * x1 + tbN t (s.n + 4)) % 18446744073709551616)) ∧ Hid (DecP wx g t u y) ∧ Hid (w.grownBy wx (some g))) (fun _ wx => if size0 wx g < 16777216 then 1 else 0)
    case atStart => exact ⟨P, x1, .inl ⟨rfl, rfl⟩, HROW, HBEL⟩
    case round =>
      clear HROW HBEL
      obtain ⟨u, y, hu, hrow, hbel⟩ := hrel
      have hr : wr.rowIs g 122 1603 (cdF u.size u.ch y (.string (restOf t (u.n + 4)))) := hrow.out
      have hsw := hide (size0_of (cd_cells hr).1)
      by_cases hsz : u.size < 16777216
      · have huP : u = P ∧ y = x1 := by
          rcases hu.out with h | ⟨h, h2, _⟩
          · exact h
          · rw [h] at hsz; exact absurd hsz (by have := HNOK.out.lo; omega)
        have SW := hide (imp_widen_yes g 122 u.size y u.ch _ wr hsz hr)
        have HT := hide huP
        clear hr huP hrow hu
        go_wp2_with fail
        refine SW.out.mono ?_
        rintro e w1 ⟨rfl, r1, g1⟩
        have ST := hide (imp_take g (256 * u.size) y (u.n + 4) u.ch t w1 hts r1)
        have hb1 := hide (grownBy_trans hbel.out g1)
        clear r1 g1 SW hbel
        go_wp2_with fail
        refine ST.out.mono ?_
        rintro e w2 ⟨rfl, r2, g2⟩
        have hb3 := hide (grownBy_trans hb1.out g2)
        have hs3 := hide (size0_of (cd_cells r2).1)
        have hC3 := hide (show DecP w2 g t (norm P) ((256 * x1 + tbN t (s.n + 4)) % 18446744073709551616) by
          have h := HT.out
          rw [norm, if_pos (by rw [← h.1]; exact hsz), ← HPN.out, ← h.1, ← h.2]; exact r2)
        clear r2 g2 hb1 ST
        go_wp2_with fail
        go_roundw
        case rel => exact ⟨norm P, _, .inr ⟨rfl, by rw [← HT.out.1]; exact hsz, rfl⟩, hC3, hb3⟩
        case measure =>
          rw [hs3.out, hsw.out, if_pos hsz, if_neg (by have h := HNOK.out.lo; rw [norm, if_pos (by rw [← HT.out.1]; exact hsz)] at h; have h' : 16777216 ≤ 256 * P.size := h; rw [← HT.out.1] at h'; omega)]
          omega
      · have hfin := hide (show DecP wr g t (norm P) (if P.size < 16777216 then (256 * x1 + tbN t (s.n + 4)) % 18446744073709551616 else x1) by
          have h0 := hrow.out
          rcases hu.out with ⟨h1, h2⟩ | ⟨h1, h2, h3⟩
          · rw [norm, if_neg (by rw [← h1]; exact hsz), if_neg (by rw [← h1]; exact hsz), ← h1, ← h2]; exact h0
          · rw [if_pos h2, ← h1, ← h3]; exact h0)
        have SW := hide (imp_widen_no g 122 u.size y u.ch _ wr hsz hr)
        clear hr hu hrow
        go_wp2_with fail
        refine SW.out.mono ?_
        rintro e w1 ⟨rfl, rfl⟩
        go_wp2_with fail
        go_ret
        exact ⟨by rw [HBIT.out]; rfl, by rw [HBIT.out]; show DecP _ g t (norm (part1 s c _)) (dx (tbN t) s x c); rw [dx, HBIT.out, ← HPE2.out, ← HX1E.out]; exact hfin.out, hbel.out⟩
  · have hbx' : ¬ (b : Int) ≤ (x : Int) := by omega
    have HBIT := hide (show dbit s x c = false by unfold dbit; rw [← hb]; exact decide_eq_false hbx)
    have hx1' : x1 = x := by rw [hx1, dx1, ← hb, if_neg hbx]
    have HPE := hide (show P = ⟨b, setCh s.ch c (chNot (s.ch c)), s.low, s.n⟩ by rw [HPS.out, HBIT.out, hb]; rfl)
    have HX1 := hide hx1'
    have HR := hide hr
    clear hP hpo hb hdec hV hx1 hx1' hr
    go_enter Tryd.func81, Tryd.ntmps81
    go_wp2_with fail
    refine SB.out.mono ?_
    rintro e w1 ⟨rfl, m, hw1⟩
    have R1 : w1.rowIs g 122 1603 (cdF s.size s.ch x V) := by rw [hw1]; exact HR.out
    have G1 : w.grownBy w1 (some g) := by rw [hw1]; exact ⟨rfl, rfl, rfl, Nat.le_refl _, fun _ _ _ => rfl⟩
    obtain ⟨_, c1, _, _⟩ := cd_cells R1
    have SN := hide (imp_narrow g 122 s.size x c b false s.ch V w1 hhi (by omega) hc (by omega) R1)
    have HG := hide G1
    clear hw1 R1 G1 SB HR
    go_wp2_with fail
    refine SN.out.mono ?_
    rintro e w3 ⟨rfl, r3, g3⟩
    have HROW := hide (show w3.rowIs g 122 1603 (cdF P.size P.ch x1 (.string (restOf t (P.n + 4)))) by rw [HPE.out, ← HV.out, HX1.out]; exact r3)
    have HBEL := hide (grownBy_trans HG.out g3)
    clear r3 g3 SN HG c1
    have HPE2 := hide (show P = part1 s c false by rw [HPS.out, HBIT.out])
    go_wp2_with fail
    go_loopw [35] (fun _ wx => ∃ (u : RC) (y : Nat), Hid ((u = P ∧ y = x1) ∨ (u = norm P ∧ P.size < 16777216 ∧ y = (256 * x1 + tbN t (s.n + 4)) % 18446744073709551616)) ∧ Hid (DecP wx g t u y) ∧ Hid (w.grownBy wx (some g))) (fun _ wx => if size0 wx g < 16777216 then 1 else 0)
    case atStart => exact ⟨P, x1, .inl ⟨rfl, rfl⟩, HROW, HBEL⟩
    case round =>
      clear HROW HBEL
      obtain ⟨u, y, hu, hrow, hbel⟩ := hrel
      have hr : wr.rowIs g 122 1603 (cdF u.size u.ch y (.string (restOf t (u.n + 4)))) := hrow.out
      have hsw := hide (size0_of (cd_cells hr).1)
      by_cases hsz : u.size < 16777216
      · have huP : u = P ∧ y = x1 := by
          rcases hu.out with h | ⟨h, h2, _⟩
          · exact h
          · rw [h] at hsz; exact absurd hsz (by have := HNOK.out.lo; omega)
        have SW := hide (imp_widen_yes g 122 u.size y u.ch _ wr hsz hr)
        have HT := hide huP
        clear hr huP hrow hu
        go_wp2_with fail
        refine SW.out.mono ?_
        rintro e w1 ⟨rfl, r1, g1⟩
        have ST := hide (imp_take g (256 * u.size) y (u.n + 4) u.ch t w1 hts r1)
        have hb1 := hide (grownBy_trans hbel.out g1)
        clear r1 g1 SW hbel
        go_wp2_with fail
        refine ST.out.mono ?_
        rintro e w2 ⟨rfl, r2, g2⟩
        have hb3 := hide (grownBy_trans hb1.out g2)
        have hs3 := hide (size0_of (cd_cells r2).1)
        have hC3 := hide (show DecP w2 g t (norm P) ((256 * x1 + tbN t (s.n + 4)) % 18446744073709551616) by
          have h := HT.out
          rw [norm, if_pos (by rw [← h.1]; exact hsz), ← HPN.out, ← h.1, ← h.2]; exact r2)
        clear r2 g2 hb1 ST
        go_wp2_with fail
        go_roundw
        case rel => exact ⟨norm P, _, .inr ⟨rfl, by rw [← HT.out.1]; exact hsz, rfl⟩, hC3, hb3⟩
        case measure =>
          rw [hs3.out, hsw.out, if_pos hsz, if_neg (by have h := HNOK.out.lo; rw [norm, if_pos (by rw [← HT.out.1]; exact hsz)] at h; have h' : 16777216 ≤ 256 * P.size := h; rw [← HT.out.1] at h'; omega)]
          omega
      · have hfin := hide (show DecP wr g t (norm P) (if P.size < 16777216 then (256 * x1 + tbN t (s.n + 4)) % 18446744073709551616 else x1) by
          have h0 := hrow.out
          rcases hu.out with ⟨h1, h2⟩ | ⟨h1, h2, h3⟩
          · rw [norm, if_neg (by rw [← h1]; exact hsz), if_neg (by rw [← h1]; exact hsz), ← h1, ← h2]; exact h0
          · rw [if_pos h2, ← h1, ← h3]; exact h0)
        have SW := hide (imp_widen_no g 122 u.size y u.ch _ wr hsz hr)
        clear hr hu hrow
        go_wp2_with fail
        refine SW.out.mono ?_
        rintro e w1 ⟨rfl, rfl⟩
        go_wp2_with fail
        go_ret
        exact ⟨by rw [HBIT.out]; rfl, by rw [HBIT.out]; show DecP _ g t (norm (part1 s c _)) (dx (tbN t) s x c); rw [dx, HBIT.out, ← HPE2.out, ← HX1E.out]; exact hfin.out, hbel.out⟩
end Go.Proofs.YtdoodkabmeojmaaDoor
/- The tokens that come out of a code, as a list; what they make. No program is named here. -/
namespace Go.Proofs.YtdoodkabmeojmaaDoor
/-- A token, read: it, and the decoder behind it. -/
def dtok (tb : Nat → Nat) (st : RC × Nat) : Tok × (RC × Nat) :=
  if dbit st.1 st.2 0 = true then (⟨0, (((readG tb 300 6 (dnext tb st 0) 1).2 - 64 + 3 : Nat) : Int), (((readG tb 400 10 (readG tb 300 6 (dnext tb st 0) 1).1 1).2 - 1024 + 1 : Nat) : Int)⟩, (readG tb 400 10 (readG tb 300 6 (dnext tb st 0) 1).1 1).1)
  else (⟨(((readG tb 16 8 (dnext tb st 0) 1).2 - 256 : Nat) : Int), 0, 0⟩, (readG tb 16 8 (dnext tb st 0) 1).1)
/-- How many bytes a token makes. -/
def tsz (x : Tok) : Nat := (tokSize x.m).toNat
/-- The tokens, till so many bytes are made. -/
def dtoks (tb : Nat → Nat) (size : Nat) : Nat → RC × Nat → Nat → List Tok
  | 0, _, _ => []
  | k + 1, st, made => if made < size then (dtok tb st).1 :: dtoks tb size k (dtok tb st).2 (made + tsz (dtok tb st).1) else []
/-- What a token makes, behind what is there. -/
def growT (x : Tok) (b : List UInt8) : Option (List UInt8) :=
  if x.m = 0 then some (b ++ [UInt8.ofNat x.b.toNat]) else if b.length < x.f.toNat then none else some (copyN x.f.toNat x.m.toNat b)
def growL : List Tok → List UInt8 → Option (List UInt8)
  | [], b => some b
  | x :: l, b => (growT x b).bind (growL l)
theorem growL_app : ∀ l k b, growL (l ++ k) b = (growL l b).bind (growL k)
  | [], _, _ => rfl
  | x :: l, k, b => by
    show (growT x b).bind (growL (l ++ k)) = ((growT x b).bind (growL l)).bind (growL k)
    cases growT x b with
    | none => rfl
    | some c => exact growL_app l k c
/-- A token that is read: a byte, or a match. -/
theorem dtok_two (tb : Nat → Nat) (st : RC × Nat) : (∃ y : Nat, y < 256 ∧ (dtok tb st).1 = ⟨(y : Int), 0, 0⟩) ∨ ∃ M F : Nat, 3 ≤ M ∧ M ≤ 66 ∧ 1 ≤ F ∧ F ≤ 1024 ∧ (dtok tb st).1 = ⟨0, (M : Int), (F : Int)⟩ := by
  unfold dtok
  split
  · have h1 := (readG_node tb 300 6 (dnext tb st 0) 1).2
    have h2 := (readG_node tb 400 10 (readG tb 300 6 (dnext tb st 0) 1).1 1).2
    have e1 : (1 + 1) * 2 ^ 6 = 128 := rfl
    have e2 : (1 + 1) * 2 ^ 10 = 2048 := rfl
    exact .inr ⟨_, _, by omega, by omega, by omega, by omega, rfl⟩
  · have h1 := (readG_node tb 16 8 (dnext tb st 0) 1).2
    have e1 : (1 + 1) * 2 ^ 8 = 512 := rfl
    exact .inl ⟨_, by omega, rfl⟩
theorem tsz_byte (y : Int) : tsz ⟨y, 0, 0⟩ = 1 := rfl
theorem tsz_match (M F : Nat) (h : 3 ≤ M) : tsz ⟨0, (M : Int), (F : Int)⟩ = M := by
  show (tokSize (M : Int)).toNat = M
  unfold tokSize
  rw [if_neg (by omega)]; omega
theorem growT_byte (y : Nat) (b : List UInt8) : growT ⟨(y : Int), 0, 0⟩ b = some (b ++ [UInt8.ofNat y]) := rfl
theorem growT_match (M F : Nat) (b : List UInt8) (h : 3 ≤ M) : growT ⟨0, (M : Int), (F : Int)⟩ b = if b.length < F then none else some (copyN F M b) := by
  show (if (M : Int) = 0 then _ else if b.length < ((F : Int)).toNat then none else some (copyN ((F : Int)).toNat ((M : Int)).toNat b)) = _
  rw [if_neg (by omega), Int.toNat_natCast, Int.toNat_natCast]
theorem tsz_pos (tb : Nat → Nat) (st : RC × Nat) : 1 ≤ tsz (dtok tb st).1 ∧ tsz (dtok tb st).1 ≤ 66 := by
  rcases dtok_two tb st with ⟨y, _, e⟩ | ⟨M, F, h1, h2, _, _, e⟩
  · rw [e, tsz_byte]; omega
  · rw [e, tsz_match M F h1]; omega
theorem growT_len (tb : Nat → Nat) (st : RC × Nat) (b c : List UInt8) (h : growT (dtok tb st).1 b = some c) : c.length = b.length + tsz (dtok tb st).1 := by
  rcases dtok_two tb st with ⟨y, _, e⟩ | ⟨M, F, h1, h2, _, _, e⟩
  · rw [e, growT_byte] at h
    rw [e, tsz_byte, ← Option.some.inj h, List.length_append]; rfl
  · rw [e, growT_match M F b h1] at h
    split at h
    · cases h
    · rw [e, tsz_match M F h1, ← Option.some.inj h, copyN_len]
/-- All that comes out is what the tokens make. -/
theorem unpack_toks (tb : Nat → Nat) (many : Nat) : ∀ k st b, unpackG tb many k st b = growL (dtoks tb many k st b.length) b
  | 0, _, _ => rfl
  | k + 1, st, b => by
    unfold unpackG dtoks
    by_cases hlt : b.length < many
    · rw [if_pos hlt, if_pos hlt]
      show _ = (growT (dtok tb st).1 b).bind (growL (dtoks tb many k (dtok tb st).2 (b.length + tsz (dtok tb st).1)))
      cases hg : growT (dtok tb st).1 b with
      | none =>
        show _ = none
        by_cases hd : dbit st.1 st.2 0 = true
        · rw [if_pos hd]
          unfold dtok at hg
          rw [if_pos hd] at hg
          rw [growT_match _ _ b (by omega)] at hg
          split at hg
          · rename_i h; rw [if_pos h]
          · cases hg
        · unfold dtok at hg
          rw [if_neg hd] at hg
          rw [growT_byte] at hg; cases hg
      | some c =>
        show _ = growL (dtoks tb many k (dtok tb st).2 (b.length + tsz (dtok tb st).1)) c
        rw [← growT_len tb st b c hg, ← unpack_toks tb many k (dtok tb st).2 c]
        by_cases hd : dbit st.1 st.2 0 = true
        · rw [if_pos hd]
          unfold dtok at hg ⊢
          rw [if_pos hd] at hg ⊢
          rw [growT_match _ _ b (by omega)] at hg
          split at hg
          · cases hg
          · rename_i h
            rw [if_neg h, Option.some.inj hg]
        · rw [if_neg hd]
          unfold dtok at hg ⊢
          rw [if_neg hd] at hg ⊢
          rw [growT_byte] at hg
          rw [Option.some.inj hg]
    · rw [if_neg hlt, if_neg hlt]; rfl
theorem dtok_ok (tb : Nat → Nat) (st : RC × Nat) (m : Nat) (h : DecOk st m) : DecOk (dtok tb st).2 (m + 17) := by
  have h1 := DecOk.next tb st 0 m h
  unfold dtok
  split
  · have h2 := readG_ok tb 300 6 (dnext tb st 0) 1 _ h1
    exact readG_ok tb 400 10 _ 1 _ h2
  · have h2 := readG_ok tb 16 8 (dnext tb st 0) 1 _ h1
    exact ⟨h2.ok, h2.x, Nat.le_trans h2.n (by omega)⟩
end Go.Proofs.YtdoodkabmeojmaaDoor
/- The program's below. -/
namespace Go.Proofs.YtdoodkabmeojmaaDoor
open Go.RowKit
set_option maxRecDepth 100000 in
set_option maxHeartbeats 400000 in
theorem imp_below (node : Nat) (one : Bool) (w : World) (h : node < 100000) :
    Calls Tryd.prog 59 #[.int .i64 (node : Int), .bool one] w fun e w' => e = .returned (.int .i64 ((2 * node + bN one : Nat) : Int)) ∧ w = w' := by
  cases one with
  | true =>
    have e : ((2 * node + bN true : Nat) : Int) = 2 * (node : Int) + 1 := by show ((2 * node + 1 : Nat) : Int) = _; omega
    rw [e]
    go_enter Tryd.func59, Tryd.ntmps59
    go_wp2_with fail
    go_ret
    exact ⟨rfl, rfl⟩
  | false =>
    have e : ((2 * node + bN false : Nat) : Int) = 2 * (node : Int) := by show ((2 * node + 0 : Nat) : Int) = _; omega
    rw [e]
    go_enter Tryd.func59, Tryd.ntmps59
    go_wp2_with fail
    go_ret
    exact ⟨rfl, rfl⟩
end Go.Proofs.YtdoodkabmeojmaaDoor
/- The program's getNum and getToken. -/
namespace Go.Proofs.YtdoodkabmeojmaaDoor
open Go.RowKit
theorem DecP.kept {w w' : World} {g x : Nat} {t : ByteArray} {s : RC} (h : DecP w g t s x) (hg : w'.heap[g]? = w.heap[g]?) : DecP w' g t s x := h.of_block hg
theorem DecP.lt {w : World} {g x : Nat} {t : ByteArray} {s : RC} (h : DecP w g t s x) : g < w.heap.size := World.rowIs.lt h
theorem set3_blk (w : World) (g : Nat) (x y z a b c : Value) (t : TypeId) (h : w.heap[g]? = some (.cells #[x, y, z] t)) : (((w.setCell ⟨g, 0, none⟩ a).setCell ⟨g, 1, none⟩ b).setCell ⟨g, 2, none⟩ c).heap[g]? = some (.cells #[a, b, c] t) := by
  simp [World.setCell, Array.getElem?_modify, h]
theorem set3_far (w : World) (g k : Nat) (a b c : Value) (h : k ≠ g) : (((w.setCell ⟨g, 0, none⟩ a).setCell ⟨g, 1, none⟩ b).setCell ⟨g, 2, none⟩ c).heap[k]? = w.heap[k]? := by
  simp [World.setCell, Array.getElem?_modify, Ne.symm h]
theorem grownBy_set3 {w w1 : World} {r : Option Nat} (h : w.grownBy w1 r) (g : Nat) (hg : w.heap.size ≤ g) (a b c : Value) : w.grownBy (((w1.setCell ⟨g, 0, none⟩ a).setCell ⟨g, 1, none⟩ b).setCell ⟨g, 2, none⟩ c) r :=
  ⟨h.os, h.tape, h.output, by have := h.size; simpa [World.setCell] using this, fun k hk hne => (set3_far w1 g k a b c (by omega)).trans (h.block k hk hne)⟩
set_option maxRecDepth 100000 in
set_option maxHeartbeats 800000 in
theorem imp_getNum (g many base m P2 : Nat) (t : ByteArray) (st : RC × Nat) (w : World) (hP : P2 = 2 ^ many) (hm : many ≤ 10) (hb : base ≤ 400) (hok : DecOk st m) (hts : t.size ≤ 9223372036854775807) (hdec : DecP w g t st.1 st.2) :
    Calls Tryd.prog 82 #[.pointer (some ⟨g, 0, none⟩), .int .i64 (base : Int), .int .i64 (many : Int)] w fun e w' => e = .returned (.int .i64 (((readG (tbN t) base many st 1).2 - P2 : Nat) : Int)) ∧ DecP w' g t (readG (tbN t) base many st 1).1.1 (readG (tbN t) base many st 1).1.2 ∧ w.grownBy w' (some g) := by
  have hP1024 : P2 ≤ 1024 := by rw [hP]; exact Nat.le_trans (Nat.pow_le_pow_right (by omega) hm) (by decide)
  have hn1 := readG_node (tbN t) base many st 1
  rw [← hP] at hn1
  obtain ⟨R, hR⟩ : ∃ R, R = readG (tbN t) base many st 1 := ⟨_, rfl⟩
  rw [← hR] at hn1 ⊢
  have HR := hide hR
  have HD := hide hdec
  have HPP := hide hP
  clear hR hdec hP
  go_enter Tryd.func82, Tryd.ntmps82
  go_wp2_with fail
  go_loopw [7, 9] (fun nd i wx => ∃ (k node : Nat) (s : RC × Nat), k ≤ many ∧ node < 2 ^ (k + 1) ∧ i = .int .i64 (k : Int) ∧ nd = .int .i64 (node : Int) ∧ Hid (readG (tbN t) base (many - k) s node = R) ∧ Hid (DecOk s (m + k)) ∧ Hid (DecP wx g t s.1 s.2) ∧ Hid (w.grownBy wx (some g))) (fun _ i _ => many - (intOf i).toNat)
  case atStart => exact ⟨0, 1, st, Nat.zero_le _, by decide, rfl, rfl, HR.out.symm, hok, HD, World.grownBy.refl _ _⟩
  case round =>
    clear HD
    obtain ⟨k, node, s, hk, hnd, rfl, rfl, hre, hso, hd, htw⟩ := hrel
    have hnode : node < 2048 := Nat.lt_of_lt_of_le hnd (Nat.le_trans (Nat.pow_le_pow_right (by omega) (show k + 1 ≤ 11 by omega)) (by decide))
    by_cases hlt : k < many
    · have hlt' : (k : Int) < (many : Int) := by omega
      have hnode2 : node < 1024 := Nat.lt_of_lt_of_le hnd (Nat.le_trans (Nat.pow_le_pow_right (by omega) (show k + 1 ≤ 10 by omega)) (by decide))
      obtain ⟨c, hc⟩ : ∃ c, c = base + node := ⟨_, rfl⟩
      have s1 : (base : Int) + (node : Int) = (c : Int) := by omega
      have SB := hide (imp_get g c s.2 t s.1 wr hso.out.ok (by omega) hso.out.x hts hd.out)
      obtain ⟨bit, hbit⟩ : ∃ b, b = dbit s.1 s.2 c := ⟨_, rfl⟩
      have HRE := hide (show readG (tbN t) base (many - (k + 1)) (dnext (tbN t) s c) (2 * node + bN bit) = R by
        rw [← hre.out, show many - k = (many - (k + 1)) + 1 by omega, hbit, hc]; rfl)
      have HSO := hide (DecOk.next (tbN t) s c (m + k) hso.out)
      have HND := hide (show 2 * node + bN bit < 2 ^ (k + 1 + 1) by
        have := bN_le bit
        rw [Nat.pow_succ]; omega)
      rw [← hbit] at SB
      have HDE := hide (show dnext (tbN t) s c = (step s.1 c bit, dx (tbN t) s.1 s.2 c) by unfold dnext; rw [← hbit])
      have hcb : (c : Int) ≤ 2000 := by omega
      have hnb : (node : Int) ≤ 1024 := by omega
      clear hbit hc hre hso hd hnd
      go_wp2_with fail
      refine SB.out.mono ?_
      rintro e w2 ⟨rfl, hd2, ht2⟩
      have HD2 := hide (show DecP w2 g t (dnext (tbN t) s c).1 (dnext (tbN t) s c).2 by rw [HDE.out]; exact hd2)
      have HT2 := hide (grownBy_trans htw.out ht2)
      clear hd2 ht2 htw SB HDE
      go_wp2_with fail
      refine (imp_below node bit w2 (by omega)).mono ?_
      rintro e w3 ⟨rfl, rfl⟩
      obtain ⟨nn, hnn⟩ : ∃ nn, nn = 2 * node + bN bit := ⟨_, rfl⟩
      rw [← hnn] at HRE HND ⊢
      clear hnn
      go_wp2_with fail
      go_roundw
      case rel => exact ⟨k + 1, nn, dnext (tbN t) s c, by omega, HND.out, by go_num, rfl, HRE, HSO, HD2, HT2⟩
      case measure => simp [intOf]; omega
    · have hlt' : ¬ (k : Int) < (many : Int) := by omega
      have hkm : k = many := by omega
      have e := hre.out
      rw [hkm, Nat.sub_self] at e
      have e2 : R = (s, node) := e.symm
      have HD2 := hide (show DecP wr g t R.1.1 R.1.2 by rw [e2]; exact hd.out)
      have hn2 : R.2 = node := by rw [e2]
      rw [hn2] at hn1
      have HN2 := hide hn2
      clear e e2 hre hso hd hnd hn2
      have e1 : (2 : Int) ^ many = (P2 : Int) := by rw [HPP.out]; simp
      obtain ⟨d, hd⟩ : ∃ d, d = node - P2 := ⟨_, rfl⟩
      have e3 : (node : Int) - (P2 : Int) = (d : Int) := by omega
      have hdb : (d : Int) ≤ 2048 := by omega
      have hpb : (P2 : Int) ≤ 1024 := by omega
      have hnb : (node : Int) ≤ 2048 := by omega
      have HDD := hide hd
      clear hd hkm
      go_wp2_with fail
      go_ret
      exact ⟨by rw [HN2.out, ← HDD.out]; rfl, HD2.out, htw.out⟩
set_option maxRecDepth 100000 in
set_option maxHeartbeats 1600000 in
theorem imp_getToken (g m : Nat) (t : ByteArray) (st : RC × Nat) (w : World) (hok : DecOk st m) (hts : t.size ≤ 9223372036854775807) (hdec : DecP w g t st.1 st.2) :
    Calls Tryd.prog 77 #[.pointer (some ⟨g, 0, none⟩)] w fun e w' => e = .returned (tokV (dtok (tbN t) st).1) ∧ DecP w' g t (dtok (tbN t) st).2.1 (dtok (tbN t) st).2.2 ∧ w.grownBy w' (some g) := by
  obtain ⟨z, hz⟩ : ∃ z, z = w.heap.size := ⟨_, rfl⟩
  have hgl := hdec.lt
  have hgz : g < z := by omega
  have q1 : (w.alloc (.cells #[.int .i64 0, .int .i64 0, .int .i64 0] 38)).heap[z]? = some (.cells #[.int .i64 0, .int .i64 0, .int .i64 0] 38) := by rw [hz]; exact heap_alloc_new w _
  have s1 : (w.alloc (.cells #[.int .i64 0, .int .i64 0, .int .i64 0] 38)).heap.size = z + 1 := by simp [hz]
  have d1 : DecP (w.alloc (.cells #[.int .i64 0, .int .i64 0, .int .i64 0] 38)) g t st.1 st.2 := hdec.kept (Below.heap_alloc _ _ _ hgl)
  have g1 : w.grownBy (w.alloc (.cells #[.int .i64 0, .int .i64 0, .int .i64 0] 38)) (some g) := grownBy_alloc (World.grownBy.refl _ _) _
  have SB := hide (imp_get g 0 st.2 t st.1 (w.alloc (.cells #[.int .i64 0, .int .i64 0, .int .i64 0] 38)) hok.ok (by omega) hok.x hts d1)
  have HK2 := hide (DecOk.next (tbN t) st 0 _ hok)
  have HZ := hide hz
  have H1 := hide (And.intro q1 (And.intro s1 g1))
  obtain ⟨bit, hbit⟩ : ∃ b, b = dbit st.1 st.2 0 := ⟨_, rfl⟩
  rw [← hbit] at SB
  have HDE := hide (show dnext (tbN t) st 0 = (step st.1 0 bit, dx (tbN t) st.1 st.2 0) by unfold dnext; rw [← hbit])
  have HTK := hide (show dtok (tbN t) st = if bit = true then (⟨0, (((readG (tbN t) 300 6 (dnext (tbN t) st 0) 1).2 - 64 + 3 : Nat) : Int), (((readG (tbN t) 400 10 (readG (tbN t) 300 6 (dnext (tbN t) st 0) 1).1 1).2 - 1024 + 1 : Nat) : Int)⟩, (readG (tbN t) 400 10 (readG (tbN t) 300 6 (dnext (tbN t) st 0) 1).1 1).1)
  else (⟨(((readG (tbN t) 16 8 (dnext (tbN t) st 0) 1).2 - 256 : Nat) : Int), 0, 0⟩, (readG (tbN t) 16 8 (dnext (tbN t) st 0) 1).1) by rw [hbit]; rfl)
  clear hz q1 s1 d1 g1 hdec hbit hok
  go_enter Tryd.func77, Tryd.ntmps77
  go_wp2_with fail
  refine SB.out.mono ?_
  rw [← HZ.out]
  obtain ⟨q1, s1, g1⟩ := H1.out
  generalize w.alloc (.cells #[.int .i64 0, .int .i64 0, .int .i64 0] 38) = W1 at *
  rintro e w2 ⟨rfl, hd2, ht2⟩
  have HD2 := hide (show DecP w2 g t (dnext (tbN t) st 0).1 (dnext (tbN t) st 0).2 by rw [HDE.out]; exact hd2)
  have hs2 := ht2.size
  have q2 := hide ((ht2.block z (by omega) (fun e => by cases e; omega)).trans q1)
  have G2 := hide (grownBy_trans g1 ht2)
  clear hd2 ht2 SB HDE q1 g1 H1
  cases bit with
  | false =>
    have SR := hide (imp_getNum g 8 16 (m + 1) 256 t (dnext (tbN t) st 0) w2 rfl (by omega) (by omega) HK2.out hts HD2.out)
    have hnn := readG_node (tbN t) 16 8 (dnext (tbN t) st 0) 1
    have HT2 := hide (show dtok (tbN t) st = (⟨(((readG (tbN t) 16 8 (dnext (tbN t) st 0) 1).2 - 256 : Nat) : Int), 0, 0⟩, (readG (tbN t) 16 8 (dnext (tbN t) st 0) 1).1) by rw [HTK.out]; rfl)
    obtain ⟨R, hR⟩ : ∃ R, R = readG (tbN t) 16 8 (dnext (tbN t) st 0) 1 := ⟨_, rfl⟩
    rw [← hR] at SR hnn HT2
    obtain ⟨y, hy⟩ : ∃ y, y = R.2 - 256 := ⟨_, rfl⟩
    rw [← hy] at SR HT2
    have hy8 : y < 256 := by have h1 := hnn.2; have e : (1 + 1) * 2 ^ 8 = 512 := rfl; omega
    clear hR hy hnn HK2 HD2 HTK
    go_wp2_with fail
    refine SR.out.mono ?_
    rintro e w3 ⟨rfl, hd3, ht3⟩
    have hs3 := ht3.size
    have q3 := (ht3.block z (by omega) (fun e => by cases e; omega)).trans q2.out
    have c0 : w3.cell? ⟨z, 0, none⟩ = some (.int .i64 0) := by simp [World.cell?, q3]
    have c1 : w3.cell? ⟨z, 1, none⟩ = some (.int .i64 0) := by simp [World.cell?, q3]
    have c2 : w3.cell? ⟨z, 2, none⟩ = some (.int .i64 0) := by simp [World.cell?, q3]
    have f0 : w3.frozen? ⟨z, 0, none⟩ = false := by simp [World.frozen?, q3]
    have f1 : w3.frozen? ⟨z, 1, none⟩ = false := by simp [World.frozen?, q3]
    have f2 : w3.frozen? ⟨z, 2, none⟩ = false := by simp [World.frozen?, q3]
    have HD3 := hide hd3
    have G3 := hide (grownBy_trans G2.out ht3)
    have Q3 := hide q3
    clear hd3 ht3 SR q2 G2 q3
    go_wp2_with fail
    have fin := set3_blk w3 z _ _ _ (.int .i64 (y : Int)) (.int .i64 0) (.int .i64 0) _ Q3.out
    have HDX := HD3.out.kept (set3_far w3 z g (.int .i64 (y : Int)) (.int .i64 0) (.int .i64 0) (by omega))
    have HGX := grownBy_set3 G3.out z (by rw [HZ.out]; exact Nat.le_refl _) (.int .i64 (y : Int)) (.int .i64 0) (.int .i64 0)
    rw [HT2.out]
    exact bodyPost_ret (results_cell_row Tryd.results77 _ _ z 38 #[.int .i64 (y : Int), .int .i64 0, .int .i64 0] (0, 0) _ rfl fin Tryd.underlying38 rfl (by kernel_rfl)) rfl ⟨rfl, HDX, HGX⟩
  | true =>
    have SR := hide (imp_getNum g 6 300 (m + 1) 64 t (dnext (tbN t) st 0) w2 rfl (by omega) (by omega) HK2.out hts HD2.out)
    have hnn := readG_node (tbN t) 300 6 (dnext (tbN t) st 0) 1
    have HK3 := hide (readG_ok (tbN t) 300 6 (dnext (tbN t) st 0) 1 _ HK2.out)
    have HT2 := hide (show dtok (tbN t) st = (⟨0, (((readG (tbN t) 300 6 (dnext (tbN t) st 0) 1).2 - 64 + 3 : Nat) : Int), (((readG (tbN t) 400 10 (readG (tbN t) 300 6 (dnext (tbN t) st 0) 1).1 1).2 - 1024 + 1 : Nat) : Int)⟩, (readG (tbN t) 400 10 (readG (tbN t) 300 6 (dnext (tbN t) st 0) 1).1 1).1) by rw [HTK.out]; rfl)
    obtain ⟨R, hR⟩ : ∃ R, R = readG (tbN t) 300 6 (dnext (tbN t) st 0) 1 := ⟨_, rfl⟩
    rw [← hR] at SR hnn HT2 HK3
    obtain ⟨y, hy⟩ : ∃ y, y = R.2 - 64 := ⟨_, rfl⟩
    rw [← hy] at SR HT2
    have hy6 : y < 64 := by have h1 := hnn.2; have e : (1 + 1) * 2 ^ 6 = 128 := rfl; omega
    obtain ⟨M, hM⟩ : ∃ M, M = y + 3 := ⟨_, rfl⟩
    rw [← hM] at HT2
    have hyw : (y : Int) + (3 : Int) = (M : Int) := by omega
    have hyw2 : IntKind.i64.wrap ((y : Int) + (3 : Int)) = (M : Int) := by rw [IntKind.wrap_i64]; omega
    have hM66 : (M : Int) ≤ 66 := by omega
    clear hR hy hnn HK2 HD2 HTK hM
    go_wp2_with fail
    refine SR.out.mono ?_
    rintro e w3 ⟨rfl, hd3, ht3⟩
    have hs3 := ht3.size
    have q3 := hide ((ht3.block z (by omega) (fun e => by cases e; omega)).trans q2.out)
    have G3 := hide (grownBy_trans G2.out ht3)
    have SR2 := hide (imp_getNum g 10 400 _ 1024 t R.1 w3 rfl (by omega) (by omega) HK3.out hts hd3)
    have hnn := readG_node (tbN t) 400 10 R.1 1
    obtain ⟨R2, hR⟩ : ∃ R2, R2 = readG (tbN t) 400 10 R.1 1 := ⟨_, rfl⟩
    rw [← hR] at SR2 hnn HT2
    obtain ⟨f, hf⟩ : ∃ f, f = R2.2 - 1024 := ⟨_, rfl⟩
    rw [← hf] at SR2 HT2
    have hf10 : f < 1024 := by have h1 := hnn.2; have e : (1 + 1) * 2 ^ 10 = 2048 := rfl; omega
    obtain ⟨F, hF⟩ : ∃ F, F = f + 1 := ⟨_, rfl⟩
    rw [← hF] at HT2
    have hfw : (f : Int) + (1 : Int) = (F : Int) := by omega
    have hfw2 : IntKind.i64.wrap ((f : Int) + (1 : Int)) = (F : Int) := by rw [IntKind.wrap_i64]; omega
    have hF1024 : (F : Int) ≤ 1024 := by omega
    clear hF hR hf hnn SR HK3 hd3 ht3 q2 G2
    go_wp2_with fail
    refine SR2.out.mono ?_
    rintro e w4 ⟨rfl, hd4, ht4⟩
    have hs4 := ht4.size
    have q4 := (ht4.block z (by omega) (fun e => by cases e; omega)).trans q3.out
    have c0 : w4.cell? ⟨z, 0, none⟩ = some (.int .i64 0) := by simp [World.cell?, q4]
    have c1 : w4.cell? ⟨z, 1, none⟩ = some (.int .i64 0) := by simp [World.cell?, q4]
    have c2 : w4.cell? ⟨z, 2, none⟩ = some (.int .i64 0) := by simp [World.cell?, q4]
    have f0 : w4.frozen? ⟨z, 0, none⟩ = false := by simp [World.frozen?, q4]
    have f1 : w4.frozen? ⟨z, 1, none⟩ = false := by simp [World.frozen?, q4]
    have f2 : w4.frozen? ⟨z, 2, none⟩ = false := by simp [World.frozen?, q4]
    have HD4 := hide hd4
    have G4 := hide (grownBy_trans G3.out ht4)
    have Q3 := hide q4
    clear hd4 ht4 SR2 q3 G3 q4
    go_wp2_with fail
    have fin := set3_blk w4 z _ _ _ (.int .i64 0) (.int .i64 (M : Int)) (.int .i64 (F : Int)) _ Q3.out
    have HDX := HD4.out.kept (set3_far w4 z g (.int .i64 0) (.int .i64 (M : Int)) (.int .i64 (F : Int)) (by omega))
    have HGX := grownBy_set3 G4.out z (by rw [HZ.out]; exact Nat.le_refl _) (.int .i64 0) (.int .i64 (M : Int)) (.int .i64 (F : Int))
    rw [HT2.out]
    exact bodyPost_ret (results_cell_row Tryd.results77 _ _ z 38 #[.int .i64 0, .int .i64 (M : Int), .int .i64 (F : Int)] (0, 0) _ rfl fin Tryd.underlying38 rfl (by kernel_rfl)) rfl ⟨rfl, HDX, HGX⟩
end Go.Proofs.YtdoodkabmeojmaaDoor
/- The walks over the program's isMatch and size. -/
namespace Go.Proofs.YtdoodkabmeojmaaDoor
open Go.RowKit
set_option maxRecDepth 100000 in
set_option maxHeartbeats 400000 in
theorem imp_isMatch (b m f : Int) (w : World) :
    Calls Tryd.prog 35 #[.agg #[.int .i64 b, .int .i64 m, .int .i64 f]] w fun e w' => e = .returned (.bool (m != 0)) ∧ Below w.heap.size w w' := by
  go_enter Tryd.func35, Tryd.ntmps35
  go_wp2_with fail
  go_ret
  exact ⟨rfl, (Below.refl _ _).alloc (Nat.le_refl _) _⟩
set_option maxRecDepth 100000 in
set_option maxHeartbeats 400000 in
theorem imp_size (b m f : Int) (w : World) :
    Calls Tryd.prog 33 #[.agg #[.int .i64 b, .int .i64 m, .int .i64 f]] w fun e w' => e = .returned (.int .i64 (tokSize m)) ∧ Below w.heap.size w w' := by
  have SI := hide (fun w => imp_isMatch b m f w)
  by_cases hm : m = 0
  · have hd : (m != 0) = false := by rw [hm]; rfl
    have HE := hide (show tokSize m = 1 from if_pos hm)
    rw [hd] at SI
    clear hm
    go_enter Tryd.func33, Tryd.ntmps33
    go_wp2_with fail
    refine (SI.out _).mono ?_
    rintro e w1 ⟨rfl, hb⟩
    go_wp2_with fail
    go_ret
    exact ⟨by rw [HE.out]; rfl, ((Below.refl _ _).alloc (Nat.le_refl _) _).trans (hb.mono (by simp))⟩
  · have hd : (m != 0) = true := by simpa using hm
    have HE := hide (show tokSize m = m from if_neg hm)
    rw [hd] at SI
    clear hm
    go_enter Tryd.func33, Tryd.ntmps33
    go_wp2_with fail
    refine (SI.out _).mono ?_
    rintro e w1 ⟨rfl, hb⟩
    have c1 := (hb.cell (p := ⟨w.heap.size, 1, none⟩) (by simp)).trans (show (w.alloc (.cells #[.int .i64 b, .int .i64 m, .int .i64 f] 38)).cell? ⟨w.heap.size, 1, none⟩ = some (.int .i64 m) by simp)
    go_wp2_with fail
    go_ret
    exact ⟨by rw [HE.out]; rfl, ((Below.refl _ _).alloc (Nat.le_refl _) _).trans (hb.mono (by simp))⟩
end Go.Proofs.YtdoodkabmeojmaaDoor
/- The program's (*decoder).tokens: the function that it hands back hands on the tokens that come out of a code; the decoder is its own meanwhile. -/
namespace Go.Proofs.YtdoodkabmeojmaaDoor
open Go Go.RowKit Go.Shelf
attribute [local go_sem] Oper.semAt_some
theorem imp_tokens (g size : Nat) (w : World) :
    Calls Tryd.prog 66 #[.pointer (some ⟨g, 0, none⟩), .int .i64 (size : Int)] w fun e w' => e = .returned (.func (.func 76) #[] #[.pointer (some ⟨w.heap.size + 1, 0, none⟩), .pointer (some ⟨w.heap.size, 0, none⟩)]) ∧ w' = (w.alloc (.cells #[.pointer (some ⟨g, 0, none⟩)] 88)).alloc (.cells #[.int .i64 (size : Int)] 3) := by
  go_enter Tryd.func66, Tryd.ntmps66
  go_wp2_with fail
  go_ret
  exact ⟨rfl, rfl⟩
set_option maxRecDepth 100000 in
set_option maxHeartbeats 3200000 in
theorem dtoks1_in (n l Bs Bd g size : Nat) (hn : 1 ≤ n) (t : ByteArray) (h4 : size ≤ 4000) (hts : t.size ≤ 9223372036854775807) (st0 : RC × Nat) (hok0 : DecOk st0 0) (J Jx : (Nat → Prop) → List Tok → World → Prop) (hJ : StandsM J)
    (hY : ∀ M pre x W1, J M pre W1 → (pre ++ [x]) <+: dtoks (tbN t) size size st0 0 → YieldAt Fence.wide (n - 1) Tryd.prog l #[tokV x] W1 fun e W' =>
      (e = .returned (.bool true) ∧ J M (pre ++ [x]) W' ∧ KeptM M W1 W') ∨ (e = .returned (.bool false) ∧ Jx M (pre ++ [x]) W'))
    (W : World) (hBs : W.heap[Bs]? = some (.cells #[.int .i64 (size : Int)] 3)) (hBd : W.heap[Bd]? = some (.cells #[.pointer (some ⟨g, 0, none⟩)] 88)) (hD : DecP W g t st0.1 st0.2) (hgs : g ≠ Bs) (hgd : g ≠ Bd) (h0 : J (fun k => k = Bs ∨ k = Bd ∨ k = g) [] W) :
    CallsIn Fence.wide n Tryd.prog 76 #[.func (.yield l) #[] #[], .pointer (some ⟨Bs, 0, none⟩), .pointer (some ⟨Bd, 0, none⟩)] W fun e W' => (∃ v, e = .returned v) ∧
      ((∃ M xs, xs = dtoks (tbN t) size size st0 0 ∧ J M xs W') ∨ (∃ M pre, pre <+: dtoks (tbN t) size size st0 0 ∧ Jx M pre W')) := by
  have h4' : (size : Int) ≤ 4000 := by omega
  obtain ⟨T, hT⟩ : ∃ T, T = dtoks (tbN t) size size st0 0 := ⟨_, rfl⟩
  rw [← hT] at hY ⊢
  have HT := hide hT
  have j0 := hide h0
  have d0 := hide hD
  have b0 := hide (And.intro hBs hBd)
  have k0 := hide hok0
  have l0 := hide (show ∀ k, (k = Bs ∨ k = Bd ∨ k = g) → k < W.heap.size from fun k hk => by
    have h1 := (Array.getElem?_eq_some_iff.1 hBs).1
    have h2 := (Array.getElem?_eq_some_iff.1 hBd).1
    have h3 := hD.lt
    rcases hk with h | h | h <;> omega)
  have HY := hide hY
  have HJ := hide hJ
  clear h0 hD hBs hBd hok0 hY hJ hT
  refine callsIn_of_wp Tryd.func76 rfl trivial ?_ rfl
  simp only [Tryd.ntmps76, List.size_toArray, List.length_cons, List.length_nil, Nat.reduceAdd, Nat.reduceSub, Array.replicate_succ, Array.replicate_zero, List.push_toArray, List.append_toArray, List.nil_append, List.cons_append]
  gi_wp2_with fail
  gi_loopw [4] (fun i wx => ∃ (made k : Nat) (st : RC × Nat) (l : List Tok) (M : Nat → Prop), i = .int .i64 made ∧ made ≤ 4066 ∧ size ≤ made + k ∧ Hid (l ++ dtoks (tbN t) size k st made = T) ∧ Hid (J M l wx) ∧ Hid (∃ m, DecOk st m) ∧ Hid (DecP wx g t st.1 st.2) ∧ Hid (M Bs ∧ M Bd ∧ M g) ∧ Hid (wx.heap[Bs]? = some (.cells #[.int .i64 (size : Int)] 3) ∧ wx.heap[Bd]? = some (.cells #[.pointer (some ⟨g, 0, none⟩)] 88)) ∧ Hid (∀ k, M k → k < wx.heap.size)) (fun i _ => size - (intOf i).toNat)
  case atStart => exact ⟨0, size, st0, [], _, rfl, by omega, by omega, HT.out.symm, j0, ⟨0, k0.out⟩, d0, ⟨.inl rfl, .inr (.inl rfl), .inr (.inr rfl)⟩, b0, l0⟩
  case round =>
    clear j0 d0 b0 k0 l0
    obtain ⟨made, k, st, l2, M, rfl, hm66, hsk, hpl, j1, j2, j3, j4, j5, j6⟩ := hrel
    have cS : wr.cell? ⟨Bs, 0, none⟩ = some (.int .i64 (size : Int)) := by simp [World.cell?, j5.out.1]
    have cD : wr.cell? ⟨Bd, 0, none⟩ = some (.pointer (some ⟨g, 0, none⟩)) := by simp [World.cell?, j5.out.2]
    by_cases hlt : made < size
    · have hlt' : (made : Int) < (size : Int) := by omega
      obtain ⟨k', rfl⟩ : ∃ k', k = k' + 1 := ⟨k - 1, by omega⟩
      obtain ⟨mm, hok⟩ := j2.out
      have ST := hide (imp_getToken g mm t st wr hok hts j3.out)
      have HK2 := hide (dtok_ok (tbN t) st mm hok)
      have hts2 := tsz_pos (tbN t) st
      have HDT := hide (show dtoks (tbN t) size (k' + 1) st made = (dtok (tbN t) st).1 :: dtoks (tbN t) size k' (dtok (tbN t) st).2 (made + tsz (dtok (tbN t) st).1) from if_pos hlt)
      obtain ⟨⟨⟨tb, tm, tf⟩, st2⟩, hTK⟩ : ∃ TK, TK = dtok (tbN t) st := ⟨_, rfl⟩
      rw [← hTK] at ST HK2 hts2 HDT
      simp only at ST HK2 hts2 HDT
      obtain ⟨sN, hsN⟩ : ∃ sN, sN = tsz ⟨tb, tm, tf⟩ := ⟨_, rfl⟩
      rw [← hsN] at hts2 HDT
      have hsz : tokSize tm = (sN : Int) := by
        have h1 : (tokSize tm).toNat = sN := hsN.symm
        omega
      have HPN := hide (show (l2 ++ [(⟨tb, tm, tf⟩ : Tok)]) ++ dtoks (tbN t) size k' st2 (made + sN) = T by
        rw [← hpl.out, HDT.out, List.append_assoc]; rfl)
      have SS := hide (show ∀ u : World, Calls Tryd.prog 33 #[.agg #[.int .i64 tb, .int .i64 tm, .int .i64 tf]] u (fun e w' => e = .returned (.int .i64 (sN : Int)) ∧ Below u.heap.size u w') from fun u => by
        have h := imp_size tb tm tf u
        rw [hsz] at h
        exact h)
      have hgl := j3.out.lt
      obtain ⟨hs1, hs66⟩ := hts2
      clear hTK hsN hsz hpl HDT hok j2
      gi_wp2_with fail
      refine ⟨trivial, (callsIn_wide.2 ST.out).mono ?_⟩
      rintro e w1 ⟨rfl, hd1, hg1⟩
      simp only [tokV]
      obtain ⟨K, hK⟩ : ∃ K, K = w1.heap.size := ⟨_, rfl⟩
      have hk1 := hg1.size
      obtain ⟨m0, m1, m2⟩ := j4.out
      have hBsl := j6.out Bs m0
      have hBdl := j6.out Bd m1
      have mv : Moves M wr (w1.alloc (.cells #[.int .i64 tb, .int .i64 tm, .int .i64 tf] 38)) := ⟨hg1.os, hg1.tape, hg1.output, by simp; omega, fun k hk hm => (Below.heap_alloc _ _ k (by omega)).trans (hg1.block k hk (fun e => by cases e; exact hm m2))⟩
      have z2 : (w1.alloc (.cells #[.int .i64 tb, .int .i64 tm, .int .i64 tf] 38)).heap.size = K + 1 := by simp [hK]
      have q2 : (w1.alloc (.cells #[.int .i64 tb, .int .i64 tm, .int .i64 tf] 38)).heap[K]? = some (.cells #[.int .i64 tb, .int .i64 tm, .int .i64 tf] 38) := by rw [hK]; exact World.alloc_heap_new w1 _
      have d2 : DecP (w1.alloc (.cells #[.int .i64 tb, .int .i64 tm, .int .i64 tf] 38)) g t st2.1 st2.2 := hd1.kept (Below.heap_alloc _ _ _ hd1.lt)
      have bs2 : (w1.alloc (.cells #[.int .i64 tb, .int .i64 tm, .int .i64 tf] 38)).heap[Bs]? = some (.cells #[.int .i64 (size : Int)] 3) := (Below.heap_alloc _ _ _ (by omega)).trans ((hg1.block Bs hBsl (fun e => hgs (by cases e; rfl))).trans j5.out.1)
      have bd2 : (w1.alloc (.cells #[.int .i64 tb, .int .i64 tm, .int .i64 tf] 38)).heap[Bd]? = some (.cells #[.pointer (some ⟨g, 0, none⟩)] 88) := (Below.heap_alloc _ _ _ (by omega)).trans ((hg1.block Bd hBdl (fun e => hgd (by cases e; rfl))).trans j5.out.2)
      obtain ⟨M2, hM2⟩ : ∃ M2 : Nat → Prop, ∀ g, M2 g ↔ (M g ∨ wr.heap.size ≤ g ∧ g < K + 1) := ⟨fun g => M g ∨ wr.heap.size ≤ g ∧ g < K + 1, fun g => Iff.rfl⟩
      have jj2 := HJ.out _ M2 _ _ _ j1.out mv (fun g hg => by rcases (hM2 g).1 hg with h | h; exact .inl h; exact .inr ⟨h.1, by omega⟩)
      obtain ⟨fn, tmps, assign, body, hy, hR⟩ := HY.out M2 l2 ⟨tb, tm, tf⟩ _ jj2 ⟨_, HPN.out⟩
      simp only [tokV] at hy
      have HR := hide hR
      have HT9 := hide (And.intro z2 (And.intro q2 (And.intro hM2 (And.intro hK (And.intro d2 (And.intro bs2 bd2))))))
      clear hR z2 q2 hM2 hK hg1 hd1 ST jj2 mv d2 bs2 bd2
      gi_wp2_with fail
      refine HR.out.mono ?_
      obtain ⟨z2, q2, hM2, hK, d2, bs2, bd2⟩ := HT9.out
      generalize (w1.alloc (.cells #[.int .i64 tb, .int .i64 tm, .int .i64 tf] 38)) = W2 at *
      rw [← hK]
      have HK := hide hK
      have n0 : ∀ g, M g → M2 g := fun g h => (hM2 g).2 (.inl h)
      have nK : M2 K := (hM2 K).2 (.inr (by omega))
      have hw2 : wr.heap.size ≤ W2.heap.size := by omega
      have l2z : ∀ g, M2 g → g < W2.heap.size := fun g hg => by rcases (hM2 g).1 hg with h | h; exact Nat.lt_of_lt_of_le (j6.out g h) (by omega); omega
      clear hK hy HR HT9
      rintro e W3 (⟨rfl, hJ3, hk3⟩ | ⟨rfl, hJx3⟩)
      · have q3 : W3.heap[K]? = some (.cells #[.int .i64 tb, .int .i64 tm, .int .i64 tf] 38) := (hk3.block K (by omega) nK).trans q2
        have k0 : W3.cell? ⟨K, 0, none⟩ = some (.int .i64 tb) := by simp [World.cell?, q3]
        have k1 : W3.cell? ⟨K, 1, none⟩ = some (.int .i64 tm) := by simp [World.cell?, q3]
        have k2 : W3.cell? ⟨K, 2, none⟩ = some (.int .i64 tf) := by simp [World.cell?, q3]
        have hs3 := hk3.size
        have d3 := hide (d2.kept (hk3.block _ (l2z _ (n0 _ m2)) (n0 _ m2)))
        have bs3 := hide ((hk3.block Bs (l2z _ (n0 _ m0)) (n0 _ m0)).trans bs2)
        have bd3 := hide ((hk3.block Bd (l2z _ (n0 _ m1)) (n0 _ m1)).trans bd2)
        have J3 := hide hJ3
        have HN0 := hide n0
        have HL2 := hide l2z
        have hM0 := hide (And.intro m0 (And.intro m1 m2))
        clear hk3 hJ3 q3 q2 hM2 n0 l2z d2 bs2 bd2 z2 nK
        gi_wp2_with fail
        refine ⟨trivial, (callsIn_wide.2 (SS.out _)).mono ?_⟩
        rintro e w6 ⟨rfl, hb6⟩
        have hs6 := hb6.size
        obtain ⟨M6, hM6⟩ : ∃ M6 : Nat → Prop, ∀ g, M6 g ↔ (M2 g ∨ W3.heap.size ≤ g ∧ g < w6.heap.size) := ⟨fun g => M2 g ∨ W3.heap.size ≤ g ∧ g < w6.heap.size, fun g => Iff.rfl⟩
        have n6 : ∀ g, M g → M6 g := fun g h => (hM6 g).2 (.inl (HN0.out g h))
        have J6 := hide (HJ.out M2 M6 _ _ _ J3.out (Moves.below hb6) (fun g hg => by rcases (hM6 g).1 hg with h | h; exact .inl h; exact .inr h))
        have D6 := hide (show DecP w6 g t st2.1 st2.2 from d3.out.kept (hb6.block _ d3.out.lt))
        have B6 := hide (show w6.heap[Bs]? = some (.cells #[.int .i64 (size : Int)] 3) ∧ w6.heap[Bd]? = some (.cells #[.pointer (some ⟨g, 0, none⟩)] 88) from ⟨(hb6.block Bs (by omega)).trans bs3.out, (hb6.block Bd (by omega)).trans bd3.out⟩)
        have ML6 := hide (show ∀ g, M6 g → g < w6.heap.size from fun g hg => by rcases (hM6 g).1 hg with h | h; exact Nat.lt_of_lt_of_le (HL2.out g h) (by omega); exact h.2)
        have N6 := hide (And.intro (n6 _ hM0.out.1) (And.intro (n6 _ hM0.out.2.1) (n6 _ hM0.out.2.2)))
        obtain ⟨q, hq⟩ : ∃ q, q = made + sN := ⟨_, rfl⟩
        have s1 : (made : Int) + (sN : Int) = (q : Int) := by omega
        have s1w : IntKind.i64.wrap ((made : Int) + (sN : Int)) = (q : Int) := by simp only [IntKind.wrap_i64]; omega
        have hq4 : (q : Int) ≤ 4066 := by omega
        have hqm : made < q := by omega
        have hqk : size ≤ q + k' := by omega
        rw [← hq] at HPN
        clear hq hM6 n6 hb6 SS d3 bs3 bd3 J3 k0 k1 k2
        gi_wp2_with fail
        go_roundw
        case rel => exact ⟨q, k', st2, l2 ++ [(⟨tb, tm, tf⟩ : Tok)], M6, rfl, by omega, hqk, HPN, J6, ⟨_, HK2.out⟩, D6, N6, B6, ML6⟩
        case measure => simp [intOf]; omega
      · have HX := hide hJx3
        have HPX := hide (show (l2 ++ [(⟨tb, tm, tf⟩ : Tok)]) <+: T from ⟨_, HPN.out⟩)
        clear hJx3
        gi_wp2_with fail
        refine bodyPost_ret (results_none rfl _ _ _) rfl ?_
        exact ⟨⟨_, rfl⟩, .inr ⟨M2, _, HPX.out, HX.out⟩⟩
    · have hlt' : ¬ (made : Int) < (size : Int) := by omega
      have R := hide (show l2 = T by
        rw [← hpl.out]
        cases k with
        | zero => exact (List.append_nil _).symm
        | succ k => rw [show dtoks (tbN t) size (k + 1) st made = [] from if_neg hlt, List.append_nil])
      clear hpl
      gi_wp2_with fail
      go_end0
      exact ⟨⟨_, rfl⟩, .inl ⟨M, by rw [← R.out]; exact j1.out⟩⟩
theorem dtoks_seq (n Bs Bd g size : Nat) (hn : 1 ≤ n) (t : ByteArray) (h4 : size ≤ 4000) (hts : t.size ≤ 9223372036854775807) (st0 : RC × Nat) (hok0 : DecOk st0 0) (w : World) (hBs : w.heap[Bs]? = some (.cells #[.int .i64 (size : Int)] 3)) (hBd : w.heap[Bd]? = some (.cells #[.pointer (some ⟨g, 0, none⟩)] 88)) (hD : DecP w g t st0.1 st0.2) (hgs : g ≠ Bs) (hgd : g ≠ Bd) :
    SeqM Fence.wide n Tryd.prog 76 #[.pointer (some ⟨Bs, 0, none⟩), .pointer (some ⟨Bd, 0, none⟩)] (fun x => #[tokV x]) (fun k => k = Bs ∨ k = Bd ∨ k = g) (fun xs => xs = dtoks (tbN t) size size st0 0) (fun pre => pre <+: dtoks (tbN t) size size st0 0) (fun pre x => (pre ++ [x]) <+: dtoks (tbN t) size size st0 0) w :=
  fun l J Jx W hW hJ _ hY h0 => dtoks1_in n l Bs Bd g size hn t h4 hts st0 hok0 J Jx hJ hY W ((hW.block Bs (Array.getElem?_eq_some_iff.1 hBs).1 (.inl rfl)).trans hBs) ((hW.block Bd (Array.getElem?_eq_some_iff.1 hBd).1 (.inr (.inl rfl))).trans hBd) (hD.kept (hW.block g hD.lt (.inr (.inr rfl)))) hgs hgd h0
end Go.Proofs.YtdoodkabmeojmaaDoor
/- More of the tokens that come out of a code. No program is named here. -/
namespace Go.Proofs.YtdoodkabmeojmaaDoor
theorem dt_step (tb : Nat → Nat) (size : Nat) : ∀ (pre : List Tok) (k : Nat) (st : RC × Nat) (b c : List UInt8) (x : Tok) (rest : List Tok), pre ++ x :: rest = dtoks tb size k st b.length → growL pre b = some c → c.length < size ∧ ∃ st', x = (dtok tb st').1
  | [], k, st, b, c, x, rest, h, hg => by
    have e : b = c := Option.some.inj hg
    cases k with
    | zero => cases h
    | succ k =>
      unfold dtoks at h
      split at h
      · rename_i hlt
        rw [← e]
        exact ⟨hlt, st, (List.cons.inj h).1⟩
      · cases h
  | y :: pre, k, st, b, c, x, rest, h, hg => by
    cases k with
    | zero => cases h
    | succ k =>
      unfold dtoks at h
      split at h
      · obtain ⟨h1, h2⟩ := List.cons.inj h
        have hg' : (growT y b).bind (growL pre) = some c := hg
        cases hy : growT y b with
        | none => rw [hy] at hg'; cases hg'
        | some d =>
          rw [hy] at hg'
          rw [h1] at hy
          have hl := growT_len tb st b d hy
          rw [← hl] at h2
          exact dt_step tb size pre k _ d c x rest h2 hg'
      · cases h
theorem growL_snoc (l : List Tok) (x : Tok) (b : List UInt8) : growL (l ++ [x]) b = (growL l b).bind (growT x) := by
  rw [growL_app]
  cases growL l b with
  | none => rfl
  | some c =>
    show (growT x c).bind some = growT x c
    cases growT x c <;> rfl
theorem growL_stop (l k : List Tok) (b : List UInt8) (h : l <+: k) (hn : growL l b = none) : growL k b = none := by
  obtain ⟨r, rfl⟩ := h
  rw [growL_app, hn]; rfl
end Go.Proofs.YtdoodkabmeojmaaDoor
/- 'append' onto a row of the call's own: the cells that were there are there still, whether the row has moved or not. No program is named here. -/
namespace Go.Proofs.YtdoodkabmeojmaaDoor
open Go.RowKit Go
section
variable {P : Program} (w : World)
theorem run_append_old (t ty : TypeId) (base : Nat) (e : TypeId) (i : TypeInfo) (z : Value) (bytes : Nat) (ht : P.underlying t = some (.slice e)) (hi : P.info? e = some i) (hz : i.zero = some z)
    (hsize : i.size = 1) (hby : i.bytes = bytes) (hzs : z.cells.size = 1)
    (g0 cap0 n : Nat) (xs : List Value) (hown : w.ownsRow base e 1 (.slice (some ⟨g0, 0, none⟩) n cap0) n xs)
    (ad : Addr) (c : Nat) (x : Value) (hx : w.cell? (ad.add 0) = some x) (h1 : x.oneCell' = true)
    (h63 : n + 1 ≤ maxLen) (hbytes : (n + 1) * bytes ≤ 140737488355328) (hbase : base ≤ w.heap.size) (H : Nat) (hH : w.heap.size = H) :
    ∃ g cap w', (Builtin.append_ #[t, t] ty #[.slice (some ⟨g0, 0, none⟩) n cap0, .slice (some ad) 1 c]).run P w = .ok (.slice (some ⟨g, 0, none⟩) (n + 1) cap) w' ∧
      w'.ownsRow base e 1 (.slice (some ⟨g, 0, none⟩) (n + 1) cap) (n + 1) (xs ++ [x]) ∧ w.grownBy w' (some g0) ∧ (g0 = g ∨ g = H) ∧ g < w'.heap.size ∧ ∀ j, j < n → w'.cell? ⟨g0, j, none⟩ = w.cell? ⟨g0, j, none⟩ := by
  have hnews : ∀ j u, [x][j]? = some u → w.cell? (ad.add j) = some u := by
    intro j u hj
    match j, hj with
    | 0, hj => simp at hj; subst hj; exact hx
  have hone : ∀ u ∈ [x], u.oneCell' = true := by intro u hu; simp at hu; subst hu; exact h1
  obtain ⟨g, cap, w', hr, h2, h3, h4, h5⟩ := run_append_lies (P := P) w t ty base e i z 1 bytes ht hi hz hsize hby hzs (by decide) _ n xs hown ad 1 c [x] rfl hnews hone (by decide) h63 hbytes hbase H hH
  refine ⟨g, cap, w', hr, h2, h3, ?_, h5, ?_⟩
  · rcases h4 with h | h
    · exact .inl (by simpa [Value.ownBlock] using h)
    · exact .inr h
  have hlt := (hown.lt g0 rfl).2
  rcases h4 with h | h
  · have e0 : g0 = g := by simpa [Value.ownBlock] using h
    subst e0
    intro j hj
    have hxl : xs.length = n := by have := hown.1; omega
    rw [h2.cellAt j (by omega), hown.cellAt j (by omega), List.getElem?_append_left (by omega)]
  · intro j hj
    obtain ⟨_, ⟨e0, _⟩ | ⟨g1, cap1, cur, e1, hbg, hg, hnc, hcm, hcs, htake⟩⟩ := hown
    · cases e0
    have e2 : g1 = g0 ∧ cap1 = cap0 := by
      have := e1
      simp at this
      exact ⟨this.1.symm, this.2.symm⟩
    obtain ⟨rfl, rfl⟩ := e2
    by_cases hroom : n + 1 ≤ cap1
    · have hr2 := run_append_room (P := P) w t ty e i ht hi g1 n cap1 cur hg ad 1 c [x] (by rw [hsize]; rfl) hnews hone hroom (by rw [hsize, hcs]; show n * 1 + 1 ≤ cap1 * 1; omega)
      rw [hr2] at hr
      have e3 := (Result.ok.inj hr).1
      have e4 : g1 = g := by simpa [Value.ownBlock] using congrArg Value.ownBlock e3
      omega
    · have hxl : xs.length = n * i.size := by rw [← htake, hsize, List.length_take, Array.length_toList, hcs]; omega
      have hr2 := run_append_grow (P := P) w t ty e i z ht hi hz ⟨g1, 0, none⟩ n cap1 xs hxl (World.ownsRow.cells (g := g1) (w := w) (base := base) (e := e) (size := 1) (n := n) (v := .slice (some ⟨g1, 0, none⟩) n cap1) ⟨by rw [hxl, hsize], .inr ⟨g1, cap1, cur, rfl, hbg, hg, hnc, hcm, hcs, htake⟩⟩ rfl) ad 1 c [x] (by rw [hsize]; rfl) hnews (by omega) (by unfold maxLen at h63; omega) (growslice_fits (by omega) (by rw [hby]; exact hbytes))
      rw [hr2] at hr
      have hw := (Result.ok.inj hr).2
      rw [← hw]
      exact World.cell?_of_block (w := w) (a := ⟨g1, j, none⟩) (Below.heap_alloc w.drew _ g1 (show g1 < w.drew.heap.size from hlt))
theorem wpList_append_old {ops : Array Oper} {rest : List Oper} {o : Oper} {a : Act} {Q : Exit → Act → World → Prop} (hgd : o.guard = none) (s x : Operand) (t : TypeId)
    (ho : o.op = .call { callee := .builtin .append, args := #[s, x], argTypes := #[t, t] })
    (base : Nat) (e : TypeId) (i : TypeInfo) (z : Value) (bytes : Nat) (ht : P.underlying t = some (.slice e)) (hi : P.info? e = some i) (hz : i.zero = some z)
    (hsize : i.size = 1) (hby : i.bytes = bytes) (hzs : z.cells.size = 1)
    (g0 cap0 n : Nat) (xs : List Value) (hs : a.eval s = .slice (some ⟨g0, 0, none⟩) n cap0) (hown : w.ownsRow base e 1 (.slice (some ⟨g0, 0, none⟩) n cap0) n xs)
    (ad : Addr) (c : Nat) (u : Value) (hx : a.eval x = .slice (some ad) 1 c) (hu : w.cell? (ad.add 0) = some u) (h1 : u.oneCell' = true)
    (h63 : n + 1 ≤ maxLen) (hbytes : (n + 1) * bytes ≤ 140737488355328) (hbase : base ≤ w.heap.size) (H : Nat) (hH : w.heap.size = H)
    (h : ∀ g cap w', w'.ownsRow base e 1 (.slice (some ⟨g, 0, none⟩) (n + 1) cap) (n + 1) (xs ++ [u]) → w.grownBy w' (some g0) → (g0 = g ∨ g = H) → g < w'.heap.size → (∀ j, j < n → w'.cell? ⟨g0, j, none⟩ = w.cell? ⟨g0, j, none⟩) → wpList P ops Q rest (a.put o.dst (.slice (some ⟨g, 0, none⟩) (n + 1) cap)) w') : wpList P ops Q (o :: rest) a w := by
  refine wpList_plain hgd fun K hK => ?_
  obtain ⟨g, cap, w', hr, h2, h3, h4, h5, h6⟩ := run_append_old (P := P) w t o.type base e i z bytes ht hi hz hsize hby hzs g0 cap0 n xs hown ad c u hu h1 h63 hbytes hbase H hH
  unfold Oper.wp execOp
  simp only [ho, resolve, invoke, builtin, Sem.run_bind, Sem.run_pure, Result.andThen_ok, List.map_toArray, List.map_cons, List.map_nil, hs, hx, hr]
  exact hK _ _ (h g cap w' h2 h3 h4 h5 h6)
end
end Go.Proofs.YtdoodkabmeojmaaDoor
/- What is known of the type of bytes. -/
namespace Go.Proofs.YtdoodkabmeojmaaDoor
open Go.RowKit
theorem Tryd.infoB8m : (Tryd.prog.info? 5).map (fun i => (i.zero, i.size, i.bytes)) = some (some (.int .u8 0), 1, 1) := by kernel_rfl
end Go.Proofs.YtdoodkabmeojmaaDoor
/- The walk over the program's grown. -/
namespace Go.Proofs.YtdoodkabmeojmaaDoor
open Go.RowKit
/-- What is copied over and over is what was: the byte that a match makes, read in the text ahead of it. -/
theorem copyN_at (F : Nat) (b : List UInt8) (h1 : 1 ≤ F) (h2 : F ≤ b.length) : ∀ c j, j < F + c → (copyN F c b).getD (b.length - F + j) 0 = b.getD (b.length - F + j % F) 0
  | 0, j, hj => by
    show b.getD _ 0 = _
    rw [Nat.mod_eq_of_lt (by omega)]
  | c + 1, j, hj => by
    have hl := copyN_len F c b
    rw [copyN_more]
    by_cases hlt : j < F + c
    · rw [← copyN_at F b h1 h2 c j hlt, List.getD_eq_getElem?_getD, List.getElem?_append_left (by omega), ← List.getD_eq_getElem?_getD]
    · have e : j = F + c := by omega
      subst e
      have e1 : b.length - F + (F + c) = (copyN F c b).length := by omega
      rw [e1, List.getD_eq_getElem?_getD, List.getElem?_append_right (Nat.le_refl _), Nat.sub_self]
      show (copyN F c b).getD ((copyN F c b).length - F) 0 = _
      have e2 : (copyN F c b).length - F = b.length - F + c := by omega
      rw [e2, copyN_at F b h1 h2 c c (by omega), Nat.add_mod_left]
/-- What alone turns: v's own row; the new row lies there, or is new. -/
structure OffV (v v' : Value) (w w' : World) : Prop where
  same : ∀ k, k < w.heap.size → v.ownBlock ≠ some k → w'.heap[k]? = w.heap[k]?
  lies : ∀ k, v'.ownBlock = some k → v.ownBlock = some k ∨ w.heap.size ≤ k
set_option maxRecDepth 100000 in
set_option maxHeartbeats 400000 in
theorem imp_grown_byteK (v : Value) (b : List UInt8) (base y : Nat) (w : World) (hbase : base ≤ w.heap.size) (hown : w.ownsRow base 5 1 v b.length (b.map byteV)) (hlen : b.length ≤ 20000) (hy : y < 256) :
    Calls Tryd.prog 67 #[v, .agg #[.int .i64 (y : Int), .int .i64 0, .int .i64 0]] w fun e w' => ∃ v', e = .returned (.tuple #[v', .bool true]) ∧ w'.ownsRow base 5 1 v' (b ++ [UInt8.ofNat y]).length ((b ++ [UInt8.ofNat y]).map byteV) ∧ Below base w w' ∧ OffV v v' w w' := by
  obtain ⟨i0, hi, hz0, hz1, hz2⟩ := info_parts Tryd.infoB8m
  obtain ⟨ba, bcap, hbv, hbc⟩ : ∃ a cap, v = .slice a b.length cap ∧ b.length ≤ cap := by
    obtain ⟨_, ⟨e, e0⟩ | ⟨g, cap, cur, e, _, _, h, _⟩⟩ := hown
    · exact ⟨none, 0, by rw [e, e0], by omega⟩
    · exact ⟨_, cap, e, h⟩
  subst hbv
  have SM := hide (fun w => imp_isMatch (y : Int) 0 0 w)
  have hw8 : IntKind.u8.wrap (y : Int) = (y : Int) := by rw [IntKind.wrap_u8]; omega
  have HB := hide hbase
  have HOWN := hide hown
  clear hown hbase
  go_enter Tryd.func67, Tryd.ntmps67
  go_wp2_with fail
  refine (SM.out _).mono ?_
  rintro e w1 ⟨rfl, hb1⟩
  have hsz := hb1.size
  have c0 := (hb1.cell (p := ⟨w.heap.size, 0, none⟩) (by simp)).trans (show (w.alloc (.cells #[.int .i64 (y : Int), .int .i64 0, .int .i64 0] 38)).cell? ⟨w.heap.size, 0, none⟩ = some (.int .i64 (y : Int)) by simp)
  have HO := hide ((HOWN.out.alloc (.cells #[.int .i64 (y : Int), .int .i64 0, .int .i64 0] 38)).kept (below_grownBy hb1) (Classical.em _))
  have B1 := hide (((Below.refl base w).alloc HB.out (.cells #[.int .i64 (y : Int), .int .i64 0, .int .i64 0] 38)).trans (hb1.mono (by have := HB.out; simp; omega)))
  have hbs := B1.out.size
  have hm0 : ((0 : Int) != 0) = false := rfl
  have K1 := hide (show ∀ k, k < w.heap.size → w1.heap[k]? = w.heap[k]? from fun k hk => (hb1.block k (by simp; omega)).trans (Below.heap_alloc _ _ k hk))
  clear hb1 HOWN SM
  go_wp2_with (at_builtin; refine wpList_append_lies _ rfl _ _ 22 rfl base 5 i0 (.int .u8 0) 1 1 Tryd.underlying22 hi hz0 hz1 hz2 rfl (by omega) (.slice ba b.length bcap) b.length (b.map byteV) rfl (HO.out.alloc _) ⟨w1.heap.size, 0, none⟩ 1 1 [.int .u8 (y : Int)] rfl rfl (one_cell w1 _ _) (one_oneCell .u8 _) (by omega) (by unfold maxLen; omega) (by omega) (by simp; have := HB.out; simp at hsz; omega) (w1.heap.size + 1) (by simp) ?_)
  intro g' cap' w9 hown' hg' hat' _
  have R1 : w9.ownsRow base 5 1 (.slice (some ⟨g', 0, none⟩) (b.length + 1) cap') (b ++ [UInt8.ofNat y]).length ((b ++ [UInt8.ofNat y]).map byteV) := by
    rw [List.length_append, List.map_append]
    show w9.ownsRow base 5 1 _ (b.length + 1) (b.map byteV ++ [byteV (UInt8.ofNat y)])
    rw [byteV, ofNat_byte y hy]; exact hown'
  have hb1s : base ≤ w1.heap.size := by have := HB.out; simp at hsz; omega
  have R2 := hide ((B1.out.alloc hb1s _).grown hg' (by simp; omega) (fun x hx => (HO.out.lt x hx).1))
  have RR := hide R1
  have R3 := hide (show OffV (.slice ba b.length bcap) (.slice (some ⟨g', 0, none⟩) (b.length + 1) cap') w w9 from ⟨fun k hk hne => (hg'.block k (by simp at hsz; simp; omega) (fun e => hne e.symm)).trans ((Below.heap_alloc _ _ k (by simp at hsz; omega)).trans (K1.out k hk)), fun k hk => by
    obtain rfl : g' = k := by simpa [Value.ownBlock] using hk
    rcases hat' with h | h
    · exact .inl h
    · simp at hsz; exact .inr (by omega)⟩)
  clear hown' hg' hat' HO B1 c0 R1 K1
  go_wp2_with fail
  go_ret2
  exact ⟨_, rfl, RR.out, R2.out, R3.out⟩
theorem imp_grown_byte (v : Value) (b : List UInt8) (base y : Nat) (w : World) (hbase : base ≤ w.heap.size) (hown : w.ownsRow base 5 1 v b.length (b.map byteV)) (hlen : b.length ≤ 20000) (hy : y < 256) :
    Calls Tryd.prog 67 #[v, .agg #[.int .i64 (y : Int), .int .i64 0, .int .i64 0]] w fun e w' => ∃ v', e = .returned (.tuple #[v', .bool true]) ∧ w'.ownsRow base 5 1 v' (b ++ [UInt8.ofNat y]).length ((b ++ [UInt8.ofNat y]).map byteV) ∧ Below base w w' :=
  (imp_grown_byteK v b base y w hbase hown hlen hy).mono fun _ _ ⟨v', h1, h2, h3, _⟩ => ⟨v', h1, h2, h3⟩
set_option maxRecDepth 100000 in
set_option maxHeartbeats 1600000 in
theorem imp_grown_noK (v : Value) (b : List UInt8) (base M F : Nat) (w : World) (hown : w.ownsRow base 5 1 v b.length (b.map byteV)) (hlen : b.length ≤ 20000) (hM3 : 3 ≤ M) (hM : M ≤ 66) (hF : F ≤ 1024) (hFb : b.length < F) :
    Calls Tryd.prog 67 #[v, .agg #[.int .i64 0, .int .i64 (M : Int), .int .i64 (F : Int)]] w fun e w' => e = .returned (.tuple #[.slice none 0 0, .bool false]) ∧ Below w.heap.size w w' := by
  obtain ⟨ba, bcap, hbv, hbc⟩ : ∃ a cap, v = .slice a b.length cap ∧ b.length ≤ cap := by
    obtain ⟨_, ⟨e, e0⟩ | ⟨g, cap, cur, e, _, _, h, _⟩⟩ := hown
    · exact ⟨none, 0, by rw [e, e0], by omega⟩
    · exact ⟨_, cap, e, h⟩
  subst hbv
  have SM := hide (fun w => imp_isMatch 0 (M : Int) (F : Int) w)
  have hm0 : ((M : Int) != 0) = true := by simp; omega
  rw [hm0] at SM
  have hneg : (b.length : Int) - (F : Int) < 0 := by omega
  have hnw : IntKind.i64.wrap ((b.length : Int) - (F : Int)) = (b.length : Int) - (F : Int) := by simp only [IntKind.wrap_i64]; omega
  clear hown hm0
  go_enter Tryd.func67, Tryd.ntmps67
  go_wp2_with fail
  refine (SM.out _).mono ?_
  rintro e w1 ⟨rfl, hb1⟩
  have c2 := (hb1.cell (p := ⟨w.heap.size, 2, none⟩) (by simp)).trans (show (w.alloc (.cells #[.int .i64 0, .int .i64 (M : Int), .int .i64 (F : Int)] 38)).cell? ⟨w.heap.size, 2, none⟩ = some (.int .i64 (F : Int)) by simp)
  have B1 := hide (((Below.refl w.heap.size w).alloc (Nat.le_refl _) (.cells #[.int .i64 0, .int .i64 (M : Int), .int .i64 (F : Int)] 38)).trans (hb1.mono (by simp)))
  clear hb1 SM
  go_wp2_with fail
  go_ret2
  exact ⟨rfl, B1.out⟩
theorem imp_grown_no (v : Value) (b : List UInt8) (base M F : Nat) (w : World) (hbase : base ≤ w.heap.size) (hown : w.ownsRow base 5 1 v b.length (b.map byteV)) (hlen : b.length ≤ 20000) (hM3 : 3 ≤ M) (hM : M ≤ 66) (hF : F ≤ 1024) (hFb : b.length < F) :
    Calls Tryd.prog 67 #[v, .agg #[.int .i64 0, .int .i64 (M : Int), .int .i64 (F : Int)]] w fun e w' => e = .returned (.tuple #[.slice none 0 0, .bool false]) ∧ Below base w w' :=
  (imp_grown_noK v b base M F w hown hlen hM3 hM hF hFb).mono fun _ _ ⟨h1, h2⟩ => ⟨h1, h2.mono hbase⟩
set_option maxRecDepth 100000 in
set_option maxHeartbeats 1600000 in
theorem imp_grown_matchK (v : Value) (b : List UInt8) (base M F : Nat) (w : World) (hbase : base ≤ w.heap.size) (hown : w.ownsRow base 5 1 v b.length (b.map byteV)) (hlen : b.length ≤ 20000) (hM3 : 3 ≤ M) (hM : M ≤ 66) (hF1 : 1 ≤ F) (hF : F ≤ 1024) (hFb : F ≤ b.length) :
    Calls Tryd.prog 67 #[v, .agg #[.int .i64 0, .int .i64 (M : Int), .int .i64 (F : Int)]] w fun e w' => ∃ v', e = .returned (.tuple #[v', .bool true]) ∧ w'.ownsRow base 5 1 v' (copyN F M b).length ((copyN F M b).map byteV) ∧ Below base w w' ∧ OffV v v' w w' := by
  obtain ⟨i0, hi, hz0, hz1, hz2⟩ := info_parts Tryd.infoB8m
  obtain ⟨g0, bcap, hbv, hbc⟩ : ∃ g cap, v = .slice (some ⟨g, 0, none⟩) b.length cap ∧ b.length ≤ cap := by
    obtain ⟨_, ⟨_, e0⟩ | ⟨g, cap, cur, e, _, _, h, _⟩⟩ := hown
    · omega
    · exact ⟨_, cap, e, h⟩
  subst hbv
  have SM := hide (fun w => imp_isMatch 0 (M : Int) (F : Int) w)
  have hm0 : ((M : Int) != 0) = true := by simp; omega
  rw [hm0] at SM
  obtain ⟨p, hp⟩ : ∃ p, p = b.length - F := ⟨_, rfl⟩
  have s1 : (b.length : Int) - (F : Int) = (p : Int) := by omega
  have s1w : IntKind.i64.wrap ((b.length : Int) - (F : Int)) = (p : Int) := by simp only [IntKind.wrap_i64]; omega
  have s2 : b.length - p = F := by omega
  have hpl : (p : Int) ≤ (b.length : Int) := by omega
  have hp0 : ¬ (p : Int) < 0 := by omega
  have hl20 : (b.length : Int) ≤ 20000 := by omega
  have hblc : (b.length : Int) ≤ (bcap : Int) := by omega
  have HB := hide hbase
  have HOWN := hide hown
  have HCELL := hide (show ∀ j (hj : j < b.length), w.cell? ⟨g0, j, none⟩ = some (.int .u8 ((b.getD j 0).toNat : Int)) from fun j hj => by
    rw [hown.cellAt j (by omega), List.getElem?_map, List.getD_eq_getElem?_getD, List.getElem?_eq_getElem hj]; rfl)
  have hg0 := (hown.lt g0 rfl)
  have HCAT := hide (copyN_at F b hF1 hFb)
  have HPB := hide hp
  clear hown hbase hm0 hp
  obtain ⟨N, hN⟩ : ∃ N, N = b.length := ⟨_, rfl⟩
  go_enter Tryd.func67, Tryd.ntmps67
  go_wp2_with fail
  refine (SM.out _).mono ?_
  rintro e w1 ⟨rfl, hb1⟩
  have hsz := hb1.size
  have c1 := (hb1.cell (p := ⟨w.heap.size, 1, none⟩) (by simp)).trans (show (w.alloc (.cells #[.int .i64 0, .int .i64 (M : Int), .int .i64 (F : Int)] 38)).cell? ⟨w.heap.size, 1, none⟩ = some (.int .i64 (M : Int)) by simp)
  have c2 := (hb1.cell (p := ⟨w.heap.size, 2, none⟩) (by simp)).trans (show (w.alloc (.cells #[.int .i64 0, .int .i64 (M : Int), .int .i64 (F : Int)] 38)).cell? ⟨w.heap.size, 2, none⟩ = some (.int .i64 (F : Int)) by simp)
  have HO := hide ((HOWN.out.alloc (.cells #[.int .i64 0, .int .i64 (M : Int), .int .i64 (F : Int)] 38)).kept (below_grownBy hb1) (Classical.em _))
  have HC1 := hide (show ∀ j (hj : j < b.length), w1.cell? ⟨g0, j, none⟩ = some (.int .u8 ((b.getD j 0).toNat : Int)) from fun j hj => by
    rw [hb1.cell (p := ⟨g0, j, none⟩) (by simp; omega)]
    exact (((Below.refl w.heap.size w).alloc (Nat.le_refl _) _).cell (p := ⟨g0, j, none⟩) hg0.2).trans (HCELL.out j hj))
  have B1 := hide (((Below.refl base w).alloc HB.out (.cells #[.int .i64 0, .int .i64 (M : Int), .int .i64 (F : Int)] 38)).trans (hb1.mono (by have := HB.out; simp; omega)))
  obtain ⟨z, hz⟩ : ∃ z, z = w.heap.size := ⟨_, rfl⟩
  have hzlt : z < w1.heap.size := by simp at hsz; omega
  have hgz : g0 < z := by have := hg0.2; omega
  have hbz : base ≤ z := by have := HB.out; omega
  rw [← hz] at c1 c2 ⊢
  have C2 := hide c2
  have hg0b := hg0.1
  have K1 := hide (show (∀ k, k < z → k ≠ g0 → w1.heap[k]? = w.heap[k]?) ∧ ∀ k, (Value.slice (some ⟨g0, 0, none⟩) b.length bcap).ownBlock = some k → k = g0 ∨ z ≤ k from ⟨fun k hk _ => (hb1.block k (by simp; omega)).trans (Below.heap_alloc _ _ k (by omega)), fun k hk => .inl (by simpa [Value.ownBlock] using hk.symm)⟩)
  have HZZ := hide hz
  clear hb1 SM HOWN HCELL hsz hz hg0 HB
  go_wp2_with fail
  clear c1 c2
  go_loopw [0, 34] (fun bv i wx => ∃ c : Nat, c ≤ M ∧ i = .int .i64 (c : Int) ∧ wx.ownsRow base 5 1 bv (b.length + c) ((copyN F c b).map byteV) ∧ Hid (∀ j (hj : j < b.length), wx.cell? ⟨g0, j, none⟩ = some (.int .u8 ((b.getD j 0).toNat : Int))) ∧ bv.ownBlock ≠ some z ∧ z < wx.heap.size ∧ wx.cell? ⟨z, 2, none⟩ = some (.int .i64 (F : Int)) ∧ Hid (Below base w wx) ∧ Hid ((∀ k, k < z → k ≠ g0 → wx.heap[k]? = w.heap[k]?) ∧ ∀ k, bv.ownBlock = some k → k = g0 ∨ z ≤ k)) (fun _ i _ => M - (intOf i).toNat)
  case atStart => exact ⟨0, by omega, rfl, HO.out, HC1, by simp [Value.ownBlock]; omega, hzlt, C2.out, B1, K1⟩
  case round =>
    clear HO HC1 hzlt C2 B1 K1
    obtain ⟨c, hc, rfl, hown, HC, hzn, hzlt, c2, hbl, hkk⟩ := hrel
    by_cases hcM : c < M
    · have hcM' : (c : Int) < (M : Int) := by omega
      obtain ⟨n, hn⟩ : ∃ n, n = b.length + c := ⟨_, rfl⟩
      have hnb : (n : Int) ≤ 20132 := by omega
      rw [← hn] at hown
      obtain ⟨go, ocap, hv, hoc⟩ : ∃ go cap, u0 = .slice (some ⟨go, 0, none⟩) n cap ∧ n ≤ cap := by
        obtain ⟨_, ⟨_, e0⟩ | ⟨g, cap, cur, e, _, _, h, _⟩⟩ := hown
        · omega
        · exact ⟨g, cap, e, h⟩
      subst hv
      have hlc : (copyN F c b).length = n := by rw [copyN_len, hn]
      obtain ⟨q, hq⟩ : ∃ q, q = c % F := ⟨_, rfl⟩
      have hqF : q < F := by rw [hq]; exact Nat.mod_lt _ (by omega)
      have e1 : (c : Int) % (F : Int) = (q : Int) := by omega
      have e1t : Int.tmod (c : Int) (F : Int) = (q : Int) := by rw [Int.tmod_eq_emod_of_nonneg (by omega)]; exact e1
      have hF0 : (F : Int) ≠ 0 := by omega
      have hqF' : (q : Int) < (F : Int) := by omega
      obtain ⟨y, hy⟩ : ∃ y, y = b.getD (p + q) 0 := ⟨_, rfl⟩
      have hcell : wr.cell? ⟨g0, p + q, none⟩ = some (.int .u8 (y.toNat : Int)) := by
        rw [hy]; exact HC.out _ (by omega)
      have HCP := hide (show copyN F (c + 1) b = copyN F c b ++ [y] by
        rw [copyN_more, hlc, hy, hn, show b.length + c - F = b.length - F + c by omega, HCAT.out c c (by omega), ← HPB.out, ← hq])
      have hy8 := y.toNat_lt
      have hwsr := hbl.out.size
      have HN := hide hn
      clear hlc hy hn hq
      go_wp2_with (at_builtin; refine wpList_append_old _ rfl _ _ 22 rfl base 5 i0 (.int .u8 0) 1 Tryd.underlying22 hi hz0 hz1 hz2 rfl go ocap n _ rfl (hown.alloc _) ⟨wr.heap.size, 0, none⟩ 1 (.int .u8 (y.toNat : Int)) rfl (one_cell wr _ _ 0 _ rfl) rfl (by unfold maxLen; omega) (by omega) (by simp; omega) (wr.heap.size + 1) (by simp) ?_)
      intro g' cap' w9 hown' hg' hat' _ hold
      have R1 : w9.ownsRow base 5 1 (.slice (some ⟨g', 0, none⟩) (n + 1) cap') (b.length + (c + 1)) ((copyN F (c + 1) b).map byteV) := by
        rw [HCP.out, List.map_append, show b.length + (c + 1) = n + 1 by have := HN.out; omega]; exact hown'
      have R2 := hide ((hbl.out.alloc (by omega) _).grown hg' (by simp; omega) (fun x hx => by cases hx; exact (hown.lt go rfl).1))
      have hgoz : go ≠ z := fun e => hzn (by simp [Value.ownBlock, e])
      have R3 : (Value.slice (some ⟨g', 0, none⟩) (n + 1) cap').ownBlock ≠ some z := by
        intro e
        have e1 : g' = z := by simpa [Value.ownBlock] using e
        rcases hat' with h | h
        · exact hgoz (by rw [h, e1])
        · omega
      have R4 : w9.cell? ⟨z, 2, none⟩ = some (.int .i64 (F : Int)) := by
        refine hg'.cell (a := ⟨z, 2, none⟩) ?_ (fun e => hgoz (by simpa using e.symm))
        exact (((Below.refl wr.heap.size wr).alloc (Nat.le_refl _) _).cell (p := ⟨z, 2, none⟩) hzlt).trans c2
      have R5 : z < w9.heap.size := by have := hg'.size; simp at this; omega
      have R6 := hide (show ∀ j (hj : j < b.length), w9.cell? ⟨g0, j, none⟩ = some (.int .u8 ((b.getD j 0).toNat : Int)) from fun j hj => by
        have h1 : (wr.alloc (.cells #[.int .u8 (y.toNat : Int)] 5)).cell? ⟨g0, j, none⟩ = some (.int .u8 ((b.getD j 0).toNat : Int)) := (((Below.refl wr.heap.size wr).alloc (Nat.le_refl _) _).cell (p := ⟨g0, j, none⟩) (show g0 < wr.heap.size by omega)).trans (HC.out j hj)
        by_cases e : go = g0
        · subst e
          exact (hold j (by have := HN.out; omega)).trans h1
        · exact hg'.cell (a := ⟨g0, j, none⟩) h1 (fun e2 => e (by simpa using e2.symm)))
      have R7 := hide (show (∀ k, k < z → k ≠ g0 → w9.heap[k]? = w.heap[k]?) ∧ ∀ k, (Value.slice (some ⟨g', 0, none⟩) (n + 1) cap').ownBlock = some k → k = g0 ∨ z ≤ k from by
        have hgo := hkk.out.2 go rfl
        refine ⟨fun k hk hne => (hg'.block k (by simp; omega) (fun e => ?_)).trans ((Below.heap_alloc _ _ k (by omega)).trans (hkk.out.1 k hk hne)), fun k hk => ?_⟩
        · cases e
          rcases hgo with h | h
          · exact hne h
          · omega
        · obtain rfl : g' = k := by simpa [Value.ownBlock] using hk
          rcases hat' with h | h
          · rw [← h]; exact hgo
          · exact .inr (by omega))
      clear hown' hg' hat' hown hbl hkk hcell HCP c2 hzn hzlt hold HC
      go_wp2_with fail
      go_roundw
      case rel => exact ⟨c + 1, by omega, by go_num, R1, R6, R3, R5, R4, R2, R7⟩
      case measure => simp [intOf]; omega
    · have hcM' : ¬ (c : Int) < (M : Int) := by omega
      have ecM : c = M := by omega
      have HO := hide (show wr.ownsRow base 5 1 u0 (copyN F M b).length ((copyN F M b).map byteV) by
        rw [copyN_len, ← ecM]; exact hown)
      clear hown ecM c2 HC
      go_wp2_with fail
      go_ret2
      exact ⟨_, rfl, HO.out, hbl.out, ⟨fun k hk hne => hkk.out.1 k (by rw [HZZ.out]; exact hk) (fun e => hne (by rw [e]; rfl)), fun k hk => by
        rcases hkk.out.2 k hk with h | h
        · exact .inl (by rw [h]; rfl)
        · exact .inr (by rw [← HZZ.out]; exact h)⟩⟩
theorem imp_grown_match (v : Value) (b : List UInt8) (base M F : Nat) (w : World) (hbase : base ≤ w.heap.size) (hown : w.ownsRow base 5 1 v b.length (b.map byteV)) (hlen : b.length ≤ 20000) (hM3 : 3 ≤ M) (hM : M ≤ 66) (hF1 : 1 ≤ F) (hF : F ≤ 1024) (hFb : F ≤ b.length) :
    Calls Tryd.prog 67 #[v, .agg #[.int .i64 0, .int .i64 (M : Int), .int .i64 (F : Int)]] w fun e w' => ∃ v', e = .returned (.tuple #[v', .bool true]) ∧ w'.ownsRow base 5 1 v' (copyN F M b).length ((copyN F M b).map byteV) ∧ Below base w w' :=
  (imp_grown_matchK v b base M F w hbase hown hlen hM3 hM hF1 hF hFb).mono fun _ _ ⟨v', h1, h2, h3, _⟩ => ⟨v', h1, h2, h3⟩
end Go.Proofs.YtdoodkabmeojmaaDoor
/- A map from arrays of three bytes to rows of places that the call owns: looked up, grown by one place. No program is named here. -/
namespace Go.Proofs.YtdoodkabmeojmaaDoor
open Go Go.RowKit Go.MapKept Go.WideElems Go.ChangeMaps
open Go.WideMaps (KeyLaw)
def intV (n : Nat) : Value := .int .i64 (n : Int)
/-- Three bytes as a key. -/
def kV (f : Nat → UInt8) : Value := .agg (bL 3 f).toArray
theorem own_of_block {w w' : World} {base e s : Nat} {v : Value} {n : Nat} {xs : List Value} (h : w.ownsRow base e s v n xs) (hb : ∀ g, v.ownBlock = some g → w'.heap[g]? = w.heap[g]?) : w'.ownsRow base e s v n xs := by
  obtain ⟨h1, h | ⟨g, cap, cur, rfl, h2, h3, h4⟩⟩ := h
  · exact ⟨h1, .inl h⟩
  · exact ⟨h1, .inr ⟨g, cap, cur, rfl, h2, (hb g rfl).trans h3, h4⟩⟩
theorem setBlock_other (w : World) (b k : Nat) (o : Obj) (h : k ≠ b) : (setBlock w b o).heap[k]? = w.heap[k]? := by
  show (w.heap.setIfInBounds b o)[k]? = _
  rw [Array.getElem?_setIfInBounds_ne (fun e => h e.symm)]
theorem setBlock_same (w : World) (b : Nat) (o : Obj) (h : b < w.heap.size) : (setBlock w b o).heap[b]? = some o := by
  show (w.heap.setIfInBounds b o)[b]? = _
  rw [Array.getElem?_setIfInBounds_self_of_lt h]
theorem setBlock_size (w : World) (b : Nat) (o : Obj) : (setBlock w b o).heap.size = w.heap.size := by
  show (w.heap.setIfInBounds b o).size = _
  simp
theorem mem_set_cases {α : Type} {l : List α} {j : Nat} {a x : α} (h : x ∈ l.set j a) : x = a ∨ ∃ i, i ≠ j ∧ l[i]? = some x := by
  obtain ⟨i, hi⟩ := List.mem_iff_getElem?.1 h
  by_cases e : j = i
  · subst e
    rw [List.getElem?_set_self' ] at hi
    cases hl : l[j]? with
    | none => rw [hl] at hi; cases hi
    | some y => rw [hl] at hi; exact .inl (Option.some.inj hi).symm
  · rw [List.getElem?_set_ne e] at hi
    exact .inr ⟨i, fun h => e h.symm, hi⟩
structure PlM (w : World) (base mb e : Nat) (L : Value → List Nat) (No : Nat → Prop) (es : Array MapEntry) (clock : Nat) : Prop where
  blk : w.heap[mb]? = some (.map es clock)
  st : Stamped es clock
  keys : ∀ x ∈ es.toList, ∃ f, x.key = kV f
  own : ∀ x ∈ es.toList, w.ownsRow base e 1 x.val (L x.key).length ((L x.key).map intV)
  off : ∀ x ∈ es.toList, ∀ g, x.val.ownBlock = some g → ¬ No g
  all : ∀ v, L v ≠ [] → ∃ x ∈ es.toList, x.key = v
  sep : ∀ x ∈ es.toList, ∀ y ∈ es.toList, x.key ≠ y.key → ∀ g, x.val.ownBlock = some g → y.val.ownBlock ≠ some g
  hb : mb < base
theorem PlM.made {w : World} {base mb e : Nat} (h : w.heap[mb]? = some (.map #[] 0)) (hb : mb < base) : PlM w base mb e (fun _ => []) (fun _ => False) #[] 0 :=
  ⟨h, ⟨by simp, by simp, by simp⟩, by simp, by simp, by simp, fun v hv => absurd rfl hv, by simp, hb⟩
theorem PlM.kept {w w' : World} {base mb e : Nat} {L : Value → List Nat} {No : Nat → Prop} {es : Array MapEntry} {clock : Nat} (h : PlM w base mb e L No es clock)
    (hm : w'.heap[mb]? = w.heap[mb]?) (hr : ∀ g, base ≤ g → g < w.heap.size → ¬ No g → w'.heap[g]? = w.heap[g]?) : PlM w' base mb e L No es clock :=
  ⟨hm.trans h.blk, h.st, h.keys, fun x hx => own_of_block (h.own x hx) (fun g hg => hr g ((h.own x hx).lt g hg).1 ((h.own x hx).lt g hg).2 (h.off x hx g hg)), h.off, h.all, h.sep, h.hb⟩
theorem PlM.reno {w : World} {base mb e : Nat} {L : Value → List Nat} {No No' : Nat → Prop} {es : Array MapEntry} {clock : Nat} (h : PlM w base mb e L No es clock)
    (hn : ∀ g, No' g → No g ∨ w.heap.size ≤ g) : PlM w base mb e L No' es clock :=
  ⟨h.blk, h.st, h.keys, h.own, fun x hx g hg e => by
    rcases hn g e with h1 | h1
    · exact h.off x hx g hg h1
    · have := ((h.own x hx).lt g hg).2; omega, h.all, h.sep, h.hb⟩
theorem PlM.lt {w : World} {base mb e : Nat} {L : Value → List Nat} {No : Nat → Prop} {es : Array MapEntry} {clock : Nat} (h : PlM w base mb e L No es clock) : mb < w.heap.size := by
  rcases Nat.lt_or_ge mb w.heap.size with hlt | hge
  · exact hlt
  · have := h.blk; rw [Array.getElem?_eq_none hge] at this; cases this
section
variable {P : Program} {t k e : TypeId}
theorem PlM.lookup (K : KeyLaw P k) (hk : ∀ f, ∃ l, keyOf P k (kV f) = some l) {et : TypeId} (ht : P.underlying t = some (.map k et)) (hz : ∀ u : World, (zeroValue et).run P u = .ok (.slice none 0 0) u) {w : World} {base mb : Nat} {L : Value → List Nat} {No : Nat → Prop} {es : Array MapEntry} {clock : Nat} (h : PlM w base mb e L No es clock) (f : Nat → UInt8) :
    ∃ v, (∀ w2 : World, w2.heap[mb]? = w.heap[mb]? → (Instr.lookup t (.map (some mb)) (kV f) false).run P w2 = .ok v w2) ∧ w.ownsRow base e 1 v (L (kV f)).length ((L (kV f)).map intV) := by
  obtain ⟨l, hl⟩ := hk f
  have hks : ∀ x ∈ es.toList, ∃ l, keyOf P k x.key = some l := fun x hx => by
    obtain ⟨g, hg⟩ := h.keys x hx
    rw [hg]; exact hk g
  have hfd := fun w2 => K.find w2 hl es.toList hks
  by_cases hex : ∃ x ∈ es.toList, x.key = kV f
  · obtain ⟨x, hx, hxk⟩ := hex
    refine ⟨x.val, fun w2 hw2 => ?_, by rw [← hxk]; exact h.own x hx⟩
    rcases hfd w2 with ⟨_, h2⟩ | ⟨j, e0, h1, h2, h3⟩
    · exact absurd hxk (h2 x hx)
    · have hxe : e0 = x := by
        obtain ⟨i, hi⟩ := List.mem_iff_getElem?.1 hx
        have hij : i = j := by
          refine (List.getElem?_inj (l := es.toList.map (·.key)) (by rw [List.length_map]; exact (List.getElem?_eq_some_iff.1 hi).1) h.st.2.2).1 ?_
          rw [List.getElem?_map, List.getElem?_map, hi, h2]
          show some x.key = some e0.key
          rw [hxk, h3]
        subst hij
        rw [hi] at h2
        exact (Option.some.inj h2).symm
      subst hxe
      simp [Instr.lookup, run_underlying ht, MapKept.run_getObj_map (hw2.trans h.blk), K.check w2 es.isEmpty hl, h1, Result.andThen]
  · have hL : L (kV f) = [] := by
      rcases List.eq_nil_or_concat (L (kV f)) with h0 | ⟨_, _, h0⟩
      · exact h0
      · exact absurd (h.all (kV f) (by rw [h0]; simp)) (fun ⟨x, hx, hxk⟩ => hex ⟨x, hx, hxk⟩)
    refine ⟨.slice none 0 0, fun w2 hw2 => ?_, by rw [hL]; exact World.ownsRow_nil w _ _ _⟩
    rcases hfd w2 with ⟨h1, _⟩ | ⟨j, e0, _, h2, h3⟩
    · simp [Instr.lookup, run_underlying ht, MapKept.run_getObj_map (hw2.trans h.blk), K.check w2 es.isEmpty hl, h1, hz, Result.andThen]
    · exact absurd ⟨e0, List.mem_of_getElem? h2, h3⟩ hex
open Classical in
theorem PlM.entry (K : KeyLaw P k) (hk : ∀ f, ∃ l, keyOf P k (kV f) = some l) {et : TypeId} (ht : P.underlying t = some (.map k et)) (hz : ∀ u : World, (zeroValue et).run P u = .ok (.slice none 0 0) u) {w : World} {base mb : Nat} {L : Value → List Nat} {No : Nat → Prop} {es : Array MapEntry} {clock : Nat} (h : PlM w base mb e L No es clock) (f : Nat → UInt8) (hNo : ∀ g, No g → g < w.heap.size) :
    ∃ (v : Value) (st : Nat) (es1 : Array MapEntry) (clock1 : Nat), (∀ w2 : World, w2.heap[mb]? = w.heap[mb]? → (Instr.mapEntry t (.map (some mb)) (kV f)).run P w2 = .ok (.tuple #[v, goInt st]) (setBlock w2 mb (.map es1 clock1))) ∧
      w.ownsRow base e 1 v (L (kV f)).length ((L (kV f)).map intV) ∧ (∀ g, v.ownBlock = some g → ¬ No g) ∧
      ∀ (w3 : World) (v' : Value) (x : Nat), w3.heap[mb]? = some (.map es1 clock1) → (∀ g, base ≤ g → g < w.heap.size → v.ownBlock ≠ some g → ¬ No g → w3.heap[g]? = w.heap[g]?) →
        w3.ownsRow base e 1 v' ((L (kV f)).length + 1) ((L (kV f)).map intV ++ [intV x]) → (v'.ownBlock = v.ownBlock ∨ ∃ g, v'.ownBlock = some g ∧ w.heap.size ≤ g) →
        ∃ es' clock', (Instr.entryStore t (.map (some mb)) (goInt st) v').run P w3 = .ok () (setBlock w3 mb (.map es' clock')) ∧
          PlM (setBlock w3 mb (.map es' clock')) base mb e (fun u => if u = kV f then L u ++ [x] else L u) No es' clock' := by
  obtain ⟨l, hl⟩ := hk f
  have hks : ∀ x ∈ es.toList, ∃ l, keyOf P k x.key = some l := fun x hx => by
    obtain ⟨g, hg⟩ := h.keys x hx
    rw [hg]; exact hk g
  have hfd := fun w2 => K.find w2 hl es.toList hks
  obtain ⟨s1, s2, s3⟩ := h.st
  have hmb := h.hb
  by_cases hex : ∃ x ∈ es.toList, x.key = kV f
  · -- the key is there
    obtain ⟨x0, hx0, hxk⟩ := hex
    obtain ⟨j, hj⟩ := List.mem_iff_getElem?.1 hx0
    have hjl := (List.getElem?_eq_some_iff.1 hj).1
    have hja : es[j]? = some x0 := by simpa using hj
    have hkj : ∀ i y, es.toList[i]? = some y → i ≠ j → y.key ≠ kV f := fun i y hy hij hyk => by
      refine hij ((List.getElem?_inj (l := es.toList.map (·.key)) (by rw [List.length_map]; exact (List.getElem?_eq_some_iff.1 hy).1) s3).1 ?_)
      rw [List.getElem?_map, List.getElem?_map, hy, hj]
      show some y.key = some x0.key
      rw [hyk, hxk]
    have hfj : ∀ w2 : World, (Instr.findKey k (kV f) es.toList).run P w2 = .ok (some (j, x0.val)) w2 := fun w2 => by
      rcases hfd w2 with ⟨_, h2⟩ | ⟨i, e0, h1, h2, h3⟩
      · exact absurd hxk (h2 x0 hx0)
      · by_cases e : i = j
        · subst e
          rw [hj] at h2
          rw [← Option.some.inj h2] at h1
          exact h1
        · exact absurd h3 (hkj i e0 h2 e)
    have hsame : es.modify j (fun e => { e with key := kV f }) = es := by
      apply Array.ext'
      rw [Array.toList_modify, modify_eq_set _ _ _ _ hj]
      have : ({ x0 with key := kV f } : MapEntry) = x0 := by rw [← hxk]
      rw [this]
      exact set_self _ _ _ hj
    refine ⟨x0.val, x0.born, es, clock, fun w2 hw2 => ?_, by rw [← hxk]; exact h.own x0 hx0, h.off x0 hx0, fun w3 v' x hw3 hrows hown hlies => ?_⟩
    · simp [Instr.mapEntry, run_underlying ht, MapKept.run_getObj_map (hw2.trans h.blk), K.check w2 false hl, hfj w2, hja, hxk, K.stays w2 hl, hsame, MapKept.run_setObj_map _ (hw2.trans h.blk), Result.andThen, setBlock]
    · have hidx : es.findIdx? (fun e => ((e.born : Nat) : Int) == ((x0.born : Nat) : Int)) = some j := by
        rw [findIdx_arr]
        exact findIdx_born s2 hj
      have hlt3 : mb < w3.heap.size := by
        rcases Nat.lt_or_ge mb w3.heap.size with hlt | hge
        · exact hlt
        · rw [Array.getElem?_eq_none hge] at hw3; cases hw3
      obtain ⟨es', hes'⟩ : ∃ es', es' = es.modify j (fun e => { e with val := v' }) := ⟨_, rfl⟩
      have hel : es'.toList = es.toList.set j { x0 with val := v' } := by rw [hes', Array.toList_modify, modify_eq_set _ _ _ _ hj]
      refine ⟨es', clock, ?_, ?_⟩
      · rw [hes']
        simp [Instr.entryStore, MapKept.run_getObj_map hw3, asInt, asIntOf, goInt, hidx, MapKept.run_setObj_map _ hw3, Result.andThen, setBlock]
      · have hmem : ∀ y ∈ es'.toList, y = { x0 with val := v' } ∨ (y ∈ es.toList ∧ y.key ≠ kV f) := fun y hy => by
          rw [hel] at hy
          rcases mem_set_cases hy with h1 | ⟨i, hij, hi⟩
          · exact .inl h1
          · exact .inr ⟨List.mem_of_getElem? hi, hkj i y hi hij⟩
        have hkeep : ∀ y ∈ es.toList, y.key ≠ kV f → ∀ g, y.val.ownBlock = some g → base ≤ g ∧ g < w.heap.size ∧ w3.heap[g]? = w.heap[g]? := fun y hy hyk g hg => by
          have hlt := (h.own y hy).lt g hg
          refine ⟨hlt.1, hlt.2, hrows g hlt.1 hlt.2 (fun e => ?_) (h.off y hy g hg)⟩
          exact h.sep y hy x0 hx0 (by rw [hxk]; exact hyk) g hg e
        have hvne : ∀ y ∈ es.toList, y.key ≠ kV f → ∀ g, y.val.ownBlock = some g → v'.ownBlock ≠ some g := fun y hy hyk g hg e => by
          rcases hlies with h1 | ⟨g', h1, h2⟩
          · exact h.sep y hy x0 hx0 (by rw [hxk]; exact hyk) g hg (by rw [← h1]; exact e)
          · have := (hkeep y hy hyk g hg).2.1
            rw [h1] at e
            have := Option.some.inj e
            omega
        refine ⟨setBlock_same _ _ _ hlt3, ⟨?_, ?_, ?_⟩, ?_, ?_, ?_, ?_, ?_, hmb⟩
        · intro y hy
          rcases hmem y hy with rfl | ⟨h1, _⟩
          · exact s1 x0 hx0
          · exact s1 y h1
        · rw [hel, List.map_set]
          show ((es.toList.map (·.born)).set j x0.born).Nodup
          rw [set_self _ _ _ (by rw [List.getElem?_map, hj]; rfl)]
          exact s2
        · rw [hel, List.map_set]
          show ((es.toList.map (·.key)).set j x0.key).Nodup
          rw [set_self _ _ _ (by rw [List.getElem?_map, hj]; rfl)]
          exact s3
        · intro y hy
          rcases hmem y hy with rfl | ⟨h1, _⟩
          · exact h.keys x0 hx0
          · exact h.keys y h1
        · intro y hy
          rcases hmem y hy with rfl | ⟨h1, h2⟩
          · show World.ownsRow _ base e 1 v' (if x0.key = kV f then L x0.key ++ [x] else L x0.key).length ((if x0.key = kV f then L x0.key ++ [x] else L x0.key).map intV)
            rw [if_pos hxk, hxk, List.length_append, List.map_append]
            exact own_of_block hown (fun g hg => setBlock_other _ _ _ _ (by have := (hown.lt g hg).1; omega))
          · show World.ownsRow _ base e 1 y.val (if y.key = kV f then L y.key ++ [x] else L y.key).length ((if y.key = kV f then L y.key ++ [x] else L y.key).map intV)
            rw [if_neg h2]
            refine own_of_block (h.own y h1) (fun g hg => ?_)
            obtain ⟨a1, a2, a3⟩ := hkeep y h1 h2 g hg
            rw [setBlock_other _ _ _ _ (by omega)]
            exact a3
        · intro y hy g hg
          rcases hmem y hy with rfl | ⟨h1, _⟩
          · have hg' : v'.ownBlock = some g := hg
            rcases hlies with h2 | ⟨g', h2, h3⟩
            · exact h.off x0 hx0 g (by rw [← h2]; exact hg')
            · intro e
              rw [hg'] at h2
              have e1 : g = g' := Option.some.inj h2
              have := hNo g e
              omega
          · exact h.off y h1 g hg
        · intro u hu
          by_cases e : u = kV f
          · exact ⟨{ x0 with val := v' }, by rw [hel]; exact List.mem_iff_getElem?.2 ⟨j, by rw [List.getElem?_set_self (by simpa using hjl)]⟩, by rw [e]; exact hxk⟩
          · obtain ⟨y, hy, hyk⟩ := h.all u (by simpa [if_neg e] using hu)
            obtain ⟨i, hi⟩ := List.mem_iff_getElem?.1 hy
            refine ⟨y, ?_, hyk⟩
            rw [hel]
            refine List.mem_iff_getElem?.2 ⟨i, ?_⟩
            rw [List.getElem?_set_ne (fun e2 => by subst e2; rw [hj] at hi; rw [← Option.some.inj hi] at hyk; exact e (hyk.symm.trans hxk))]
            exact hi
        · intro y hy z hz' hyz g hg
          rcases hmem y hy with rfl | ⟨h1, h2⟩
          · rcases hmem z hz' with rfl | ⟨h3, h4⟩
            · exact absurd rfl hyz
            · intro e2
              exact hvne z h3 h4 g e2 hg
          · rcases hmem z hz' with rfl | ⟨h3, h4⟩
            · exact hvne y h1 h2 g hg
            · exact h.sep y h1 z h3 hyz g hg
  · -- a key that is new
    have hne : ∀ y ∈ es.toList, y.key ≠ kV f := fun y hy e => hex ⟨y, hy, e⟩
    have hL : L (kV f) = [] := by
      rcases List.eq_nil_or_concat (L (kV f)) with h0 | ⟨_, _, h0⟩
      · exact h0
      · exact absurd (h.all (kV f) (by rw [h0]; simp)) (fun ⟨x, hx, hxk⟩ => hex ⟨x, hx, hxk⟩)
    have hfj : ∀ w2 : World, (Instr.findKey k (kV f) es.toList).run P w2 = .ok none w2 := fun w2 => by
      rcases hfd w2 with ⟨h1, _⟩ | ⟨i, e0, _, h2, h3⟩
      · exact h1
      · exact absurd h3 (hne e0 (List.mem_of_getElem? h2))
    refine ⟨.slice none 0 0, clock, es.push ⟨kV f, .slice none 0 0, clock⟩, clock + 1, fun w2 hw2 => ?_, by rw [hL]; exact World.ownsRow_nil w _ _ _, by intro g hg; simp [Value.ownBlock] at hg, fun w3 v' x hw3 hrows hown hlies => ?_⟩
    · simp [Instr.mapEntry, run_underlying ht, MapKept.run_getObj_map (hw2.trans h.blk), K.check w2 false hl, hfj w2, hz, MapKept.run_setObj_map _ (hw2.trans h.blk), Result.andThen, setBlock]
    · have hnod : ((es.push ⟨kV f, .slice none 0 0, clock⟩).toList.map (·.born)).Nodup := by
        simp only [Array.toList_push, List.map_append, List.map_cons, List.map_nil]
        refine List.nodup_append.2 ⟨s2, by simp, fun a ha c hc e1 => ?_⟩
        simp only [List.mem_singleton] at hc
        obtain ⟨x, hx, rfl⟩ := List.mem_map.1 ha
        have := s1 x hx
        omega
      have hidx : (es.push ⟨kV f, .slice none 0 0, clock⟩).findIdx? (fun e => ((e.born : Nat) : Int) == ((clock : Nat) : Int)) = some es.size := by
        rw [findIdx_arr]
        exact findIdx_born (j := es.size) (e0 := ⟨kV f, .slice none 0 0, clock⟩) hnod (by simp)
      have hmod : (es.push ⟨kV f, .slice none 0 0, clock⟩).modify es.size (fun e => { e with val := v' }) = es.push ⟨kV f, v', clock⟩ := by
        apply Array.ext'
        rw [Array.toList_modify, Array.toList_push, Array.toList_push, ← Array.length_toList, modify_last]
      have hlt3 : mb < w3.heap.size := by
        rcases Nat.lt_or_ge mb w3.heap.size with hlt | hge
        · exact hlt
        · rw [Array.getElem?_eq_none hge] at hw3; cases hw3
      have hnew : ∀ g, v'.ownBlock = some g → w.heap.size ≤ g := fun g hg => by
        rcases hlies with h1 | ⟨g', h1, h2⟩
        · rw [h1] at hg; simp [Value.ownBlock] at hg
        · rw [hg] at h1
          rw [Option.some.inj h1]; exact h2
      refine ⟨es.push ⟨kV f, v', clock⟩, clock + 1, ?_, ?_⟩
      · simp [Instr.entryStore, MapKept.run_getObj_map hw3, asInt, asIntOf, goInt, hidx, hmod, MapKept.run_setObj_map _ hw3, Result.andThen, setBlock]
      · have hmem : ∀ y ∈ (es.push ⟨kV f, v', clock⟩).toList, y = ⟨kV f, v', clock⟩ ∨ y ∈ es.toList := fun y hy => by
          rw [Array.toList_push] at hy
          rcases List.mem_append.1 hy with h1 | h1
          · exact .inr h1
          · exact .inl (by simpa using h1)
        have hkeep : ∀ y ∈ es.toList, ∀ g, y.val.ownBlock = some g → base ≤ g ∧ g < w.heap.size ∧ w3.heap[g]? = w.heap[g]? := fun y hy g hg => by
          have hlt := (h.own y hy).lt g hg
          exact ⟨hlt.1, hlt.2, hrows g hlt.1 hlt.2 (by simp [Value.ownBlock]) (h.off y hy g hg)⟩
        refine ⟨setBlock_same _ _ _ hlt3, ⟨?_, ?_, ?_⟩, ?_, ?_, ?_, ?_, ?_, hmb⟩
        · intro y hy
          rcases hmem y hy with rfl | h1
          · exact Nat.lt_succ_self _
          · exact Nat.lt_succ_of_lt (s1 y h1)
        · simpa using hnod
        · simp only [Array.toList_push, List.map_append, List.map_cons, List.map_nil]
          refine List.nodup_append.2 ⟨s3, by simp, fun a ha c hc e1 => ?_⟩
          simp only [List.mem_singleton] at hc
          obtain ⟨x, hx, rfl⟩ := List.mem_map.1 ha
          exact hne x hx (e1.trans hc)
        · intro y hy
          rcases hmem y hy with rfl | h1
          · exact ⟨f, rfl⟩
          · exact h.keys y h1
        · intro y hy
          rcases hmem y hy with rfl | h1
          · show World.ownsRow _ base e 1 v' (if kV f = kV f then L (kV f) ++ [x] else L (kV f)).length ((if kV f = kV f then L (kV f) ++ [x] else L (kV f)).map intV)
            rw [if_pos rfl, List.length_append, List.map_append]
            exact own_of_block hown (fun g hg => setBlock_other _ _ _ _ (by have := (hown.lt g hg).1; omega))
          · show World.ownsRow _ base e 1 y.val (if y.key = kV f then L y.key ++ [x] else L y.key).length ((if y.key = kV f then L y.key ++ [x] else L y.key).map intV)
            rw [if_neg (hne y h1)]
            refine own_of_block (h.own y h1) (fun g hg => ?_)
            obtain ⟨a1, a2, a3⟩ := hkeep y h1 g hg
            rw [setBlock_other _ _ _ _ (by omega)]
            exact a3
        · intro y hy g hg
          rcases hmem y hy with rfl | h1
          · intro e
            have := hNo g e
            have := hnew g hg
            omega
          · exact h.off y h1 g hg
        · intro u hu
          by_cases e : u = kV f
          · exact ⟨⟨kV f, v', clock⟩, by simp, e.symm⟩
          · obtain ⟨y, hy, hyk⟩ := h.all u (by simpa [if_neg e] using hu)
            exact ⟨y, by rw [Array.toList_push]; exact List.mem_append.2 (.inl hy), hyk⟩
        · intro y hy z hz' hyz g hg
          rcases hmem y hy with rfl | h1
          · rcases hmem z hz' with rfl | h3
            · exact absurd rfl hyz
            · intro e2
              have := (hkeep z h3 g e2).2.1
              have := hnew g hg
              omega
          · rcases hmem z hz' with rfl | h3
            · intro e2
              have := (hkeep y h1 g hg).2.1
              have := hnew g e2
              omega
            · exact h.sep y h1 z h3 hyz g hg
end
end Go.Proofs.YtdoodkabmeojmaaDoor

/- The walks over the program's take and newDecoder. -/
import Derived.Test.YtdoodkabmeojmaaDoorRngP
import Derived.Test.YtdoodkabmeojmaaDoorRngC
import Derived.Test.YtdoodkabmeojmaaDoorRangeN
namespace Go.Proofs.YtdoodkabmeojmaaDoor
open Go.RowKit
/-- What of a text is not taken yet. -/
def restOf (t : ByteArray) (k : Nat) : ByteArray := t.extract k t.size
theorem rest_size (t : ByteArray) (k : Nat) : (restOf t k).size = t.size - k := by unfold restOf; rw [ByteArray.size_extract]; omega
theorem rest_at (t : ByteArray) (k : Nat) (h : k < t.size) : ((restOf t k)[0]'(by rw [rest_size]; omega)).toNat = tbN t k := by
  have h1 : (restOf t k)[0]'(by rw [rest_size]; omega) = t[k] := by
    unfold restOf
    rw [ByteArray.getElem_extract]
    congr 1
  rw [h1]; exact tbN_in t k h
theorem rest_next (t : ByteArray) (k : Nat) : (restOf t k).extract 1 (restOf t k).size = restOf t (k + 1) := by
  rw [rest_size]
  unfold restOf
  rw [ByteArray.extract_extract]
  congr 1; omega
theorem rest_end (t : ByteArray) (k : Nat) (h : t.size ≤ k) : restOf t k = restOf t (k + 1) := by
  have e : ∀ j, t.size ≤ j → restOf t j = ByteArray.empty := fun j hj => ByteArray.size_eq_zero_iff.1 (by rw [rest_size]; omega)
  rw [e k h, e (k + 1) (by omega)]
set_option maxRecDepth 100000 in
set_option maxHeartbeats 800000 in
theorem imp_take (g size x k : Nat) (ch : Nat → Nat) (t : ByteArray) (w : World) (hts : t.size ≤ 9223372036854775807) (hr : w.rowIs g 122 1603 (cdF size ch x (.string (restOf t k)))) :
    Calls Tryd.prog 65 #[.pointer (some ⟨g, 0, none⟩)] w fun e w' => e = .returned (.tuple #[]) ∧ w'.rowIs g 122 1603 (cdF size ch ((256 * x + tbN t k) % 18446744073709551616) (.string (restOf t (k + 1)))) ∧ w.grownBy w' (some g) := by
  obtain ⟨_, c1, c2, _⟩ := cd_cells hr
  have f1 := hr.frozen 1601
  have f2 := hr.frozen 1602
  obtain ⟨X, hX⟩ : ∃ X, X = x * 256 % 18446744073709551616 := ⟨_, rfl⟩
  have kX : (x : Int) * 256 % 18446744073709551616 = (X : Int) := by omega
  have kX2 : IntKind.u64.wrap ((x : Int) * 256) = (X : Int) := by rw [IntKind.wrap_u64]; omega
  have R1 := (cd_set hr).2.1 X
  obtain ⟨_, d1, d2, _⟩ := cd_cells R1
  have e1 := R1.frozen 1601
  have e2 := R1.frozen 1602
  have G1 := grownBy_set (i := 1601) (grown0 w (some g)) (.int .u64 (X : Int))
  have hsz := rest_size t k
  by_cases hlt : k < t.size
  · have hb := rest_at t k hlt
    have hn := rest_next t k
    have htb8 := tbN_lt t k
    obtain ⟨R, hR⟩ : ∃ R, R = restOf t k := ⟨_, rfl⟩
    have hRs : 0 < R.size := by rw [hR, hsz]; omega
    have hRs' : (0 : Int) < (R.size : Int) := by omega
    have hRs2 : (1 : Int) ≤ (R.size : Int) := by omega
    have hR63 : R.size ≤ 9223372036854775807 := by rw [hR, hsz]; omega
    obtain ⟨b, hbe⟩ : ∃ b, b = tbN t k := ⟨_, rfl⟩
    have hb0 : (R[0]).toNat = b := by rw [hbe, ← hb]; simp only [hR]
    obtain ⟨N, hN⟩ : ∃ N, N = restOf t (k + 1) := ⟨_, rfl⟩
    rw [← hR, ← hN] at hn
    rw [← hR] at hr c2 R1 d2
    obtain ⟨Y, hY⟩ : ∃ Y, Y = (256 * x + b) % 18446744073709551616 := ⟨_, rfl⟩
    have kY : IntKind.u64.wrap ((X : Int) + (b : Int)) = (Y : Int) := by rw [IntKind.wrap_u64]; omega
    have kb : IntKind.u64.wrap (b : Int) = (b : Int) := by rw [IntKind.wrap_u64]; omega
    have HE := hide (show Y = (256 * x + tbN t k) % 18446744073709551616 ∧ N = restOf t (k + 1) from ⟨by rw [hY, hbe], hN⟩)
    have H := hide (And.intro R1 G1)
    clear hb hX hY hN hbe hR hsz hr R1 G1
    go_enter Tryd.func65, Tryd.ntmps65
    go_wp2_with fail
    generalize w.setCell ⟨g, 1601, none⟩ (.int .u64 (X : Int)) = W1 at *
    clear c1 c2 f1 f2
    obtain ⟨R1, G1⟩ := H.out
    have R2 := ((cd_set R1).2.1 Y).drew
    have G2 := grownBy_drew (grownBy_set (i := 1601) G1 (.int .u64 (Y : Int)))
    have H2 := hide (And.intro R2 G2)
    clear R1 G1 H R2 G2
    go_region
    obtain ⟨R2, G2⟩ := H2.out
    clear d1 d2 e1 e2 H2 kX kX2 kY kb
    generalize (W1.setCell ⟨g, 1601, none⟩ (.int .u64 (Y : Int))).drew = W2 at *
    obtain ⟨_, d1, d2, _⟩ := cd_cells R2
    have e2 := R2.frozen 1602
    have R3 := (cd_set R2).2.2.1 (.string N)
    have G3 := grownBy_set (i := 1602) G2 (.string N)
    have H3 := hide (And.intro R3 G3)
    clear R2 G2 R3 G3
    go_wp2_with fail
    go_end0
    exact ⟨rfl, by rw [← HE.out.1, ← HE.out.2]; exact H3.out.1, H3.out.2⟩
  · have HE := hide (show X = (256 * x + tbN t k) % 18446744073709551616 ∧ restOf t k = restOf t (k + 1) from ⟨by rw [tbN_far t k (by omega), hX]; omega, rest_end t k (by omega)⟩)
    obtain ⟨R, hR⟩ : ∃ R, R = restOf t k := ⟨_, rfl⟩
    have hRs : R.size = 0 := by rw [hR, hsz]; omega
    have hRs' : ¬ (0 : Int) < (R.size : Int) := by omega
    have H := hide (And.intro R1 G1)
    rw [← hR] at c2 d2 H HE
    clear hX hsz hr R1 G1 hR
    go_enter Tryd.func65, Tryd.ntmps65
    go_wp2_with fail
    go_end0
    exact ⟨rfl, by rw [← HE.out.1, ← HE.out.2]; exact H.out.1, H.out.2⟩
/-- A decoder of the program at work. -/
def DecP (w : World) (g : Nat) (t : ByteArray) (s : RC) (x : Nat) : Prop := w.rowIs g 122 1603 (cdF s.size s.ch x (.string (restOf t (s.n + 4))))
set_option maxRecDepth 100000 in
set_option maxHeartbeats 800000 in
theorem imp_newDecoder (t : ByteArray) (w : World) (hts : t.size ≤ 9223372036854775807) :
    Calls Tryd.prog 45 #[.string t] w fun e w' => ∃ g, e = .returned (.pointer (some ⟨g, 0, none⟩)) ∧ w.heap.size ≤ g ∧ DecP w' g t rc0 (pv (tbN t) 4) ∧ Below w.heap.size w w' := by
  go_enter Tryd.func45, Tryd.ntmps45
  go_wp2_with fail
  refine (imp_parting w).mono ?_
  rintro e w2 ⟨rfl, hb2⟩
  have HBT := hide (Tryd.builtDec 4294967295 (fun _ => 1024) t)
  go_wp2_with (first | (with_reducible (show wpList _ _ _ ({ dst := _, op := .build _ _, type := _, pos := _, after := _, guard := _ } :: _) _ _); refine wpList_build_2 rfl 122 0 _ 2 _ rfl (.agg (vL 1601 (parF 4294967295 fun _ => 1024)).toArray) rfl (.string t) rfl _ HBT.out ?_))
  have R3 := vrow_alloc w2 122 1603 (cdF 4294967295 (fun _ => 1024) 0 (.string t))
  have B3 := hide (hb2.alloc hb2.size (.cells (vL 1603 (cdF 4294967295 (fun _ => 1024) 0 (.string t))).toArray 122))
  have hg2 := hb2.size
  generalize w2.alloc (.cells (vL 1603 (cdF 4294967295 (fun _ => 1024) 0 (.string t))).toArray 122) = W3 at *
  generalize w2.heap.size = g at *
  have hrest : restOf t 0 = t := by unfold restOf; exact ByteArray.extract_zero_size
  have R0 := hide (show W3.rowIs g 122 1603 (cdF 4294967295 (fun _ => 1024) 0 (.string (restOf t 0))) by rw [hrest]; exact R3)
  clear hrest R3 hb2 HBT
  go_loopw [8] (fun i wx => ∃ k : Nat, k ≤ 4 ∧ i = .int .i64 k ∧ Hid (wx.rowIs g 122 1603 (cdF 4294967295 (fun _ => 1024) (pv (tbN t) k) (.string (restOf t k)))) ∧ Hid (Below w.heap.size w wx)) (fun i _ => 4 - (intOf i).toNat)
  case atStart => exact ⟨0, by omega, rfl, R0, B3⟩
  case round =>
    clear R0 B3
    obtain ⟨k, hk, rfl, hr, hb⟩ := hrel
    by_cases hk4 : k < 4
    · have hk4' : (k : Int) < 4 := by omega
      have hp := pv_lt (tbN t) (tbN_lt t) k
      have hp2 : 256 ^ k ≤ 256 ^ 3 := Nat.pow_le_pow_right (by omega) (by omega)
      have hp3 : pv (tbN t) k < 16777216 := Nat.lt_of_lt_of_le hp hp2
      have ht8 := tbN_lt t k
      have SN := hide (imp_take g 4294967295 (pv (tbN t) k) k (fun _ => 1024) t wr hts hr.out)
      rw [Nat.mod_eq_of_lt (by omega)] at SN
      have hgl := hr.out.lt
      clear hr
      go_wp2_with fail
      refine SN.out.mono ?_
      rintro e w2 ⟨rfl, hr2, hg2'⟩
      have hb2 := hide (hb.out.trans (grownBy_below hg2' hg2 hb.out.size))
      have hr3 := hide hr2
      clear hr2 hg2' hb SN
      go_wp2_with fail
      go_roundw
      case rel => exact ⟨k + 1, by omega, by go_num, hr3, hb2⟩
      case measure => simp [intOf]; omega
    · have hk4' : ¬ (k : Int) < 4 := by omega
      have hfin := hide (show DecP wr g t rc0 (pv (tbN t) 4) by have h := hr.out; rw [show k = 4 by omega] at h; exact h)
      clear hr
      go_wp2_with fail
      go_ret
      exact ⟨g, rfl, hg2, hfin.out, hb.out⟩
end Go.Proofs.YtdoodkabmeojmaaDoor

/- The walk over the model's l07Read. -/
import Derived.Test.YtdoodkabmeojmaaDoorPackF
import Derived.Test.YtdoodkabmeojmaaDoorRangeD
import Derived.Test.YtdoodkabmeojmaaDoorBitsM
namespace Go.Proofs.YtdoodkabmeojmaaDoor
open Go.RowKit
/-- What holds of a decoder at work. -/
structure DecOk (st : RC × Nat) (m : Nat) : Prop where
  ok : RcOk st.1
  x : st.2 < 18446744073709551616
  n : st.1.n ≤ m
theorem DecOk.next (tb : Nat → Nat) (st : RC × Nat) (c m : Nat) (h : DecOk st m) : DecOk (dnext tb st c) (m + 1) := by
  refine ⟨step_ok _ _ _ h.ok, ?_, ?_⟩
  · show dx tb st.1 st.2 c < _
    have := h.x
    unfold dx
    split
    · exact Nat.mod_lt _ (by decide)
    · unfold dx1; split <;> omega
  · have h2 : (step st.1 c (dbit st.1 st.2 c)).n ≤ st.1.n + 1 := by have := norm_n_le (part1 st.1 c (dbit st.1 st.2 c)); rw [part1_n] at this; exact this
    have := h.n
    show (step st.1 c (dbit st.1 st.2 c)).n ≤ m + 1
    omega
theorem readG_ok (tb : Nat → Nat) (base : Nat) : ∀ k st node m, DecOk st m → DecOk (readG tb base k st node).1 (m + k)
  | 0, _, _, _, h => h
  | k + 1, st, node, m, h => by
    have := readG_ok tb base k (dnext tb st (base + node)) (2 * node + bN (dbit st.1 st.2 (base + node))) (m + 1) (DecOk.next tb st _ m h)
    rw [show m + 1 + k = m + (k + 1) by omega] at this
    exact this
theorem Two.trans {g gc : Nat} {w w1 w2 : World} (h : Two g gc w w1) (h2 : Two g gc w1 w2) : Two g gc w w2 :=
  ⟨h2.os.trans h.os, h2.tape.trans h.tape, h2.output.trans h.output, Nat.le_trans h.size h2.size, fun k hk h1 h3 => (h2.block k (Nat.lt_of_lt_of_le hk h.size) h1 h3).trans (h.block k hk h1 h3)⟩
set_option maxRecDepth 100000 in
set_option maxHeartbeats 800000 in
theorem spec_read (g gc many base m P2 : Nat) (t : ByteArray) (st : RC × Nat) (w : World) (hP : P2 = 2 ^ many) (hm : many ≤ 10) (hb : base ≤ 400) (hok : DecOk st m) (hmn : m ≤ 80000) (hts : t.size ≤ 9223372036854775807) (hdec : Dec w g gc t st.1 st.2) (hne : g ≠ gc) :
    Calls Tryd.prog 50 #[.pointer (some ⟨g, 0, none⟩), .int .i64 (many : Int), .int .i64 (base : Int)] w fun e w' => e = .returned (.int .i64 (((readG (tbN t) base many st 1).2 - P2 : Nat) : Int)) ∧ Dec w' g gc t (readG (tbN t) base many st 1).1.1 (readG (tbN t) base many st 1).1.2 ∧ Two g gc w w' := by
  have hP1024 : P2 ≤ 1024 := by rw [hP]; exact Nat.le_trans (Nat.pow_le_pow_right (by omega) hm) (by decide)
  have hn1 := readG_node (tbN t) base many st 1
  rw [← hP] at hn1
  obtain ⟨R, hR⟩ : ∃ R, R = readG (tbN t) base many st 1 := ⟨_, rfl⟩
  rw [← hR] at hn1 ⊢
  have HR := hide hR
  have HD := hide hdec
  have HPP := hide hP
  clear hR hdec hP
  go_enter Tryd.func50, Tryd.ntmps50
  go_wp2_with fail
  go_loopw [7, 8] (fun nd i wx => ∃ (k node : Nat) (s : RC × Nat), k ≤ many ∧ node < 2 ^ (k + 1) ∧ i = .int .i64 (k : Int) ∧ nd = .int .i64 (node : Int) ∧ Hid (readG (tbN t) base (many - k) s node = R) ∧ Hid (DecOk s (m + k)) ∧ Hid (Dec wx g gc t s.1 s.2) ∧ Hid (Two g gc w wx)) (fun _ i _ => many - (intOf i).toNat)
  case atStart => exact ⟨0, 1, st, Nat.zero_le _, by decide, rfl, rfl, HR.out.symm, hok, HD, Two.refl _ _ _⟩
  case round =>
    clear HD
    obtain ⟨k, node, s, hk, hnd, rfl, rfl, hre, hso, hd, htw⟩ := hrel
    have hnode : node < 2048 := Nat.lt_of_lt_of_le hnd (Nat.le_trans (Nat.pow_le_pow_right (by omega) (show k + 1 ≤ 11 by omega)) (by decide))
    by_cases hlt : k < many
    · have hlt' : (k : Int) < (many : Int) := by omega
      have hnode2 : node < 1024 := Nat.lt_of_lt_of_le hnd (Nat.le_trans (Nat.pow_le_pow_right (by omega) (show k + 1 ≤ 10 by omega)) (by decide))
      obtain ⟨c, hc⟩ : ∃ c, c = base + node := ⟨_, rfl⟩
      have s1 : (base : Int) + (node : Int) = (c : Int) := by omega
      have SB := hide (spec_dbit g gc c s.2 t s.1 wr hso.out.ok (by have := hso.out.n; omega) (by omega) hso.out.x hts hd.out hne)
      obtain ⟨bit, hbit⟩ : ∃ b, b = dbit s.1 s.2 c := ⟨_, rfl⟩
      have HRE := hide (show readG (tbN t) base (many - (k + 1)) (dnext (tbN t) s c) (2 * node + bN bit) = R by
        rw [← hre.out, show many - k = (many - (k + 1)) + 1 by omega, hbit, hc]; rfl)
      have HSO := hide (DecOk.next (tbN t) s c (m + k) hso.out)
      have HND := hide (show 2 * node + bN bit < 2 ^ (k + 1 + 1) by
        have := bN_le bit
        rw [Nat.pow_succ]; omega)
      rw [← hbit] at SB
      have HDE := hide (show dnext (tbN t) s c = (step s.1 c bit, dx (tbN t) s.1 s.2 c) by unfold dnext; rw [← hbit])
      have hcb : (c : Int) ≤ 2000 := by omega
      have hnb : (node : Int) ≤ 1024 := by omega
      clear hbit hc hre hso hd hnd
      go_wp2_with fail
      refine SB.out.mono ?_
      rintro e w2 ⟨rfl, hd2, ht2⟩
      have HD2 := hide (show Dec w2 g gc t (dnext (tbN t) s c).1 (dnext (tbN t) s c).2 by rw [HDE.out]; exact hd2)
      have HT2 := hide (htw.out.trans ht2)
      clear hd2 ht2 htw SB HDE
      cases bit with
      | true =>
        go_wp2_with fail
        go_roundw
        case rel => exact ⟨k + 1, 2 * node + 1, dnext (tbN t) s c, by omega, HND.out, by go_num, congrArg _ (by omega), HRE, HSO, HD2, HT2⟩
        case measure => simp [intOf]; omega
      | false =>
        go_wp2_with fail
        go_roundw
        case rel => exact ⟨k + 1, 2 * node, dnext (tbN t) s c, by omega, HND.out, by go_num, congrArg _ (by omega), HRE, HSO, HD2, HT2⟩
        case measure => simp [intOf]; omega
    · have hlt' : ¬ (k : Int) < (many : Int) := by omega
      have hkm : k = many := by omega
      have e := hre.out
      rw [hkm, Nat.sub_self] at e
      have e2 : R = (s, node) := e.symm
      have HD2 := hide (show Dec wr g gc t R.1.1 R.1.2 by rw [e2]; exact hd.out)
      have hn2 : R.2 = node := by rw [e2]
      rw [hn2] at hn1
      have HN2 := hide hn2
      clear e e2 hre hso hd hnd hn2
      have e1 : (2 : Int) ^ many = (P2 : Int) := by rw [HPP.out]; simp
      obtain ⟨d, hd⟩ : ∃ d, d = node - P2 := ⟨_, rfl⟩
      have e3 : (node : Int) - (P2 : Int) = (d : Int) := by omega
      have hdb : (d : Int) ≤ 2048 := by omega
      have hpb : (P2 : Int) ≤ 1024 := by omega
      have hnb : (node : Int) ≤ 2048 := by omega
      have HDD := hide hd
      clear hd hkm
      go_wp2_with fail
      go_ret
      exact ⟨by rw [HN2.out, ← HDD.out]; rfl, HD2.out, htw.out⟩
end Go.Proofs.YtdoodkabmeojmaaDoor

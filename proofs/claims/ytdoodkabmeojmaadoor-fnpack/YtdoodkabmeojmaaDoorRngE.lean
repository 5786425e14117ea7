/- The walk over the program's end. -/
import Derived.Test.YtdoodkabmeojmaaDoorRngQ
import Derived.Test.YtdoodkabmeojmaaDoorRangeEnc
namespace Go.Proofs.YtdoodkabmeojmaaDoor
open Go.RowKit
set_option maxRecDepth 100000 in
set_option maxHeartbeats 800000 in
theorem imp_endK (base g N : Nat) (Mo : Nat → Prop) (s : RC) (w : World) (hn : s.n ≤ 90000) (hbg : base ≤ g) (hcod : CodK w base g N Mo s) (hN : N ≤ w.heap.size) :
    Calls Tryd.prog 17 #[.pointer (some ⟨g, 0, none⟩)] w fun e w' => e = .returned (.string ⟨(bytesOf (s.n + 4) s.low).toArray⟩) ∧ Below base w w' ∧ FrK N g Mo w w' := by
  have HC := hide hcod
  clear hcod
  go_enter Tryd.func17, Tryd.ntmps17
  go_wp2_with fail
  go_loopw [3] (fun i wx => ∃ k : Nat, k ≤ 4 ∧ i = .int .i64 k ∧ Hid (∃ ov, wx.rowIs g 64 1603 (cdF s.size s.ch (256 ^ k * s.low % 4294967296) ov) ∧ ownB wx base ov (s.n + k) (byN (s.n + k) (256 ^ k * s.low / 4294967296)) ∧ ov.ownBlock ≠ some g ∧ ∀ j, ov.ownBlock = some j → Mo j ∨ N ≤ j) ∧ Hid (Below base w wx) ∧ Hid (FrK N g Mo w wx) ∧ N ≤ wx.heap.size) (fun i _ => 4 - (intOf i).toNat)
  case atStart => exact ⟨0, by omega, rfl, by unfold Hid; rw [Nat.pow_zero, Nat.one_mul]; exact HC.out, Below.refl _ _, FrK.refl _ _ _ _, hN⟩
  case round =>
    clear HC hN
    obtain ⟨k, hk, rfl, hcod, hbel, hfr, hNr⟩ := hrel
    obtain ⟨ov, hr, ho, hd, hmo⟩ := hcod.out
    have HMO := hide hmo
    clear hmo
    by_cases hlt : k < 4
    · have hlt' : (k : Int) < 4 := by omega
      have SS := hide (imp_shiftK base g s.size (256 ^ k * s.low) (s.n + k) s.ch ov wr (by omega) hbg hr ho hd)
      rw [show 256 * (256 ^ k * s.low) = 256 ^ (k + 1) * s.low by rw [Nat.pow_succ, Nat.mul_comm (256 ^ k) 256, Nat.mul_assoc]] at SS
      clear hcod hr ho
      go_wp2_with fail
      refine SS.out.mono ?_
      rintro e w2 ⟨rfl, C2, hb2, K2⟩
      have H2 := hide (show ∃ ov, w2.rowIs g 64 1603 (cdF s.size s.ch (256 ^ (k + 1) * s.low % 4294967296) ov) ∧ ownB w2 base ov (s.n + (k + 1)) (byN (s.n + (k + 1)) (256 ^ (k + 1) * s.low / 4294967296)) ∧ ov.ownBlock ≠ some g ∧ ∀ j, ov.ownBlock = some j → Mo j ∨ N ≤ j from by
        obtain ⟨o3, r3, p3, q3, s3⟩ := C2
        exact ⟨o3, r3, p3, q3, fun j hj => by rcases s3 j hj with h | h; exact HMO.out j h; exact .inr (by omega)⟩)
      have HB2 := hide (hbel.out.trans hb2)
      have HF2 := hide (hfr.out.trans (FrK.of_off hb2.size K2 hNr HMO.out))
      have hN2 : N ≤ w2.heap.size := by have := hb2.size; omega
      clear C2 hb2 SS hbel K2 hfr
      go_wp2_with fail
      go_roundw
      case rel => exact ⟨k + 1, by omega, by go_num, H2, HB2, HF2, hN2⟩
      case measure => simp [intOf]; omega
    · have hlt' : ¬ (k : Int) < 4 := by omega
      rw [show k = 4 by omega] at ho
      have ho' : wr.ownsRow base 5 1 ov (s.n + 4) ((bytesOf (s.n + 4) s.low).map byteV) := by
        have e : 256 ^ 4 * s.low / 4294967296 = s.low := Nat.mul_div_cancel_left _ (by decide)
        unfold ownB at ho
        rw [e] at ho
        rw [bytesOf_byN, List.map_map]; exact ho
      have c2 := (cd_cells hr).2.2.1
      obtain ⟨X, hX⟩ : ∃ X : ByteArray, X = ⟨(bytesOf (s.n + 4) s.low).toArray⟩ := ⟨_, rfl⟩
      have hcv : (convert 22 9 ov).run Tryd.prog wr = .ok (.string X) wr := by
        obtain ⟨go, cap, rfl, _, _⟩ := ownB.form (f := byN (s.n + 4) s.low) (show ownB wr base ov (s.n + 4) (byN (s.n + 4) s.low) by unfold ownB; rw [bytesOf_byN, List.map_map] at ho'; exact ho') (by omega)
        rw [hX]
        exact conv_own (P := Tryd.prog) ho' (bytesOf_len _ _) Tryd.underlying22 Tryd.underlying5 Tryd.underlying9
      have HX := hide hX
      clear hX ho ho' hr hd hcod
      go_wp2_with fail
      go_ret
      exact ⟨by rw [← HX.out]; rfl, hbel.out, hfr.out⟩
theorem imp_end (base g : Nat) (s : RC) (w : World) (hn : s.n ≤ 90000) (hbg : base ≤ g) (hcod : CodR w base g s) :
    Calls Tryd.prog 17 #[.pointer (some ⟨g, 0, none⟩)] w fun e w' => e = .returned (.string ⟨(bytesOf (s.n + 4) s.low).toArray⟩) ∧ Below base w w' := by
  obtain ⟨ov, hr, ho, hd⟩ := hcod
  exact (imp_endK base g 0 (fun _ => False) s w hn hbg ⟨ov, hr, ho, hd, fun _ _ => .inr (Nat.zero_le _)⟩ (Nat.zero_le _)).mono fun e w' ⟨h1, h2, _⟩ => ⟨h1, h2⟩
end Go.Proofs.YtdoodkabmeojmaaDoor

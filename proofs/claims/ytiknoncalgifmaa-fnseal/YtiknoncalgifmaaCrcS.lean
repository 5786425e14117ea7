/- The walk over the model's l01Crc. -/
import Derived.Test.YtiknoncalgifmaaRows
import Derived.Test.YtiknoncalgifmaaCrc
import Derived.Test.YtiknoncalgifmaaOwn
import Derived.WalkKit
namespace Go.Proofs.Ytiknoncalgifmaa
open Go.RowKit

set_option maxRecDepth 100000 in
set_option maxHeartbeats 1600000 in
theorem spec_l01Crc (c : Nat) (s : ByteArray) (w : World) (hc : (c : Int) ≤ 4294967295) (hs : s.size ≤ 9223372036854775807) :
    Calls Try.prog 26 #[.int .i64 c, .string s] w fun e w' => e = .returned (.int .i64 (crcMore c s.data.toList)) ∧ w = w' := by
  have hn := u32_not c (by omega)
  have hlt0 := xor_lt32 c 4294967295 (by omega) (by omega)
  go_enter Try.func26, Try.ntmps26
  go_wp2_with fail
  go_loop [5, 6] (fun r i => ∃ (k R : Nat), k ≤ s.size ∧ i = .int .i64 k ∧ (R : Int) ≤ 4294967295 ∧ r = .int .u32 R ∧ Hid (crcAll R (s.data.toList.drop k) = crcAll (c ^^^ 4294967295) s.data.toList)) (fun _ i => s.size - (intOf i).toNat)
  case atStart => exact ⟨0, c ^^^ 4294967295, by omega, rfl, by omega, rfl, rfl⟩
  case round =>
    obtain ⟨k, R, hk, rfl, hR, rfl, hall⟩ := hrel
    clear hn hlt0
    by_cases hlt : k < s.size
    · have hb : (s[k].toNat : Int) ≤ 255 := by have := s[k].toNat_lt; omega
      have hx := u32_xor R s[k].toNat (by omega) (by omega)
      have hx2 := xor_lt32 R s[k].toNat (by omega) (by omega)
      have hstep := hide (all_step s k R _ hlt hall.out)
      clear hall
      go_wp2_with fail
      go_loop [5, 7] (fun r i => ∃ (m Q : Nat), m ≤ 8 ∧ i = .int .i64 m ∧ (Q : Int) ≤ 4294967295 ∧ r = .int .u32 Q ∧ Hid (crcBits (8 - m) Q = crcByte R s[k])) (fun _ i => 8 - (intOf i).toNat)
      case atStart => exact ⟨0, R ^^^ s[k].toNat, by omega, rfl, by omega, rfl, rfl⟩
      case round =>
        obtain ⟨m, Q, hm, rfl, hQ, rfl, hbit⟩ := hrel
        clear hx hx2
        by_cases hm8 : m < 8
        · have hst := hide (bits_step m Q _ hm8 hbit.out)
          have ha := u32_and1 Q (by omega) (by omega)
          have hp := u32_poly Q (by omega)
          have hql := crcBit_lt Q (by omega)
          clear hbit hstep
          rcases (show Q % 2 = 1 ∨ Q % 2 = 0 from by omega) with h1 | h1
          · have hb1 : ((Q : Int) % 2 == 1) = true := by simp; omega
            have hy := bit_yes Q h1
            rw [hy] at hst hql
            clear hy h1
            go_wp2_with fail
            go_round
            case rel => exact ⟨m + 1, Q / 2 ^^^ 3988292384, by omega, by go_num, by omega, rfl, hst⟩
            case measure => simp [intOf]; omega
          · have hb1 : ((Q : Int) % 2 == 1) = false := by simp; omega
            have hy := bit_no Q h1
            rw [hy] at hst
            clear hy h1 hp
            go_wp2_with fail
            go_round
            case rel => exact ⟨m + 1, Q / 2, by omega, by go_num, by omega, by go_num, hst⟩
            case measure => simp [intOf]; omega
        · have hq : Q = crcByte R s[k] := by
            have e : 8 - m = 0 := by omega
            have := hbit.out
            rw [e] at this; exact this
          have HQ := hide hq
          clear hq hbit
          go_wp2_with fail
          go_round
          case rel => exact ⟨k + 1, Q, by omega, by go_num, by omega, rfl, by rw [unhide HQ]; exact hstep⟩
          case measure => simp [intOf]; omega
    · have he := all_end s k R _ (by omega) hall.out
      have hn := u32_not R (by omega)
      have hl := xor_lt32 R 4294967295 (by omega) (by omega)
      have HE := hide he
      clear he hall
      go_wp2_with fail
      go_ret
      exact ⟨ret_int (by unfold crcMore; rw [← unhide HE]), rfl⟩
end Go.Proofs.Ytiknoncalgifmaa

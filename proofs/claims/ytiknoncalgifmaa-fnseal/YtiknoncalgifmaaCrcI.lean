/- The walks over the program's crcByte, CrcMore and Crc, and the model's CrcMore and Crc. -/
import Derived.Test.YtiknoncalgifmaaCrcS
namespace Go.Proofs.Ytiknoncalgifmaa
open Go.RowKit

theorem u32_unot (a : Nat) (ha : a < 4294967296) : bits .xor .u32 IntKind.u32.max (a : Int) = ((a ^^^ 4294967295 : Nat) : Int) := by
  have e : IntKind.u32.max = ((4294967295 : Nat) : Int) := by decide
  rw [e, u32_xor 4294967295 a (by omega) ha, Nat.xor_comm]

set_option maxRecDepth 100000 in
set_option maxHeartbeats 1600000 in
theorem impl_crcByte (R : Nat) (b : UInt8) (w : World) (hR : (R : Int) ≤ 4294967295) :
    Calls Try.prog 29 #[.int .u32 R, .int .u8 b.toNat] w fun e w' => e = .returned (.int .u32 (crcByte R b)) ∧ w = w' := by
  have hb : (b.toNat : Int) ≤ 255 := by have := b.toNat_lt; omega
  have hx := u32_xor R b.toNat (by omega) (by omega)
  have hx2 := xor_lt32 R b.toNat (by omega) (by omega)
  go_enter Try.func29, Try.ntmps29
  go_wp2_with fail
  go_loop [0, 10] (fun r i => ∃ (m Q : Nat), m ≤ 8 ∧ i = .int .i64 m ∧ (Q : Int) ≤ 4294967295 ∧ r = .int .u32 Q ∧ Hid (crcBits (8 - m) Q = crcByte R b)) (fun _ i => 8 - (intOf i).toNat)
  case atStart => exact ⟨0, R ^^^ b.toNat, by omega, rfl, by omega, rfl, rfl⟩
  case round =>
    obtain ⟨m, Q, hm, rfl, hQ, rfl, hbit⟩ := hrel
    clear hx hx2
    by_cases hm8 : m < 8
    · have hst := hide (bits_step m Q _ hm8 hbit.out)
      have ha := u32_and1 Q (by omega) (by omega)
      have hp := u32_poly Q (by omega)
      have hql := crcBit_lt Q (by omega)
      clear hbit
      rcases (show Q % 2 = 1 ∨ Q % 2 = 0 from by omega) with h1 | h1
      · have hb1 : ((Q : Int) % 2 == 1) = true := by simp; omega
        have hy := bit_yes Q h1
        rw [hy] at hst hql
        clear hy h1
        go_wp2_with fail
        go_round
        case rel => exact ⟨m + 1, Q / 2 ^^^ 3988292384, by omega, by go_num, by omega, rfl, hst⟩
        case measure => simp [intOf]; omega
      · have hb1 : ((Q : Int) % 2 == 1) = false := by simp; omega
        have hy := bit_no Q h1
        rw [hy] at hst
        clear hy h1 hp
        go_wp2_with fail
        go_round
        case rel => exact ⟨m + 1, Q / 2, by omega, by go_num, by omega, by go_num, hst⟩
        case measure => simp [intOf]; omega
    · have hq : Q = crcByte R b := by
        have e : 8 - m = 0 := by omega
        have := hbit.out
        rw [e] at this; exact this
      have HQ := hide hq
      clear hq hbit
      go_wp2_with fail
      go_ret
      exact ⟨ret_int (by rw [unhide HQ]), rfl⟩

set_option maxRecDepth 100000 in
set_option maxHeartbeats 1600000 in
theorem impl_crcMore (c : Nat) (s : ByteArray) (w : World) (hc : (c : Int) ≤ 4294967295) (hs : s.size ≤ 20000) :
    Calls Try.prog 13 #[.int .i64 c, .string s] w fun e w' => e = .returned (.int .i64 (crcMore c s.data.toList)) ∧ w = w' := by
  have hn := u32_unot c (by omega)
  have hlt0 := xor_lt32 c 4294967295 (by omega) (by omega)
  go_enter Try.func13, Try.ntmps13
  go_wp2_with fail
  go_loop [5, 6] (fun r i => ∃ (k R : Nat), k ≤ s.size ∧ i = .int .i64 k ∧ (R : Int) ≤ 4294967295 ∧ r = .int .u32 R ∧ Hid (crcAll R (s.data.toList.drop k) = crcAll (c ^^^ 4294967295) s.data.toList)) (fun _ i => s.size - (intOf i).toNat)
  case atStart => exact ⟨0, c ^^^ 4294967295, by omega, rfl, by omega, rfl, rfl⟩
  case round =>
    obtain ⟨k, R, hk, rfl, hR, rfl, hall⟩ := hrel
    clear hn hlt0
    by_cases hlt : k < s.size
    · have hstep := hide (all_step s k R _ hlt hall.out)
      have hbl := crcByte_lt R s[k] (by omega)
      clear hall
      go_wp2_with (go_at_call 29; refine (impl_crcByte R s[k] _ hR).mono ?_; rintro e w' ⟨rfl, rfl⟩)
      go_round
      case rel => exact ⟨k + 1, crcByte R s[k], by omega, by go_num, by omega, rfl, hstep⟩
      case measure => simp [intOf]; omega
    · have he := all_end s k R _ (by omega) hall.out
      have hn := u32_unot R (by omega)
      have hl := xor_lt32 R 4294967295 (by omega) (by omega)
      have HE := hide he
      clear he hall
      go_wp2_with fail
      go_ret
      exact ⟨ret_int (by unfold crcMore; rw [← unhide HE]), rfl⟩

set_option maxRecDepth 100000 in
set_option maxHeartbeats 400000 in
theorem spec_crcMore (c : Nat) (s : ByteArray) (w : World) (hc : (c : Int) ≤ 4294967295) (hs : s.size ≤ 20000) :
    Calls Try.prog 14 #[.int .i64 c, .string s] w fun e w' => e = .returned (.int .i64 (crcMore c s.data.toList)) ∧ w = w' := by
  go_enter Try.func14, Try.ntmps14
  go_wp2_with (go_at_call 26; refine (spec_l01Crc c s _ hc (by omega)).mono ?_; rintro e w' ⟨rfl, rfl⟩)
  go_ret
  exact ⟨rfl, rfl⟩

/-- What is refused: too long a text, or a number that is no CRC. -/
def CrcBad (c : Int) (s : ByteArray) : Prop := 20000 < s.size ∨ c < 0 ∨ 4294967295 < c
theorem crc_kinds {c : Int} {s : ByteArray} (h : CrcBad c s) : 20000 < s.size ∨ (s.size ≤ 20000 ∧ c < 0) ∨ (s.size ≤ 20000 ∧ 0 ≤ c ∧ 4294967295 < c) := by unfold CrcBad at h; omega

set_option maxRecDepth 100000 in
set_option maxHeartbeats 400000 in
theorem spec_crcMore_bad (c : Int) (s : ByteArray) (w : World) (hs : s.size ≤ 9223372036854775807) (h : CrcBad c s) :
    Calls Try.prog 14 #[.int .i64 c, .string s] w fun e w' => e = .returned (.int .i64 0) ∧ w = w' := by
  rcases crc_kinds h with h | h | h
  all_goals
    go_enter Try.func14, Try.ntmps14
    go_wp2_with fail
    go_ret
    exact ⟨rfl, rfl⟩
set_option maxRecDepth 100000 in
set_option maxHeartbeats 400000 in
theorem impl_crcMore_bad (c : Int) (s : ByteArray) (w : World) (hs : s.size ≤ 9223372036854775807) (h : CrcBad c s) :
    Calls Try.prog 13 #[.int .i64 c, .string s] w fun e w' => e = .returned (.int .i64 0) ∧ w = w' := by
  rcases crc_kinds h with h | h | h
  all_goals
    go_enter Try.func13, Try.ntmps13
    go_wp2_with fail
    go_ret
    exact ⟨rfl, rfl⟩

set_option maxRecDepth 100000 in
set_option maxHeartbeats 400000 in
theorem impl_crc (s : ByteArray) (w : World) (hs : s.size ≤ 20000) :
    Calls Try.prog 15 #[.string s] w fun e w' => e = .returned (.int .i64 (crcMore 0 s.data.toList)) ∧ w = w' := by
  go_enter Try.func15, Try.ntmps15
  go_wp2_with (go_at_call 13; refine (impl_crcMore 0 s _ (by omega) hs).mono ?_; rintro e w' ⟨rfl, rfl⟩)
  go_ret
  exact ⟨rfl, rfl⟩
set_option maxRecDepth 100000 in
set_option maxHeartbeats 400000 in
theorem impl_crc_bad (s : ByteArray) (w : World) (hs : s.size ≤ 9223372036854775807) (h : 20000 < s.size) :
    Calls Try.prog 15 #[.string s] w fun e w' => e = .returned (.int .i64 0) ∧ w = w' := by
  go_enter Try.func15, Try.ntmps15
  go_wp2_with (go_at_call 13; refine (impl_crcMore_bad 0 s _ hs (.inl h)).mono ?_; rintro e w' ⟨rfl, rfl⟩)
  go_ret
  exact ⟨rfl, rfl⟩
set_option maxRecDepth 100000 in
set_option maxHeartbeats 400000 in
theorem spec_crc (s : ByteArray) (w : World) (hs : s.size ≤ 20000) :
    Calls Try.prog 28 #[.string s] w fun e w' => e = .returned (.int .i64 (crcMore 0 s.data.toList)) ∧ w = w' := by
  go_enter Try.func28, Try.ntmps28
  go_wp2_with (go_at_call 26; refine (spec_l01Crc 0 s _ (by omega) (by omega)).mono ?_; rintro e w' ⟨rfl, rfl⟩)
  go_ret
  exact ⟨rfl, rfl⟩
set_option maxRecDepth 100000 in
set_option maxHeartbeats 400000 in
theorem spec_crc_bad (s : ByteArray) (w : World) (hs : s.size ≤ 9223372036854775807) (h : 20000 < s.size) :
    Calls Try.prog 28 #[.string s] w fun e w' => e = .returned (.int .i64 0) ∧ w = w' := by
  go_enter Try.func28, Try.ntmps28
  go_wp2_with fail
  go_ret
  exact ⟨rfl, rfl⟩
end Go.Proofs.Ytiknoncalgifmaa

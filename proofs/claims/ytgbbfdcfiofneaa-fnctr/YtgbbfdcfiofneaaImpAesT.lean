/- The walks over the program's doubled, times, RotateLeft8, turnedAndAdded. -/
import Derived.Test.YtgbbfdcfiofneaaAesS
namespace Go.Proofs.Ytgbbfdcfiofneaa
open Go.RowKit
theorem dblI_hi : ∀ b : Fin 256, 128 ≤ b.1 → bits .xor .u8 ((b.1 : Int) * 2 % 256) 27 = ((dbl b.1 : Nat) : Int) := by decide +kernel
theorem dblI_lo : ∀ b : Fin 256, b.1 < 128 → (b.1 : Int) * 2 = ((dbl b.1 : Nat) : Int) := by decide +kernel
set_option maxRecDepth 100000 in
set_option maxHeartbeats 400000 in
theorem imp_doubled (b : Nat) (w : World) (hb : b < 256) :
    Calls Try.prog 49 #[.int .u8 b] w fun e w' => e = .returned (.int .u8 (dbl b : Nat)) ∧ w = w' := by
  by_cases h : 128 ≤ b
  · have hv := hide (dblI_hi ⟨b, hb⟩ h)
    go_enter Try.func49, Try.ntmps49
    go_wp2_with fail
    go_ret
    exact ⟨ret_int hv.out, rfl⟩
  · have hv := hide (dblI_lo ⟨b, hb⟩ (by show b < 128; omega))
    go_enter Try.func49, Try.ntmps49
    go_wp2_with fail
    go_ret
    exact ⟨ret_int hv.out, rfl⟩
theorem tN_stay (a b k : Nat) (h : b / 2 ^ k = 0) : ∀ m, tN a b (k + m) = tN a b k
  | 0 => rfl
  | m + 1 => by
    have hz : b / 2 ^ (k + m) = 0 := by rw [Nat.pow_add, ← Nat.div_div_eq_div_mul, h, Nat.zero_div]
    show (if b / 2 ^ (k + m) % 2 = 1 then _ else tN a b (k + m)) = _
    rw [hz, if_neg (by omega), tN_stay a b k h m]
theorem bit8 : ∀ b : Fin 256, bits .and .u8 (b.1 : Int) 1 = ((b.1 % 2 : Nat) : Int) := by decide +kernel
theorem xor8N (a b : Nat) (ha : a < 256) (hb : b < 256) : bits .xor .u8 (a : Int) (b : Int) = ((a ^^^ b : Nat) : Int) := by
  have h := r_xor8 (UInt8.ofNat a) (UInt8.ofNat b)
  rwa [UInt8.toNat_xor, UInt8.toNat_ofNat', UInt8.toNat_ofNat', Nat.mod_eq_of_lt ha, Nat.mod_eq_of_lt hb] at h
set_option maxRecDepth 100000 in
set_option maxHeartbeats 800000 in
theorem imp_times (a b : Nat) (w : World) (ha : a < 256) (hb : b < 256) :
    Calls Try.prog 47 #[.int .u8 a, .int .u8 b] w fun e w' => e = .returned (.int .u8 (times a b : Nat)) ∧ w = w' := by
  go_enter Try.func47, Try.ntmps47
  go_wp2_with fail
  go_loopw [0, 1, 5] (fun x y n wx => ∃ k B : Nat, k ≤ 8 ∧ Hid (B = b / 2 ^ k) ∧ B < 256 ∧ x = .int .u8 (tA a k : Nat) ∧ y = .int .u8 (B : Nat) ∧ n = .int .u8 (tN a b k : Nat) ∧ w = wx) (fun _ y _ _ => (intOf y).toNat)
  case atStart => exact ⟨0, b, by omega, by show b = _; simp, hb, rfl, rfl, rfl, rfl⟩
  case round =>
    obtain ⟨k, B, hk, hB, hB8, rfl, rfl, rfl, rfl⟩ := hrel
    by_cases h0 : 0 < B
    · have h0' : (0 : Int) < (B : Int) := by omega
      have hk8 : k < 8 := by
        rcases Nat.lt_or_ge k 8 with h | h
        · exact h
        · have e : k = 8 := by omega
          have := hB.out
          rw [e, Nat.div_eq_of_lt hb] at this; omega
      have hA := tA_lt a ha k
      have hN := tN_lt a b ha k
      have eA := hide (show tA a (k + 1) = dbl (tA a k) from rfl)
      have eN := hide (show tN a b (k + 1) = if B % 2 = 1 then tN a b k ^^^ tA a k else tN a b k by rw [hB.out]; rfl)
      have eB := hide (show B / 2 = b / 2 ^ (k + 1) by rw [hB.out, Nat.pow_succ, Nat.div_div_eq_div_mul])
      generalize tA a k = A at *
      generalize tN a b k = N at *
      have hbt := bit8 ⟨B, hB8⟩
      simp only at hbt
      have hx1 := hide (xor8N N A (by omega) (by omega))
      clear hB
      by_cases hbit : B % 2 = 1
      · rw [hbit] at hbt
        rw [if_pos hbit] at eN
        go_wp2_with fail
        refine (imp_doubled A _ hA).mono ?_
        rintro e w1 ⟨rfl, rfl⟩
        go_wp2_with fail
        refine ⟨⟨k + 1, B / 2, by omega, eB, by omega, by rw [eA.out], by go_num, by rw [hx1.out, eN.out], trivial⟩, by simp [intOf]; omega⟩
      · have h00 : B % 2 = 0 := by omega
        rw [h00] at hbt
        rw [if_neg hbit] at eN
        go_wp2_with fail
        refine (imp_doubled A _ hA).mono ?_
        rintro e w1 ⟨rfl, rfl⟩
        go_wp2_with fail
        refine ⟨⟨k + 1, B / 2, by omega, eB, by omega, by rw [eA.out], by go_num, by rw [eN.out], trivial⟩, by simp [intOf]; omega⟩
    · have hz : B = 0 := by omega
      subst hz
      have hE := hide (show tN a b k = times a b by
        have h := tN_stay a b k hB.out.symm (8 - k)
        rw [show k + (8 - k) = 8 by omega] at h
        rw [times, h])
      go_wp2_with fail
      go_ret
      exact ⟨by rw [← hE.out]; rfl, rfl⟩
theorem rot8_eq (x k S : Nat) (hx : x < 256) (hk : k ≤ 4) (h : S = 8 - k) : bits .or .u8 ((x : Int) * 2 ^ k % 256) ((x : Int) / 2 ^ S) = (((x * 2 ^ k) % 256 ||| x / 2 ^ (8 - k) : Nat) : Int) := by
  subst h
  have hall : ∀ k : Fin 5, ∀ x : Fin 256, bits .or .u8 ((x.1 : Int) * 2 ^ k.1 % 256) ((x.1 : Int) / 2 ^ (8 - k.1)) = (((x.1 * 2 ^ k.1) % 256 ||| x.1 / 2 ^ (8 - k.1) : Nat) : Int) := by decide +kernel
  exact hall ⟨k, by omega⟩ ⟨x, hx⟩
theorem and7 : ∀ k : Fin 5, bits .and .u64 (IntKind.u64.wrap (k.1 : Int)) 7 = (k.1 : Int) := by decide
def rot8 (x k : Nat) : Nat := (x * 2 ^ k) % 256 ||| x / 2 ^ (8 - k)
theorem rot8_lt (x k : Nat) (hx : x < 256) : rot8 x k < 256 := Nat.or_lt_two_pow (n := 8) (Nat.mod_lt _ (by decide)) (Nat.lt_of_le_of_lt (Nat.div_le_self _ _) hx)
set_option maxRecDepth 100000 in
set_option maxHeartbeats 400000 in
theorem imp_rot8 (x k : Nat) (w : World) (hx : x < 256) (hk : k ≤ 4) :
    Calls Try.prog 51 #[.int .u8 x, .int .i64 (k : Int)] w fun e w' => e = .returned (.int .u8 (rot8 x k : Nat)) ∧ w = w' := by
  have hand : bits .and .u64 (k : Int) 7 = (k : Int) := by
    have := and7 ⟨k, by omega⟩
    simp only at this
    rwa [show IntKind.u64.wrap (k : Int) = (k : Int) by rw [IntKind.wrap_u64]; omega] at this
  go_enter Try.func51, Try.ntmps51
  go_wp2_with fail
  go_ret
  exact ⟨ret_int (rot8_eq x k (8 - k) hx hk rfl), rfl⟩
set_option maxRecDepth 100000 in
set_option maxHeartbeats 400000 in
theorem imp_turned (b : Nat) (w : World) (hb : b < 256) :
    Calls Try.prog 46 #[.int .u8 b] w fun e w' => e = .returned (.int .u8 (ring b 5 : Nat)) ∧ w = w' := by
  have h0 := hide (show bits .xor .u8 (b : Int) 99 = ((ring b 1 : Nat) : Int) by
    have := xor8N b 99 hb (by decide)
    rw [show ((99 : Nat) : Int) = 99 from rfl] at this
    rw [this]
    show _ = ((99 ^^^ ((b * 2 ^ 0) % 256 ||| b / 2 ^ 8) : Nat) : Int)
    rw [Nat.pow_zero, Nat.mul_one, Nat.mod_eq_of_lt hb, Nat.div_eq_of_lt hb, Nat.or_zero, Nat.xor_comm])
  go_enter Try.func46, Try.ntmps46
  go_wp2_with fail
  go_loopw [3, 7] (fun s i wx => ∃ k : Nat, k ≤ 4 ∧ i = .int .i64 k ∧ s = .int .u8 (ring b (k + 1) : Nat) ∧ w = wx) (fun _ i _ => 4 - (intOf i).toNat)
  case atStart => exact ⟨0, by omega, rfl, by rw [h0.out], rfl⟩
  case round =>
    clear h0
    obtain ⟨k, hk, rfl, rfl, rfl⟩ := hrel
    have hr := ring_lt b hb (k + 1) (by omega)
    by_cases hlt : k < 4
    · have eR := hide (show ring b (k + 1 + 1) = ring b (k + 1) ^^^ rot8 b (k + 1) from rfl)
      generalize hR2 : ring b (k + 1 + 1) = R2 at *
      generalize ring b (k + 1) = R at *
      obtain ⟨m, hm⟩ : ∃ m, m = k + 1 := ⟨_, rfl⟩
      have hm' : (k : Int) + 1 = (m : Int) := by omega
      have hx := hide (xor8N R (rot8 b (k + 1)) hr (rot8_lt b _ hb))
      rw [← hm] at hx eR
      have HM := hide hm
      clear hm
      go_wp2_with fail
      refine (imp_rot8 b m _ hb (by omega)).mono ?_
      rintro e w1 ⟨rfl, rfl⟩
      go_wp2_with fail
      exact ⟨⟨k + 1, by omega, by go_num, by rw [hx.out, hR2, eR.out], trivial⟩, by simp [intOf]; omega⟩
    · have hE := hide (show ring b (k + 1) = ring b 5 by rw [show k = 4 by omega])
      go_wp2_with fail
      go_ret
      exact ⟨by rw [← hE.out]; rfl, rfl⟩
end Go.Proofs.Ytgbbfdcfiofneaa

/- Put together: ImpPad, ImpMac, ImpAesT, TabMath, ImpTab, ImpAdd16. -/
import Derived.Test.YtconcnndghmdfaaGreatDoorSe4
import Derived.Test.YtconcnndghmdfaaGreatDoorSe27
import Derived.Test.YtconcnndghmdfaaGreatDoorSe12
import Derived.Test.YtconcnndghmdfaaGreatDoorSe6
namespace Go.Proofs.YtconcnndghmdfaaGreatDoor
open Go.RowKit
set_option maxRecDepth 100000 in
set_option maxHeartbeats 1600000 in
theorem pads (key : ByteArray) (m : UInt8) (w : World) (hk : key.size ≤ 64) :
    Calls Tryz.prog 106 #[.string key, .int .u8 (m.toNat : Int)] w fun e w' => e = .returned (.string (padT key m)) ∧ Below w.heap.size w w' := by
  have hm : (m.toNat : Int) ≤ 255 := by have := m.toNat_lt; omega
  go_enter Tryz.func106, Tryz.ntmps106
  go_wp2_with (refine wpList_copy_str rfl _ _ 22 9 rfl 5 Tryz.underlying22 Tryz.sizeP8 _ _ _ rfl key rfl w.heap.size 0 (List.replicate 64 (.int .u8 0)) 193 (heap_alloc_new w _) hk (fun _ => rfl) (by simpa using hk) w.heap.size w ((Below.refl _ _).alloc (Nat.le_refl _) _) (Nat.le_refl _) ?_)
  intro w1 hrow hb1
  have hr1 := row_copied w1 w.heap.size 193 key hk hrow.out
  clear hrow
  go_wp2_with fail
  go_loopw [10] (fun i wx => ∃ (k : Nat) (f : Nat → UInt8), k ≤ 64 ∧ i = .int .i64 k ∧ Hid (∀ j, f j = if j < k then keyAt key j ^^^ m else keyAt key j) ∧ wx.rowIs w.heap.size 193 64 (u8V f) ∧ Below w.heap.size w wx) (fun i _ => 64 - (intOf i).toNat)
  case atStart => exact ⟨0, keyAt key, by omega, rfl, fun j => by simp, hr1, hb1⟩
  case round =>
    clear hr1 hb1
    obtain ⟨k, f, hk64, rfl, hf, hr, hbl⟩ := hrel
    by_cases hlt : k < 64
    · have c : wr.cell? ⟨w.heap.size, k, none⟩ = some (.int .u8 ((f k).toNat : Int)) := hr.cell hlt
      have fz := hr.frozen k
      have hx := r_xor8 (f k) m
      have hf2 := hide (xor_step hf.out)
      go_wp2_with fail
      refine ⟨?rel, ?measure⟩
      case rel => exact ⟨k + 1, fun j => if j = k then f k ^^^ m else f j, by omega, by go_num, hf2, set_byte hr (by rw [UInt8.toNat_xor]), hbl.setCell (Nat.le_refl _) _⟩
      case measure => simp [intOf]; omega
    · have hcv := conv_row (P := Tryz.prog) (cap := 64) hr (pad_list hf.out (by omega)) (padL_length key m) Tryz.underlying22 Tryz.underlying5 Tryz.underlying9
      go_wp2_with fail
      go_ret
      exact ⟨rfl, hbl⟩
theorem padsT (key : ByteArray) (m : UInt8) (M : Int) (hM : M = (m.toNat : Int)) (w : World) (hk : key.size ≤ 64) :
    Calls Tryz.prog 106 #[.string key, .int .u8 M] w fun e w' => e = .returned (.string (padT key m)) ∧ Below w.heap.size w w' := by
  subst hM; exact pads key m w hk
end Go.Proofs.YtconcnndghmdfaaGreatDoor
namespace Go.Proofs.YtconcnndghmdfaaGreatDoor
open Go.RowKit
theorem join_one (t : ByteArray) : (⟨(joinB [t]).toArray⟩ : ByteArray) = t := by
  apply ByteArray.ext; show (joinB [t]).toArray = t.data; simp [joinB]
theorem join_two (a b : ByteArray) : (⟨(joinB [a, b]).toArray⟩ : ByteArray) = a ++ b := by
  apply ByteArray.ext; show (joinB [a, b]).toArray = (a ++ b).data
  rw [ByteArray.data_append]
  simp [joinB]
theorem oneOf (t : ByteArray) (w : World) (T : Nat) (ht : t.size ≤ 1048576) (htab : Tab w) (h0 : 1 < w.heap.size) :
    Calls Tryz.prog 105 #[.slice (some ⟨w.heap.size, 0, none⟩) 1 1] (w.alloc (.cells #[.string t] T)) fun e w' => e = .returned (.string (digestT t)) ∧ Below w.heap.size w w' := by
  have hb : Below w.heap.size w (w.alloc (.cells #[.string t] T)) := (Below.refl _ _).alloc (Nat.le_refl _) _
  have h := ofParts w.heap.size 1 1 [t] (w.alloc (.cells #[.string t] T)) rfl (by omega) (by simp) (by
    intro j x hx
    match j, hx with
    | 0, hx => simp at hx; subst hx; exact ⟨ht, cell_of_row _ _ _ _ _ _ (heap_alloc_new w _)⟩) (htab.below hb h0)
  rw [join_one] at h
  exact h.mono fun e w' ⟨a, b⟩ => ⟨a, hb.trans (b.mono (by simp))⟩
theorem twoOf (s t : ByteArray) (w : World) (T : Nat) (hs : s.size ≤ 1048576) (ht : t.size ≤ 1048576) (htab : Tab w) (h0 : 1 < w.heap.size) :
    Calls Tryz.prog 105 #[.slice (some ⟨w.heap.size, 0, none⟩) 2 2] (w.alloc (.cells #[.string s, .string t] T)) fun e w' => e = .returned (.string (digestT (s ++ t))) ∧ Below w.heap.size w w' := by
  have hb : Below w.heap.size w (w.alloc (.cells #[.string s, .string t] T)) := (Below.refl _ _).alloc (Nat.le_refl _) _
  have h := ofParts w.heap.size 2 2 [s, t] (w.alloc (.cells #[.string s, .string t] T)) rfl (by omega) (by simp) (by
    intro j x hx
    match j, hx with
    | 0, hx => simp at hx; subst hx; exact ⟨hs, cell_of_row _ _ _ _ _ _ (heap_alloc_new w _)⟩
    | 1, hx => simp at hx; subst hx; exact ⟨ht, cell_of_row _ _ _ _ _ _ (heap_alloc_new w _)⟩) (htab.below hb h0)
  rw [join_two] at h
  exact h.mono fun e w' ⟨a, b⟩ => ⟨a, hb.trans (b.mono (by simp))⟩
set_option maxRecDepth 100000 in
set_option maxHeartbeats 1600000 in
theorem impl_mac (key text : ByteArray) (w : World) (htab : Tab w) (h0 : 1 < w.heap.size) :
    Calls Tryz.prog 73 #[.string key, .string text] w fun e w' => e = .returned (.string (macS key text)) ∧ Below w.heap.size w w' := by
  have HT := hide htab
  clear htab
  have fin : ∀ (K : ByteArray), K.size ≤ 64 → (padT K 54).size ≤ 1048576 ∧ (padT K 92).size ≤ 1048576 ∧ (digestT (padT K 54 ++ text)).size ≤ 1048576 := by
    intro K _; rw [padT_size, padT_size, digestT_size]; omega
  by_cases h : key.size ≤ 20000
  · by_cases h2 : text.size ≤ 20000
    · have h' : ¬ (20000 : Int) < key.size := by omega
      have h2' : ¬ (20000 : Int) < text.size := by omega
      have hS : macS key text = macT key text := if_pos ⟨h, h2⟩
      rw [hS]
      by_cases h64 : key.size ≤ 64
      · have hK : keyT key = key := if_pos h64
        have hlt : ¬ (64 : Int) < key.size := by omega
        have hE := hide (show macT key text = digestT (padT key 92 ++ digestT (padT key 54 ++ text)) by rw [macT, hK])
        obtain ⟨z1, z2, z3⟩ := fin key h64
        clear hK hS fin
        go_enter Tryz.func73, Tryz.ntmps73
        go_wp2_with fail
        refine (padsT key 54 54 rfl _ h64).mono ?_
        rintro e w1 ⟨rfl, hb1⟩
        go_wp2_with fail
        refine (twoOf (padT key 54) text w1 _ z1 (by omega) (HT.out.below hb1 h0) (by have := hb1.size; omega)).mono ?_
        rintro e w2 ⟨rfl, hb2⟩
        have hc2 := below3 hb1 hb2
        go_wp2_with fail
        refine (padsT key 92 92 rfl _ h64).mono ?_
        rintro e w3 ⟨rfl, hb3⟩
        have hc3 := below3 hc2 hb3
        go_wp2_with fail
        refine (twoOf (padT key 92) (digestT (padT key 54 ++ text)) w3 _ z2 z3 (HT.out.below hc3 h0) (by have := hc3.size; omega)).mono ?_
        rintro e w4 ⟨rfl, hb4⟩
        go_wp2_with fail
        go_ret
        exact ⟨by rw [hE.out]; rfl, below3 hc3 hb4⟩
      · have hK : keyT key = digestT key := if_neg h64
        have hlt : (64 : Int) < key.size := by omega
        have hE := hide (show macT key text = digestT (padT (digestT key) 92 ++ digestT (padT (digestT key) 54 ++ text)) by rw [macT, hK])
        have hd : (digestT key).size ≤ 64 := by rw [digestT_size]; omega
        obtain ⟨z1, z2, z3⟩ := fin (digestT key) hd
        clear hK hS fin
        go_enter Tryz.func73, Tryz.ntmps73
        go_wp2_with fail
        refine (oneOf key w _ (by omega) HT.out h0).mono ?_
        rintro e w0 ⟨rfl, hc0⟩
        go_wp2_with fail
        refine (padsT (digestT key) 54 54 rfl _ hd).mono ?_
        rintro e w1 ⟨rfl, hb1⟩
        have hc1 := below3 hc0 hb1
        go_wp2_with fail
        refine (twoOf (padT (digestT key) 54) text w1 _ z1 (by omega) (HT.out.below hc1 h0) (by have := hc1.size; omega)).mono ?_
        rintro e w2 ⟨rfl, hb2⟩
        have hc2 := below3 hc1 hb2
        go_wp2_with fail
        refine (padsT (digestT key) 92 92 rfl _ hd).mono ?_
        rintro e w3 ⟨rfl, hb3⟩
        have hc3 := below3 hc2 hb3
        go_wp2_with fail
        refine (twoOf (padT (digestT key) 92) (digestT (padT (digestT key) 54 ++ text)) w3 _ z2 z3 (HT.out.below hc3 h0) (by have := hc3.size; omega)).mono ?_
        rintro e w4 ⟨rfl, hb4⟩
        go_wp2_with fail
        go_ret
        exact ⟨by rw [hE.out]; rfl, below3 hc3 hb4⟩
    · have hE : macS key text = ⟨#[]⟩ := if_neg (by omega)
      rw [hE]
      have h' : ¬ (20000 : Int) < key.size := by omega
      have h2' : (20000 : Int) < text.size := by omega
      go_enter Tryz.func73, Tryz.ntmps73
      go_wp2_with fail
      go_ret
      exact ⟨rfl, Below.refl _ _⟩
  · have hE : macS key text = ⟨#[]⟩ := if_neg (by omega)
    rw [hE]
    have h' : (20000 : Int) < key.size := by omega
    go_enter Tryz.func73, Tryz.ntmps73
    go_wp2_with fail
    go_ret
    exact ⟨rfl, Below.refl _ _⟩
end Go.Proofs.YtconcnndghmdfaaGreatDoor
namespace Go.Proofs.YtconcnndghmdfaaGreatDoor
open Go.RowKit
theorem dblI_hi : ∀ b : Fin 256, 128 ≤ b.1 → bits .xor .u8 ((b.1 : Int) * 2 % 256) 27 = ((dbl b.1 : Nat) : Int) := by decide +kernel
theorem dblI_lo : ∀ b : Fin 256, b.1 < 128 → (b.1 : Int) * 2 = ((dbl b.1 : Nat) : Int) := by decide +kernel
set_option maxRecDepth 100000 in
set_option maxHeartbeats 400000 in
theorem imp_doubled (b : Nat) (w : World) (hb : b < 256) :
    Calls Tryz.prog 110 #[.int .u8 b] w fun e w' => e = .returned (.int .u8 (dbl b : Nat)) ∧ w = w' := by
  by_cases h : 128 ≤ b
  · have hv := hide (dblI_hi ⟨b, hb⟩ h)
    go_enter Tryz.func110, Tryz.ntmps110
    go_wp2_with fail
    go_ret
    exact ⟨ret_int hv.out, rfl⟩
  · have hv := hide (dblI_lo ⟨b, hb⟩ (by show b < 128; omega))
    go_enter Tryz.func110, Tryz.ntmps110
    go_wp2_with fail
    go_ret
    exact ⟨ret_int hv.out, rfl⟩
theorem tN_stay (a b k : Nat) (h : b / 2 ^ k = 0) : ∀ m, tN a b (k + m) = tN a b k
  | 0 => rfl
  | m + 1 => by
    have hz : b / 2 ^ (k + m) = 0 := by rw [Nat.pow_add, ← Nat.div_div_eq_div_mul, h, Nat.zero_div]
    show (if b / 2 ^ (k + m) % 2 = 1 then _ else tN a b (k + m)) = _
    rw [hz, if_neg (by omega), tN_stay a b k h m]
theorem bit8 : ∀ b : Fin 256, bits .and .u8 (b.1 : Int) 1 = ((b.1 % 2 : Nat) : Int) := by decide +kernel
theorem xor8N (a b : Nat) (ha : a < 256) (hb : b < 256) : bits .xor .u8 (a : Int) (b : Int) = ((a ^^^ b : Nat) : Int) := by
  have h := r_xor8 (UInt8.ofNat a) (UInt8.ofNat b)
  rwa [UInt8.toNat_xor, UInt8.toNat_ofNat', UInt8.toNat_ofNat', Nat.mod_eq_of_lt ha, Nat.mod_eq_of_lt hb] at h
set_option maxRecDepth 100000 in
set_option maxHeartbeats 800000 in
theorem imp_times (a b : Nat) (w : World) (ha : a < 256) (hb : b < 256) :
    Calls Tryz.prog 108 #[.int .u8 a, .int .u8 b] w fun e w' => e = .returned (.int .u8 (times a b : Nat)) ∧ w = w' := by
  go_enter Tryz.func108, Tryz.ntmps108
  go_wp2_with fail
  go_loopw [0, 1, 5] (fun x y n wx => ∃ k B : Nat, k ≤ 8 ∧ Hid (B = b / 2 ^ k) ∧ B < 256 ∧ x = .int .u8 (tA a k : Nat) ∧ y = .int .u8 (B : Nat) ∧ n = .int .u8 (tN a b k : Nat) ∧ w = wx) (fun _ y _ _ => (intOf y).toNat)
  case atStart => exact ⟨0, b, by omega, by show b = _; simp, hb, rfl, rfl, rfl, rfl⟩
  case round =>
    obtain ⟨k, B, hk, hB, hB8, rfl, rfl, rfl, rfl⟩ := hrel
    by_cases h0 : 0 < B
    · have h0' : (0 : Int) < (B : Int) := by omega
      have hk8 : k < 8 := by
        rcases Nat.lt_or_ge k 8 with h | h
        · exact h
        · have e : k = 8 := by omega
          have := hB.out
          rw [e, Nat.div_eq_of_lt hb] at this; omega
      have hA := tA_lt a ha k
      have hN := tN_lt a b ha k
      have eA := hide (show tA a (k + 1) = dbl (tA a k) from rfl)
      have eN := hide (show tN a b (k + 1) = if B % 2 = 1 then tN a b k ^^^ tA a k else tN a b k by rw [hB.out]; rfl)
      have eB := hide (show B / 2 = b / 2 ^ (k + 1) by rw [hB.out, Nat.pow_succ, Nat.div_div_eq_div_mul])
      generalize tA a k = A at *
      generalize tN a b k = N at *
      have hbt := bit8 ⟨B, hB8⟩
      simp only at hbt
      have hx1 := hide (xor8N N A (by omega) (by omega))
      clear hB
      by_cases hbit : B % 2 = 1
      · rw [hbit] at hbt
        rw [if_pos hbit] at eN
        go_wp2_with fail
        refine (imp_doubled A _ hA).mono ?_
        rintro e w1 ⟨rfl, rfl⟩
        go_wp2_with fail
        refine ⟨⟨k + 1, B / 2, by omega, eB, by omega, by rw [eA.out], by go_num, by rw [hx1.out, eN.out], trivial⟩, by simp [intOf]; omega⟩
      · have h00 : B % 2 = 0 := by omega
        rw [h00] at hbt
        rw [if_neg hbit] at eN
        go_wp2_with fail
        refine (imp_doubled A _ hA).mono ?_
        rintro e w1 ⟨rfl, rfl⟩
        go_wp2_with fail
        refine ⟨⟨k + 1, B / 2, by omega, eB, by omega, by rw [eA.out], by go_num, by rw [eN.out], trivial⟩, by simp [intOf]; omega⟩
    · have hz : B = 0 := by omega
      subst hz
      have hE := hide (show tN a b k = times a b by
        have h := tN_stay a b k hB.out.symm (8 - k)
        rw [show k + (8 - k) = 8 by omega] at h
        rw [times, h])
      go_wp2_with fail
      go_ret
      exact ⟨by rw [← hE.out]; rfl, rfl⟩
theorem rot8_eq (x k S : Nat) (hx : x < 256) (hk : k ≤ 4) (h : S = 8 - k) : bits .or .u8 ((x : Int) * 2 ^ k % 256) ((x : Int) / 2 ^ S) = (((x * 2 ^ k) % 256 ||| x / 2 ^ (8 - k) : Nat) : Int) := by
  subst h
  have hall : ∀ k : Fin 5, ∀ x : Fin 256, bits .or .u8 ((x.1 : Int) * 2 ^ k.1 % 256) ((x.1 : Int) / 2 ^ (8 - k.1)) = (((x.1 * 2 ^ k.1) % 256 ||| x.1 / 2 ^ (8 - k.1) : Nat) : Int) := by decide +kernel
  exact hall ⟨k, by omega⟩ ⟨x, hx⟩
theorem and7 : ∀ k : Fin 5, bits .and .u64 (IntKind.u64.wrap (k.1 : Int)) 7 = (k.1 : Int) := by decide
def rot8 (x k : Nat) : Nat := (x * 2 ^ k) % 256 ||| x / 2 ^ (8 - k)
theorem rot8_lt (x k : Nat) (hx : x < 256) : rot8 x k < 256 := Nat.or_lt_two_pow (n := 8) (Nat.mod_lt _ (by decide)) (Nat.lt_of_le_of_lt (Nat.div_le_self _ _) hx)
set_option maxRecDepth 100000 in
set_option maxHeartbeats 400000 in
theorem imp_rot8 (x k : Nat) (w : World) (hx : x < 256) (hk : k ≤ 4) :
    Calls Tryz.prog 140 #[.int .u8 x, .int .i64 (k : Int)] w fun e w' => e = .returned (.int .u8 (rot8 x k : Nat)) ∧ w = w' := by
  have hand : bits .and .u64 (k : Int) 7 = (k : Int) := by
    have := and7 ⟨k, by omega⟩
    simp only at this
    rwa [show IntKind.u64.wrap (k : Int) = (k : Int) by rw [IntKind.wrap_u64]; omega] at this
  go_enter Tryz.func140, Tryz.ntmps140
  go_wp2_with fail
  go_ret
  exact ⟨ret_int (rot8_eq x k (8 - k) hx hk rfl), rfl⟩
set_option maxRecDepth 100000 in
set_option maxHeartbeats 400000 in
theorem imp_turned (b : Nat) (w : World) (hb : b < 256) :
    Calls Tryz.prog 107 #[.int .u8 b] w fun e w' => e = .returned (.int .u8 (ring b 5 : Nat)) ∧ w = w' := by
  have h0 := hide (show bits .xor .u8 (b : Int) 99 = ((ring b 1 : Nat) : Int) by
    have := xor8N b 99 hb (by decide)
    rw [show ((99 : Nat) : Int) = 99 from rfl] at this
    rw [this]
    show _ = ((99 ^^^ ((b * 2 ^ 0) % 256 ||| b / 2 ^ 8) : Nat) : Int)
    rw [Nat.pow_zero, Nat.mul_one, Nat.mod_eq_of_lt hb, Nat.div_eq_of_lt hb, Nat.or_zero, Nat.xor_comm])
  go_enter Tryz.func107, Tryz.ntmps107
  go_wp2_with fail
  go_loopw [3, 7] (fun s i wx => ∃ k : Nat, k ≤ 4 ∧ i = .int .i64 k ∧ s = .int .u8 (ring b (k + 1) : Nat) ∧ w = wx) (fun _ i _ => 4 - (intOf i).toNat)
  case atStart => exact ⟨0, by omega, rfl, by rw [h0.out], rfl⟩
  case round =>
    clear h0
    obtain ⟨k, hk, rfl, rfl, rfl⟩ := hrel
    have hr := ring_lt b hb (k + 1) (by omega)
    by_cases hlt : k < 4
    · have eR := hide (show ring b (k + 1 + 1) = ring b (k + 1) ^^^ rot8 b (k + 1) from rfl)
      generalize hR2 : ring b (k + 1 + 1) = R2 at *
      generalize ring b (k + 1) = R at *
      obtain ⟨m, hm⟩ : ∃ m, m = k + 1 := ⟨_, rfl⟩
      have hm' : (k : Int) + 1 = (m : Int) := by omega
      have hx := hide (xor8N R (rot8 b (k + 1)) hr (rot8_lt b _ hb))
      rw [← hm] at hx eR
      have HM := hide hm
      clear hm
      go_wp2_with fail
      refine (imp_rot8 b m _ hb (by omega)).mono ?_
      rintro e w1 ⟨rfl, rfl⟩
      go_wp2_with fail
      exact ⟨⟨k + 1, by omega, by go_num, by rw [hx.out, hR2, eR.out], trivial⟩, by simp [intOf]; omega⟩
    · have hE := hide (show ring b (k + 1) = ring b 5 by rw [show k = 4 by omega])
      go_wp2_with fail
      go_ret
      exact ⟨by rw [← hE.out]; rfl, rfl⟩
end Go.Proofs.YtconcnndghmdfaaGreatDoor
namespace Go.Proofs.YtconcnndghmdfaaGreatDoor
def it (g : Nat) : Nat → Nat
  | 0 => 1
  | k + 1 => times (it g k) g
theorem it_lt (g : Nat) : ∀ k, it g k < 256
  | 0 => by show (1 : Nat) < 256; omega
  | k + 1 => times_lt _ _ (it_lt g k)
theorem it_zero (g : Nat) : it g 0 = 1 := rfl
theorem it_succ (g k : Nat) : it g (k + 1) = times (it g k) g := rfl
def tabAt : Nat → Nat → UInt8
  | 0, j => if j = 0 then 99 else 0
  | k + 1, j => if j = it 3 k then UInt8.ofNat (ring (it 246 k) 5) else tabAt k j
def chk : Nat → Nat → Nat → Bool
  | 0, _, _ => true
  | n + 1, p, u => (u == pw p 8) && chk n (times p 3) (times u 246)
theorem chk_all : chk 255 1 1 = true := by decide +kernel
theorem chk_at : ∀ n k, chk n (it 3 k) (it 246 k) = true → ∀ i, k ≤ i → i < k + n → it 246 i = pw (it 3 i) 8
  | 0, k, _, i, h1, h2 => by omega
  | n + 1, k, h, i, h1, h2 => by
    unfold chk at h
    rw [Bool.and_eq_true] at h
    by_cases e : i = k
    · subst e; exact eq_of_beq h.1
    · exact chk_at n (k + 1) h.2 i (by omega) (by omega)
def mask : Nat → Nat → Nat
  | 0, _ => 0
  | n + 1, p => 2 ^ p ||| mask n (times p 3)
theorem mask_all : mask 255 1 = 2 ^ 256 - 2 := by decide +kernel
theorem mask_bit : ∀ n k j, (mask n (it 3 k)).testBit j = true → ∃ i, k ≤ i ∧ i < k + n ∧ it 3 i = j
  | 0, k, j, h => by simp [mask] at h
  | n + 1, k, j, h => by
    unfold mask at h
    rw [Nat.testBit_or, Bool.or_eq_true] at h
    rcases h with h | h
    · refine ⟨k, by omega, by omega, ?_⟩
      rw [Nat.testBit_two_pow] at h
      simpa using h
    · obtain ⟨i, h1, h2, h3⟩ := mask_bit n (k + 1) j h
      exact ⟨i, by omega, by omega, h3⟩
theorem full_bit : ∀ j : Fin 256, j.1 ≠ 0 → (2 ^ 256 - 2 : Nat).testBit j.1 = true := by decide +kernel
theorem sbox_zero : sbox 0 = 99 := by decide +kernel
theorem tab_some : ∀ n, n ≤ 255 → ∀ j, (j = 0 ∨ ∃ i, i < n ∧ it 3 i = j) → tabAt n j = sbox j
  | 0, _, j, h => by
    rcases h with rfl | ⟨i, hi, _⟩
    · rw [sbox_zero]; rfl
    · omega
  | n + 1, hn, j, h => by
    have e : it 246 n = pw (it 3 n) 8 := chk_at 255 0 chk_all n (by omega) (by omega)
    unfold tabAt
    by_cases hj : j = it 3 n
    · rw [if_pos hj, e, hj]; rfl
    · rw [if_neg hj]
      refine tab_some n (by omega) j ?_
      rcases h with h | ⟨i, hi, h⟩
      · exact .inl h
      · refine .inr ⟨i, ?_, h⟩
        rcases Nat.lt_or_ge i n with h2 | h2
        · exact h2
        · have : i = n := by omega
          subst this; exact absurd h.symm hj
theorem tab_end (j : Nat) (hj : j < 256) : tabAt 255 j = sbox j := by
  refine tab_some 255 (by omega) j ?_
  by_cases h0 : j = 0
  · exact .inl h0
  · have h := full_bit ⟨j, hj⟩ h0
    rw [← mask_all] at h
    obtain ⟨i, _, h2, h3⟩ := mask_bit 255 0 j h
    exact .inr ⟨i, by omega, h3⟩
end Go.Proofs.YtconcnndghmdfaaGreatDoor
namespace Go.Proofs.YtconcnndghmdfaaGreatDoor
open Go.RowKit
theorem Tryz.infoTab : (Tryz.prog.info? 96).map (fun i => (i.zero, i.size)) = some (some (.agg (bL 256 fun _ => 0).toArray), 256) := by kernel_rfl
theorem ofNat_toNat (n : Nat) (h : n < 256) : (UInt8.ofNat n).toNat = n := by rw [UInt8.toNat_ofNat']; exact Nat.mod_eq_of_lt h
attribute [local irreducible] times ring it
set_option maxRecDepth 100000 in
set_option maxHeartbeats 800000 in
theorem imp_table (w : World) :
    Calls Tryz.prog 74 #[] w fun e w' => e = .returned (.agg (bL 256 sbox).toArray) ∧ Below w.heap.size w w' := by
  obtain ⟨hz, hsz⟩ := zero_of_info Tryz.infoTab
  have r1 := row_alloc (w.alloc (.cells (bL 256 fun _ => 0).toArray 96)) 96 256 (fun _ => 0)
  rw [World.size_alloc] at r1
  have c0 := r1.cell (i := 0) (by omega)
  have f0 := r1.frozen 0
  go_enter Tryz.func74, Tryz.ntmps74
  go_wp2_with fail
  clear hz c0 f0
  go_loopw [2, 3, 5] (fun p u i wx => ∃ (k P U : Nat) (f : Nat → UInt8), k ≤ 255 ∧ i = .int .i64 k ∧ p = .int .u8 (P : Nat) ∧ u = .int .u8 (U : Nat) ∧ Hid (P = it 3 k) ∧ Hid (U = it 246 k) ∧ P < 256 ∧ U < 256 ∧ Hid (∀ j, j < 256 → f j = tabAt k j) ∧ wx.rowIs w.heap.size 96 256 (u8V fun _ => 0) ∧ wx.rowIs (w.heap.size + 1) 96 256 (u8V f) ∧ Below w.heap.size w wx) (fun _ _ i _ => 255 - (intOf i).toNat)
  case atStart => exact ⟨0, 1, 1, fun j => if j = 0 then 99 else 0, by omega, rfl, rfl, rfl, (it_zero 3).symm, (it_zero 246).symm, by omega, by omega, fun j _ => rfl, (row_alloc w _ 256 _).alloc _, by have h := row_alloc_set (w.alloc (.cells (bL 256 fun _ => 0).toArray 96)) 96 256 0 (fun _ => 0) 99 99 rfl; rw [World.size_alloc] at h; exact h, ((Below.refl _ _).alloc (Nat.le_refl _) _).alloc (by simp) _⟩
  case round =>
    clear r1
    obtain ⟨k, P, U, f, hk, rfl, rfl, rfl, hP, hU, hP8, hU8, hf, hres, hrw, hbl⟩ := hrel
    by_cases hlt : k < 255
    · have hR := ring_lt U hU8 5 (by omega)
      have ck := hrw.cell (i := P) hP8
      have hfz := hrw.frozen P
      have hP' : (P : Int) < 256 := by omega
      have HV := hide (show UInt8.ofNat (ring U 5) = UInt8.ofNat (ring (it 246 k) 5) by rw [hU.out])
      have HR := hide (ofNat_toNat (ring U 5) hR)
      have e3 := hide (show times P 3 = it 3 (k + 1) by rw [hP.out, it_succ])
      have e246 := hide (show times U 246 = it 246 (k + 1) by rw [hU.out, it_succ])
      have l3 := times_lt P 3 hP8
      have l246 := times_lt U 246 hU8
      have s1 := fun w => imp_turned U w hU8
      have s2 := fun w => imp_times P 3 w hP8 (by decide)
      have s3 := fun w => imp_times U 246 w hU8 (by decide)
      generalize ring U 5 = R at *
      generalize times P 3 = P3 at *
      generalize times U 246 = U3 at *
      have S := hide (And.intro s1 (And.intro s2 s3))
      clear s1 s2 s3 hsz
      go_wp2_with fail
      refine (S.out.1 _).mono ?_
      rintro e w1 ⟨rfl, rfl⟩
      go_wp2_with fail
      refine (S.out.2.1 _).mono ?_
      rintro e w1 ⟨rfl, rfl⟩
      go_wp2_with fail
      refine (S.out.2.2 _).mono ?_
      rintro e w1 ⟨rfl, rfl⟩
      go_wp2_with fail
      go_roundw
      case rel =>
        refine ⟨k + 1, P3, U3, fun j => if j = P then UInt8.ofNat R else f j, by omega, by go_num, rfl, rfl, e3, e246, l3, l246, fun j hj => ?_, hres.setOther (by simp) _, set_byte hrw HR.out.symm, hbl.setCell (by simp) _⟩
        show (if j = P then UInt8.ofNat R else f j) = if j = it 3 k then _ else tabAt k j
        rw [← hP.out, HV.out, hf.out j hj]
      case measure => simp [intOf]; omega
    · have hrw2 : wr.rowIs (w.heap.size + 1) 96 256 (u8V sbox) := hrw.congr fun i hi => by rw [u8V, u8V, hf.out i hi, show k = 255 by omega, tab_end i hi]
      have hth := row_there (o := 0) (n := 256) hres (by omega)
      have hfin := row_setCells0 (k := sbox) hres
      clear hf hrw
      go_wp2_with (first | (refine wpList_load_B rfl 96 _ rfl (w.heap.size + 1) 0 rfl _ _ 256 _ sbox _ hrw2 (by omega) (fun j _ => by rw [Nat.zero_add]) Tryz.underlying96 rfl hsz ?_) | (refine wpList_store_B rfl 96 _ _ rfl w.heap.size 0 256 sbox rfl rfl hth hsz ?_))
      exact bodyPost_ret (ret_B Tryz.results74 _ _ w.heap.size 256 _ sbox _ rfl hfin Tryz.underlying96 rfl hsz) rfl ⟨rfl, below_setCells' hbl (Nat.le_refl _)⟩
end Go.Proofs.YtconcnndghmdfaaGreatDoor
namespace Go.Proofs.YtconcnndghmdfaaGreatDoor
open Go.RowKit
attribute [local irreducible] times sbox
theorem Tryz.size16 : (Tryz.prog.info? 70).map (·.size) = some 16 := by kernel_rfl
set_option maxRecDepth 100000 in
set_option maxHeartbeats 800000 in
theorem imp_added (f k : Nat → UInt8) (w : World) :
    Calls Tryz.prog 52 #[.agg (bL 16 f).toArray, .agg (bL 16 k).toArray] w fun e w' => e = .returned (.agg (bL 16 fun j => f j ^^^ k j).toArray) ∧ Below w.heap.size w w' := by
  go_enter Tryz.func52, Tryz.ntmps52
  go_wp2_with fail
  go_loopw [6] (fun i wx => ∃ (m : Nat) (h : Nat → UInt8), m ≤ 16 ∧ i = .int .i64 m ∧ Hid (∀ j, j < 16 → h j = if j < m then f j ^^^ k j else f j) ∧ wx.rowIs w.heap.size 70 16 (u8V h) ∧ wx.rowIs (w.heap.size + 1) 70 16 (u8V k) ∧ wx.rowIs (w.heap.size + 2) 70 16 (u8V fun _ => 0) ∧ Below w.heap.size w wx) (fun i _ => 16 - (intOf i).toNat)
  case atStart =>
    refine ⟨0, f, by omega, rfl, fun j _ => by simp, ((row_alloc w _ 16 f).alloc _).alloc _, ?_, ?_, (((Below.refl _ _).alloc (Nat.le_refl _) _).alloc (by simp) _).alloc (by simp; omega) _⟩
    · have h := row_alloc (w.alloc (.cells (bL 16 f).toArray 70)) 70 16 k
      rw [World.size_alloc] at h
      exact h.alloc _
    · have h := zeros8_row 16 ((w.alloc (.cells (bL 16 f).toArray 70)).alloc (.cells (bL 16 k).toArray 70)) _ 70 rfl
      rw [World.size_alloc, World.size_alloc] at h
      exact h
  case round =>
    obtain ⟨m, h, hm, rfl, hh, r0, r1, r2, hbl⟩ := hrel
    by_cases hlt : m < 16
    · have c0 := r0.cell (i := m) hlt
      have c1 := r1.cell (i := m) hlt
      have z0 := r0.frozen m
      have hx := r_xor8 (h m) (k m)
      obtain ⟨Z, hZ⟩ : ∃ Z, Z = f m ^^^ k m := ⟨_, rfl⟩
      have HV := hide (show h m ^^^ k m = Z by rw [hh.out m hlt, if_neg (by omega), hZ])
      have HZ := hide hZ
      clear hZ
      obtain ⟨Y, hY⟩ : ∃ Y, Y = h m ^^^ k m := ⟨_, rfl⟩
      rw [← hY] at hx HV
      have hm' : (m : Int) < 16 := by omega
      unfold u8V at c0 c1
      generalize hA : h m = A at *
      generalize hB : k m = B at c1 hx hY HV
      clear hA hB hY
      go_wp2_with fail
      go_region
      clear c0 c1 z0 hx
      go_wp2_with fail
      go_roundw
      case rel =>
        refine ⟨m + 1, fun j => if j = m then Y else h j, by omega, by go_num, fun j hj => ?_, (set_byte r0 rfl).drew, (r1.setOther (by simp) _).drew, (r2.setOther (by simp) _).drew, (hbl.setCell (Nat.le_refl _) _).drew⟩
        show (if j = m then Y else h j) = _
        by_cases e : j = m
        · rw [if_pos e, if_pos (by omega), HV.out, e, HZ.out]
        · rw [if_neg e, hh.out j hj]
          by_cases e2 : j < m
          · rw [if_pos e2, if_pos (by omega)]
          · rw [if_neg e2, if_neg (by omega)]
      case measure => simp [intOf]; omega
    · have r0' : wr.rowIs w.heap.size 70 16 (u8V fun j => f j ^^^ k j) := r0.congr fun i hi => by rw [u8V, u8V, hh.out i hi, if_pos (by omega)]
      have hth := row_there (o := 0) (n := 16) r2 (by omega)
      have hfin := row_setCells0 (k := fun j => f j ^^^ k j) r2
      clear hh r0
      go_wp2_with (first | (refine wpList_load_B rfl 70 _ rfl w.heap.size 0 rfl _ _ 16 _ (fun j => f j ^^^ k j) _ r0' (by omega) (fun j _ => by rw [Nat.zero_add]) Tryz.underlying70 rfl Tryz.size16 ?_) | (refine wpList_store_B rfl 70 _ _ rfl (w.heap.size + 2) 0 16 (fun j => f j ^^^ k j) rfl rfl hth Tryz.size16 ?_))
      exact bodyPost_ret (ret_B Tryz.results52 _ _ (w.heap.size + 2) 16 _ _ _ rfl hfin Tryz.underlying70 rfl Tryz.size16) rfl ⟨rfl, below_setCells' hbl (by omega)⟩
set_option maxRecDepth 100000 in
set_option maxHeartbeats 800000 in
theorem imp_shifted (g : Nat) (f : Nat → UInt8) (w : World) (hg : g < w.heap.size) (ht : ∀ j, j < 256 → w.cell? ⟨g, j, none⟩ = some (.int .u8 ((sbox j).toNat : Int))) :
    Calls Tryz.prog 77 #[.pointer (some ⟨g, 0, none⟩), .agg (bL 16 f).toArray] w fun e w' => e = .returned (.agg (bL 16 (subF f)).toArray) ∧ Below w.heap.size w w' := by
  have HT := hide ht
  clear ht
  go_enter Tryz.func77, Tryz.ntmps77
  go_wp2_with fail
  go_loopw [10] (fun i wx => ∃ (m : Nat) (h : Nat → UInt8), m ≤ 16 ∧ i = .int .i64 m ∧ Hid (∀ j, j < m → h j = subF f j) ∧ wx.rowIs w.heap.size 70 16 (u8V f) ∧ wx.rowIs (w.heap.size + 1) 70 16 (u8V fun _ => 0) ∧ wx.rowIs (w.heap.size + 2) 70 16 (u8V h) ∧ Below w.heap.size w wx) (fun i _ => 16 - (intOf i).toNat)
  case atStart =>
    refine ⟨0, fun _ => 0, by omega, rfl, fun j hj => by omega, ((row_alloc w _ 16 f).alloc _).alloc _, ?_, ?_, (((Below.refl _ _).alloc (Nat.le_refl _) _).alloc (by simp) _).alloc (by simp; omega) _⟩
    · have h := zeros8_row 16 (w.alloc (.cells (bL 16 f).toArray 70)) _ 70 rfl
      rw [World.size_alloc] at h
      exact h.alloc _
    · have h := zeros8_row 16 ((w.alloc (.cells (bL 16 f).toArray 70)).alloc (.cells (List.replicate 16 (Value.int .u8 0)).toArray 70)) _ 70 rfl
      rw [World.size_alloc, World.size_alloc] at h
      exact h
  case round =>
    obtain ⟨m, h, hm, rfl, hh, r0, r1, r2, hbl⟩ := hrel
    by_cases hlt : m < 16
    · obtain ⟨c, ec⟩ : ∃ c, c = m / 4 := ⟨_, rfl⟩
      obtain ⟨r, er⟩ : ∃ c, c = m % 4 := ⟨_, rfl⟩
      obtain ⟨s, es⟩ : ∃ x, x = (c + r) % 4 := ⟨_, rfl⟩
      obtain ⟨q, eq⟩ : ∃ x, x = 4 * s + r := ⟨_, rfl⟩
      have t1 : (m : Int) / 4 = (c : Int) := by omega
      have t2 : (m : Int) % 4 = (r : Int) := by omega
      have t3 : ((c : Int) + (r : Int)) % 4 = (s : Int) := by omega
      have t4 : 4 * (s : Int) + (r : Int) = (q : Int) := by omega
      have hc4 : (c : Int) ≤ 3 := by omega
      have hr4 : (r : Int) ≤ 3 := by omega
      have hs4 : (s : Int) ≤ 3 := by omega
      have hq : q < 16 := by omega
      have hq' : (q : Int) < 16 := by omega
      have hm' : (m : Int) < 16 := by omega
      have HV := hide (show subF f m = sbox (f q).toNat by rw [subF, subB, ← ec, ← er, ← es, ← eq])
      have cq := r0.cell (i := q) hq
      unfold u8V at cq
      have ho := r2.cell (i := m) hlt
      have hz := r2.frozen m
      have hA8 := (f q).toNat_lt
      have ct : wr.cell? ⟨g, (f q).toNat, none⟩ = some (.int .u8 ((sbox (f q).toNat).toNat : Int)) := (hbl.cell (p := ⟨g, (f q).toNat, none⟩) hg).trans (HT.out _ hA8)
      generalize hY : sbox (f q).toNat = Y at *
      generalize hA : f q = A at *
      have hA' : (A.toNat : Int) < 256 := by omega
      have HE := hide (And.intro ec (And.intro er (And.intro es eq)))
      clear ec er es eq hY hA
      go_wp2_with fail
      go_region_held3 (fun w' => w'.cell? ⟨w.heap.size, q, none⟩ = some (.int .u8 (A.toNat : Int)) ∧ w'.cell? ⟨g, A.toNat, none⟩ = some (.int .u8 (Y.toNat : Int))) (first | exact ⟨cell_far (by omega) cq, cell_far (by omega) ct⟩ | go_keep) (fail)
      rename_i _ hH
      clear hH t1 t2 t3 t4 cq ct ho hz hA8 hA' hq'
      go_wp2_with fail
      go_roundw
      case rel =>
        refine ⟨m + 1, fun j => if j = m then Y else h j, by omega, by go_num, fun j hj => ?_, (r0.setOther (by simp; omega) _).drew, (r1.setOther (by simp) _).drew, (set_byte r2 rfl).drew, (hbl.setCell (by simp; omega) _).drew⟩
        show (if j = m then Y else h j) = _
        by_cases e : j = m
        · rw [if_pos e, e, HV.out]
        · rw [if_neg e]; exact hh.out j (by omega)
      case measure => simp [intOf]; omega
    · have r2' : wr.rowIs (w.heap.size + 2) 70 16 (u8V (subF f)) := r2.congr fun i hi => by rw [u8V, u8V, hh.out i (by omega)]
      have hth := row_there (o := 0) (n := 16) r1 (by omega)
      have hfin := row_setCells0 (k := subF f) r1
      clear hh r2
      go_wp2_with (first | (refine wpList_load_B rfl 70 _ rfl (w.heap.size + 2) 0 rfl _ _ 16 _ (subF f) _ r2' (by omega) (fun j _ => by rw [Nat.zero_add]) Tryz.underlying70 rfl Tryz.size16 ?_) | (refine wpList_store_B rfl 70 _ _ rfl (w.heap.size + 1) 0 16 (subF f) rfl rfl hth Tryz.size16 ?_))
      exact bodyPost_ret (ret_B Tryz.results77 _ _ (w.heap.size + 1) 16 _ _ _ rfl hfin Tryz.underlying70 rfl Tryz.size16) rfl ⟨rfl, below_setCells' hbl (by omega)⟩
end Go.Proofs.YtconcnndghmdfaaGreatDoor

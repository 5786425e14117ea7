/- The walks over the model's l03Sbox, SboxOf, l03Box. -/
import Derived.Test.YtgbbfdcfiofneaaAesT
import Derived.Test.YtgbbfdcfiofneaaBytes8
namespace Go.Proofs.Ytgbbfdcfiofneaa
open Go.RowKit
theorem ring_eq (R P k k8 : Nat) (hR : R < 256) (hP : P < 256) (hk : k < 5) (h8 : k8 = 8 - k) :
    bits .xor .i64 (R : Int) (bits .or .i64 (bits .and .i64 (wrap64 ((P : Int) * 2 ^ k)) 255) ((P : Int) / 2 ^ k8)) = ((R ^^^ ((P * 2 ^ k) % 256 ||| P / 2 ^ (8 - k)) : Nat) : Int) := by
  have hp : 2 ^ k ≤ 2 ^ 4 := Nat.pow_le_pow_right (by omega) (by omega)
  have hb : P * 2 ^ k ≤ 255 * 16 := Nat.mul_le_mul (by omega) hp
  have e1 : ((P : Int) * 2 ^ k) = ((P * 2 ^ k : Nat) : Int) := by simp
  have e2 : ((P : Int) / 2 ^ k8) = ((P / 2 ^ k8 : Nat) : Int) := by simp
  have hd : P / 2 ^ k8 ≤ P := Nat.div_le_self _ _
  have ha : (P * 2 ^ k) &&& 255 = (P * 2 ^ k) % 256 := Nat.and_two_pow_sub_one_eq_mod _ 8
  have ho : (P * 2 ^ k) % 256 ||| P / 2 ^ k8 < 2 ^ 8 := Nat.or_lt_two_pow (Nat.mod_lt _ (by decide)) (by omega)
  rw [e1, e2, IntWalk.wrap64_in _ ⟨by omega, by omega⟩, show (255 : Int) = ((255 : Nat) : Int) from rfl, q_and _ _ (by omega) (by omega), ha, q_or _ _ (by omega) (by omega), q_xor _ _ (by omega) (by omega), h8]
set_option maxRecDepth 100000 in
set_option maxHeartbeats 800000 in
theorem spec_sbox (n : Nat) (w : World) (hn : n < 256) :
    Calls Try.prog 38 #[.int .i64 n] w fun e w' => e = .returned (.int .i64 (sboxN n : Nat)) ∧ w = w' := by
  go_enter Try.func38, Try.ntmps38
  go_wp2_with fail
  go_loopw [3, 4] (fun b i wx => ∃ j : Nat, j ≤ 8 ∧ i = .int .i64 (7 - (j : Int)) ∧ b = .int .i64 (pw n j : Nat) ∧ w = wx) (fun _ i _ => (intOf i + 1).toNat)
  case atStart => exact ⟨0, by omega, rfl, rfl, rfl⟩
  case round =>
    obtain ⟨j, hj, rfl, rfl, rfl⟩ := hrel
    have hp := pw_lt n j
    by_cases hlt : j < 8
    · have eP := hide (show pw n (j + 1) = if j < 7 then times (times (pw n j) (pw n j)) n else times (pw n j) (pw n j) from rfl)
      generalize hP2 : pw n (j + 1) = P2 at *
      generalize pw n j = P at *
      have ht := times_lt P P hp
      by_cases h7 : j < 7
      · rw [if_pos h7] at eP
        go_wp2_with fail
        refine (spec_times P P _ hp hp).mono ?_
        rintro e w1 ⟨rfl, rfl⟩
        go_wp2_with fail
        refine (spec_times (times P P) n _ ht hn).mono ?_
        rintro e w1 ⟨rfl, rfl⟩
        go_wp2_with fail
        exact ⟨⟨j + 1, by omega, by go_num, by rw [hP2, eP.out], trivial⟩, by simp [intOf]; omega⟩
      · rw [if_neg h7] at eP
        go_wp2_with fail
        refine (spec_times P P _ hp hp).mono ?_
        rintro e w1 ⟨rfl, rfl⟩
        go_wp2_with fail
        exact ⟨⟨j + 1, by omega, by go_num, by rw [hP2, eP.out], trivial⟩, by simp [intOf]; omega⟩
    · have hP8 := hide (show pw n j = pw n 8 by rw [show j = 8 by omega])
      generalize pw n j = P at *
      have hP' : (P : Int) ≤ 255 := by omega
      go_wp2_with fail
      go_loopw [5, 6] (fun o i wx => ∃ k : Nat, k ≤ 5 ∧ i = .int .i64 k ∧ o = .int .i64 (ring P k : Nat) ∧ w = wx) (fun _ i _ => 5 - (intOf i).toNat)
      case atStart => exact ⟨0, by omega, rfl, rfl, rfl⟩
      case round =>
        obtain ⟨k, hk, rfl, rfl, rfl⟩ := hrel
        have hr := ring_lt P hp k hk
        by_cases hlt5 : k < 5
        · have eR := hide (show ring P (k + 1) = ring P k ^^^ ((P * 2 ^ k) % 256 ||| P / 2 ^ (8 - k)) from rfl)
          generalize hR2 : ring P (k + 1) = R2 at *
          generalize ring P k = R at *
          obtain ⟨k8, hk8⟩ : ∃ m, m = 8 - k := ⟨_, rfl⟩
          have m8 : IntKind.i64.wrap (8 - (k : Int)) = (k8 : Int) := by simp only [IntKind.wrap_i64]; omega
          have hk8' : k8 ≤ 8 := by omega
          have HK8 := hide hk8
          clear hk8
          go_wp2_with fail
          have hv := hide (ring_eq R P k k8 hr hp hlt5 HK8.out)
          refine ⟨⟨k + 1, by omega, by go_num, by rw [hv.out, hR2, eR.out], trivial⟩, by simp [intOf]; omega⟩
        · have hE := hide (show ring P k = sboxN n by rw [show k = 5 by omega, hP8.out]; rfl)
          go_wp2_with fail
          go_ret
          exact ⟨by rw [← hE.out]; rfl, rfl⟩
theorem sbox_toNat (n : Nat) : (sbox n).toNat = sboxN n := by
  have h := sboxN_lt n
  unfold sbox
  rw [UInt8.toNat_ofNat']; exact Nat.mod_eq_of_lt h
theorem Try.infoB8 : (Try.prog.info? 5).map (fun i => (i.zero, i.size, i.bytes)) = some (some (.int .u8 0), 1, 1) := by kernel_rfl
set_option maxRecDepth 100000 in
set_option maxHeartbeats 800000 in
theorem spec_box (w : World) :
    Calls Try.prog 33 #[] w fun e w' => e = .returned (.slice (some ⟨w.heap.size, 0, none⟩) 256 256) ∧ w'.rowIs w.heap.size 5 256 (u8V sbox) ∧ Below w.heap.size w w' := by
  have hmk : ∀ w : World, (Instr.makeSlice 22 (.int .i64 256) (.int .i64 256)).run Try.prog w = .ok (.slice (some ⟨w.heap.size, 0, none⟩) 256 256) (w.alloc (.cells (madeCells #[.int .u8 0] 256) 5)) := run_make_row' (P := Try.prog) 22 5 (.int .u8 0) 1 (by kernel_rfl) Try.infoB8 rfl .i64 .i64 256 (by omega) (by omega)
  go_enter Try.func33, Try.ntmps33
  go_wp2_with fail
  clear hmk
  go_loopw [2] (fun i wx => ∃ (k : Nat) (f : Nat → UInt8), k ≤ 256 ∧ i = .int .i64 k ∧ Hid (∀ j, j < k → f j = sbox j) ∧ wx.rowIs w.heap.size 5 256 (u8V f) ∧ Below w.heap.size w wx) (fun i _ => 256 - (intOf i).toNat)
  case atStart => exact ⟨0, fun _ => 0, by omega, rfl, fun j hj => by omega, World.rowIs_made _ _ _ _, (Below.refl _ _).alloc (Nat.le_refl _) _⟩
  case round =>
    obtain ⟨k, f, hk, rfl, hf, hrw, hbl⟩ := hrel
    by_cases hlt : k < 256
    · have ck := hrw.cell (i := k) hlt
      have hfz := hrw.frozen k
      have hS := sboxN_lt k
      have hS' : (sboxN k : Int) ≤ 255 := by omega
      have HS := hide (sbox_toNat k)
      go_wp2_with fail
      refine (spec_sbox k _ hlt).mono ?_
      rintro e w1 ⟨rfl, rfl⟩
      go_wp2_with fail
      refine ⟨⟨k + 1, fun j => if j = k then sbox k else f j, by omega, by go_num, fun j hj => ?_, set_byte hrw HS.out.symm, hbl.setCell (Nat.le_refl _) _⟩, by simp [intOf]; omega⟩
      show (if j = k then sbox k else f j) = _
      by_cases e : j = k
      · rw [if_pos e, e]
      · rw [if_neg e]; exact hf.out j (by omega)
    · have hr2 : wr.rowIs w.heap.size 5 256 (u8V sbox) := hrw.congr fun i hi => by rw [u8V, u8V, hf.out i (by omega)]
      go_wp2_with fail
      go_ret
      exact ⟨rfl, hr2, hbl⟩
set_option maxRecDepth 100000 in
set_option maxHeartbeats 800000 in
theorem spec_byte (n : Int) (b : Bool) (w : World) (hb : b = decide (0 ≤ n ∧ n ≤ 255)) :
    Calls Try.prog 37 #[.int .i64 n] w fun e w' => e = .returned (.bool b) ∧ w = w' := by
  by_cases h0 : 0 ≤ n
  · by_cases h1 : n ≤ 255
    · obtain rfl : b = true := by rw [hb]; exact decide_eq_true ⟨h0, h1⟩
      clear hb
      go_enter Try.func37, Try.ntmps37
      go_wp2_with fail
      go_ret
      exact ⟨rfl, rfl⟩
    · obtain rfl : b = false := by rw [hb]; exact decide_eq_false (fun h => h1 h.2)
      clear hb
      have h1' : ¬ n ≤ 255 := h1
      have hd : decide (n ≤ 255) = false := decide_eq_false h1
      go_enter Try.func37, Try.ntmps37
      go_wp2_with fail
      go_ret
      exact ⟨rfl, rfl⟩
  · obtain rfl : b = false := by rw [hb]; exact decide_eq_false (fun h => h0 h.1)
    clear hb
    have hd : decide (0 ≤ n) = false := decide_eq_false h0
    go_enter Try.func37, Try.ntmps37
    go_wp2_with fail
    go_ret
    exact ⟨rfl, rfl⟩
def sboxS (n : Int) : Int := if 0 ≤ n ∧ n ≤ 255 then (sboxN n.toNat : Int) else 0
set_option maxRecDepth 100000 in
set_option maxHeartbeats 800000 in
theorem spec_sboxOf (n : Int) (w : World) :
    Calls Try.prog 20 #[.int .i64 n] w fun e w' => e = .returned (.int .i64 (sboxS n)) ∧ w = w' := by
  by_cases h : 0 ≤ n ∧ n ≤ 255
  · obtain ⟨k, rfl⟩ := Int.eq_ofNat_of_zero_le h.1
    have hE : sboxS (k : Int) = (sboxN k : Int) := by unfold sboxS; rw [if_pos h]; rfl
    rw [hE]
    have hd := hide (decide_eq_true h).symm
    have hk := h.2
    clear hE h
    go_enter Try.func20, Try.ntmps20
    go_wp2_with (first | (go_at_call 37; refine (spec_byte (k : Int) true _ hd.out).mono ?_; rintro e w1 ⟨rfl, rfl⟩))
    refine (spec_sbox k _ (by omega)).mono ?_
    rintro e w1 ⟨rfl, rfl⟩
    go_wp2_with fail
    go_ret
    exact ⟨rfl, rfl⟩
  · have hE : sboxS n = 0 := if_neg h
    rw [hE]
    have hd := hide (decide_eq_false h).symm
    clear hE h
    go_enter Try.func20, Try.ntmps20
    go_wp2_with (first | (go_at_call 37; refine (spec_byte n false _ hd.out).mono ?_; rintro e w1 ⟨rfl, rfl⟩))
    go_ret
    exact ⟨rfl, rfl⟩
end Go.Proofs.Ytgbbfdcfiofneaa

/- The walks over the program's newByteTable and SboxOf. -/
import Derived.Test.YtgbbfdcfiofneaaImpAesT
import Derived.Test.YtgbbfdcfiofneaaTabMath
import Derived.Test.YtgbbfdcfiofneaaArr
namespace Go.Proofs.Ytgbbfdcfiofneaa
open Go.RowKit
theorem Try.infoTab : (Try.prog.info? 56).map (fun i => (i.zero, i.size)) = some (some (.agg (bL 256 fun _ => 0).toArray), 256) := by kernel_rfl
theorem ofNat_toNat (n : Nat) (h : n < 256) : (UInt8.ofNat n).toNat = n := by rw [UInt8.toNat_ofNat']; exact Nat.mod_eq_of_lt h
attribute [local irreducible] times ring it
set_option maxRecDepth 100000 in
set_option maxHeartbeats 800000 in
theorem imp_table (w : World) :
    Calls Try.prog 39 #[] w fun e w' => e = .returned (.agg (bL 256 sbox).toArray) ∧ Below w.heap.size w w' := by
  obtain ⟨hz, hsz⟩ := zero_of_info Try.infoTab
  have r1 := row_alloc (w.alloc (.cells (bL 256 fun _ => 0).toArray 56)) 56 256 (fun _ => 0)
  rw [World.size_alloc] at r1
  have c0 := r1.cell (i := 0) (by omega)
  have f0 := r1.frozen 0
  go_enter Try.func39, Try.ntmps39
  go_wp2_with fail
  clear hz c0 f0
  go_loopw [2, 3, 5] (fun p u i wx => ∃ (k P U : Nat) (f : Nat → UInt8), k ≤ 255 ∧ i = .int .i64 k ∧ p = .int .u8 (P : Nat) ∧ u = .int .u8 (U : Nat) ∧ Hid (P = it 3 k) ∧ Hid (U = it 246 k) ∧ P < 256 ∧ U < 256 ∧ Hid (∀ j, j < 256 → f j = tabAt k j) ∧ wx.rowIs w.heap.size 56 256 (u8V fun _ => 0) ∧ wx.rowIs (w.heap.size + 1) 56 256 (u8V f) ∧ Below w.heap.size w wx) (fun _ _ i _ => 255 - (intOf i).toNat)
  case atStart => exact ⟨0, 1, 1, fun j => if j = 0 then 99 else 0, by omega, rfl, rfl, rfl, (it_zero 3).symm, (it_zero 246).symm, by omega, by omega, fun j _ => rfl, (row_alloc w _ 256 _).alloc _, by have h := row_alloc_set (w.alloc (.cells (bL 256 fun _ => 0).toArray 56)) 56 256 0 (fun _ => 0) 99 99 rfl; rw [World.size_alloc] at h; exact h, ((Below.refl _ _).alloc (Nat.le_refl _) _).alloc (by simp) _⟩
  case round =>
    clear r1
    obtain ⟨k, P, U, f, hk, rfl, rfl, rfl, hP, hU, hP8, hU8, hf, hres, hrw, hbl⟩ := hrel
    by_cases hlt : k < 255
    · have hR := ring_lt U hU8 5 (by omega)
      have ck := hrw.cell (i := P) hP8
      have hfz := hrw.frozen P
      have hP' : (P : Int) < 256 := by omega
      have HV := hide (show UInt8.ofNat (ring U 5) = UInt8.ofNat (ring (it 246 k) 5) by rw [hU.out])
      have HR := hide (ofNat_toNat (ring U 5) hR)
      have e3 := hide (show times P 3 = it 3 (k + 1) by rw [hP.out, it_succ])
      have e246 := hide (show times U 246 = it 246 (k + 1) by rw [hU.out, it_succ])
      have l3 := times_lt P 3 hP8
      have l246 := times_lt U 246 hU8
      have s1 := fun w => imp_turned U w hU8
      have s2 := fun w => imp_times P 3 w hP8 (by decide)
      have s3 := fun w => imp_times U 246 w hU8 (by decide)
      generalize ring U 5 = R at *
      generalize times P 3 = P3 at *
      generalize times U 246 = U3 at *
      have S := hide (And.intro s1 (And.intro s2 s3))
      clear s1 s2 s3 hsz
      go_wp2_with fail
      refine (S.out.1 _).mono ?_
      rintro e w1 ⟨rfl, rfl⟩
      go_wp2_with fail
      refine (S.out.2.1 _).mono ?_
      rintro e w1 ⟨rfl, rfl⟩
      go_wp2_with fail
      refine (S.out.2.2 _).mono ?_
      rintro e w1 ⟨rfl, rfl⟩
      go_wp2_with fail
      go_roundw
      case rel =>
        refine ⟨k + 1, P3, U3, fun j => if j = P then UInt8.ofNat R else f j, by omega, by go_num, rfl, rfl, e3, e246, l3, l246, fun j hj => ?_, hres.setOther (by simp) _, set_byte hrw HR.out.symm, hbl.setCell (by simp) _⟩
        show (if j = P then UInt8.ofNat R else f j) = if j = it 3 k then _ else tabAt k j
        rw [← hP.out, HV.out, hf.out j hj]
      case measure => simp [intOf]; omega
    · have hrw2 : wr.rowIs (w.heap.size + 1) 56 256 (u8V sbox) := hrw.congr fun i hi => by rw [u8V, u8V, hf.out i hi, show k = 255 by omega, tab_end i hi]
      have hth := row_there (o := 0) (n := 256) hres (by omega)
      have hfin := row_setCells0 (k := sbox) hres
      clear hf hrw
      go_wp2_with (first | (refine wpList_load_B rfl 56 _ rfl (w.heap.size + 1) 0 rfl _ _ 256 _ sbox _ hrw2 (by omega) (fun j _ => by rw [Nat.zero_add]) Try.underlying56 rfl hsz ?_) | (refine wpList_store_B rfl 56 _ _ rfl w.heap.size 0 256 sbox rfl rfl hth hsz ?_))
      exact bodyPost_ret (ret_B Try.results39 _ _ w.heap.size 256 _ sbox _ rfl hfin Try.underlying56 rfl hsz) rfl ⟨rfl, below_setCells' hbl (Nat.le_refl _)⟩
set_option maxRecDepth 100000 in
set_option maxHeartbeats 400000 in
theorem imp_sboxOf (n : Int) (w : World) :
    Calls Try.prog 21 #[.int .i64 n] w fun e w' => e = .returned (.int .i64 (sboxS n)) ∧ Below w.heap.size w w' := by
  by_cases h : 0 ≤ n ∧ n ≤ 255
  · obtain ⟨k, rfl⟩ := Int.eq_ofNat_of_zero_le h.1
    have hE : sboxS (k : Int) = ((sbox k).toNat : Int) := by unfold sboxS; rw [if_pos h, sbox_toNat]; rfl
    rw [hE]
    have h1 : ¬ (k : Int) < 0 := by omega
    have h2 : ¬ (255 : Int) < (k : Int) := by omega
    have h1d : decide ((k : Int) < 0) = false := decide_eq_false h1
    have hx : ∀ w, (Instr.index 56 (.agg (bL 256 sbox).toArray) (.int .i64 (k : Int))).run Try.prog w = .ok (.int .u8 ((sbox k).toNat : Int)) w := run_index_byte 56 5 256 sbox k Try.underlying56 Try.underlying5 (by kernel_rfl) (by omega)
    obtain ⟨X, hX⟩ : ∃ X, X = sbox k := ⟨_, rfl⟩
    rw [← hX] at hx ⊢
    have hX8 := X.toNat_lt
    clear hE h hX
    go_enter Try.func21, Try.ntmps21
    go_wp2_with (first | (go_at_call 39; refine (imp_table _).mono ?_; rintro e w1 ⟨rfl, hb1⟩))
    go_ret
    exact ⟨rfl, hb1⟩
  · have hE : sboxS n = 0 := if_neg h
    rw [hE]
    by_cases h1 : n < 0
    · have h1d : decide (n < 0) = true := decide_eq_true h1
      clear hE h
      go_enter Try.func21, Try.ntmps21
      go_wp2_with fail
      go_ret
      exact ⟨rfl, Below.refl _ _⟩
    · have h1d : decide (n < 0) = false := decide_eq_false h1
      have h2 : (255 : Int) < n := by omega
      clear hE h
      go_enter Try.func21, Try.ntmps21
      go_wp2_with fail
      go_ret
      exact ⟨rfl, Below.refl _ _⟩
end Go.Proofs.Ytgbbfdcfiofneaa

/- The walk over the model's l03Mix. -/
import Derived.Test.YtconcnndghmdfaaGreatDoorSa5
import Derived.Test.YtconcnndghmdfaaGreatDoorSa6
import Derived.BigRegion
import Derived.BigQuiet
import Derived.Deep.RegionHeld3
namespace Go.Proofs.YtconcnndghmdfaaGreatDoor
open Go.RowKit
attribute [local irreducible] times
/-- A product of bytes, as a byte. -/
def mul (a : UInt8) (k : Nat) : UInt8 := UInt8.ofNat (times a.toNat k)
theorem mul_toNat (a : UInt8) (k : Nat) : (mul a k).toNat = times a.toNat k := by
  have h := times_lt a.toNat k a.toNat_lt
  unfold mul
  rw [UInt8.toNat_ofNat']; exact Nat.mod_eq_of_lt h
/-- A mixed column's byte: of the block f the byte j. -/
def mixB (f : Nat → UInt8) (c r : Nat) : UInt8 := mul (f (4 * c + r)) 2 ^^^ mul (f (4 * c + (r + 1) % 4)) 3 ^^^ f (4 * c + (r + 2) % 4) ^^^ f (4 * c + (r + 3) % 4)
def mixF (f : Nat → UInt8) (j : Nat) : UInt8 := mixB f (j / 4) (j % 4)
theorem xor_u8 (a b : Nat) (ha : a < 256) (hb : b < 256) : a ^^^ b = (UInt8.ofNat a ^^^ UInt8.ofNat b).toNat := by
  rw [UInt8.toNat_xor, UInt8.toNat_ofNat', UInt8.toNat_ofNat', Nat.mod_eq_of_lt ha, Nat.mod_eq_of_lt hb]
theorem spec_timesI (a : Nat) (B : Int) (w : World) (ha : a < 256) (hb0 : 0 ≤ B) (hb : B < 256) :
    Calls Tryz.prog 122 #[.int .i64 a, .int .i64 B] w fun e w' => e = .returned (.int .i64 (times a B.toNat : Nat)) ∧ w = w' := by
  have h := spec_times a B.toNat w ha (by omega)
  rwa [show ((B.toNat : Nat) : Int) = B by omega] at h
set_option maxRecDepth 100000 in
set_option maxHeartbeats 1600000 in
theorem spec_mix (g cap : Nat) (f : Nat → UInt8) (w : World) (hg : g < w.heap.size) (hf : ∀ j, j < 16 → w.cell? ⟨g, j, none⟩ = some (u8V f j)) :
    Calls Tryz.prog 123 #[.slice (some ⟨g, 0, none⟩) 16 cap] w fun e w' => e = .returned (.slice (some ⟨w.heap.size, 0, none⟩) 16 16) ∧ w'.rowIs w.heap.size 5 16 (u8V (mixF f)) ∧ Below w.heap.size w w' := by
  have HF := hide hf
  clear hf
  have hmk : ∀ w : World, (Instr.makeSlice 22 (.int .i64 16) (.int .i64 16)).run Tryz.prog w = .ok (.slice (some ⟨w.heap.size, 0, none⟩) 16 16) (w.alloc (.cells (madeCells #[.int .u8 0] 16) 5)) := run_make_row' (P := Tryz.prog) 22 5 (.int .u8 0) 1 (by kernel_rfl) Tryz.infoB8 rfl .i64 .i64 16 (by omega) (by omega)
  go_enter Tryz.func123, Tryz.ntmps123
  go_wp2_with fail
  clear hmk
  go_loopw [4] (fun i wx => ∃ (c : Nat) (h : Nat → UInt8), c ≤ 4 ∧ i = .int .i64 c ∧ Hid (∀ j, j < 4 * c → h j = mixF f j) ∧ wx.rowIs w.heap.size 5 16 (u8V h) ∧ Below w.heap.size w wx) (fun i _ => 4 - (intOf i).toNat)
  case atStart => exact ⟨0, fun _ => 0, by omega, rfl, fun j hj => by omega, World.rowIs_made _ _ _ _, (Below.refl _ _).alloc (Nat.le_refl _) _⟩
  case round =>
    obtain ⟨c, h, hc, rfl, hh, hrw, hbl⟩ := hrel
    by_cases hlt : c < 4
    · have hlt' : decide ((c : Int) < 4) = true := decide_eq_true (by omega)
      go_wp2_with fail
      go_loopw [5] (fun i wx => ∃ (r : Nat) (h : Nat → UInt8), r ≤ 4 ∧ i = .int .i64 r ∧ Hid (∀ j, j < 4 * c + r → h j = mixF f j) ∧ wx.rowIs w.heap.size 5 16 (u8V h) ∧ Below w.heap.size w wx) (fun i _ => 4 - (intOf i).toNat)
      case atStart => exact ⟨0, h, by omega, rfl, fun j hj => hh.out j (by omega), hrw, hbl⟩
      case round =>
        clear hh hrw hbl
        obtain ⟨r, h, hr, rfl, hh, hrw, hbl⟩ := hrel
        by_cases hlt4 : r < 4
        · obtain ⟨c4, ec4⟩ : ∃ q, q = 4 * c := ⟨_, rfl⟩
          obtain ⟨q0, e0⟩ : ∃ q, q = 4 * c + r := ⟨_, rfl⟩
          obtain ⟨r1, er1⟩ : ∃ q, q = (r + 1) % 4 := ⟨_, rfl⟩
          obtain ⟨r2, er2⟩ : ∃ q, q = (r + 2) % 4 := ⟨_, rfl⟩
          obtain ⟨r3, er3⟩ : ∃ q, q = (r + 3) % 4 := ⟨_, rfl⟩
          obtain ⟨s1, es1⟩ : ∃ q, q = r + 1 := ⟨_, rfl⟩
          obtain ⟨s2, es2⟩ : ∃ q, q = r + 2 := ⟨_, rfl⟩
          obtain ⟨s3, es3⟩ : ∃ q, q = r + 3 := ⟨_, rfl⟩
          have HE := hide (show r1 = (r + 1) % 4 ∧ r2 = (r + 2) % 4 ∧ r3 = (r + 3) % 4 from ⟨er1, er2, er3⟩)
          have t1 : (s1 : Int) % 4 = (r1 : Int) := by rw [er1, es1]; exact (Int.natCast_emod _ _).symm
          have t2 : (s2 : Int) % 4 = (r2 : Int) := by rw [er2, es2]; exact (Int.natCast_emod _ _).symm
          have t3 : (s3 : Int) % 4 = (r3 : Int) := by rw [er3, es3]; exact (Int.natCast_emod _ _).symm
          have b1 : r1 < 4 := by rw [er1]; exact Nat.mod_lt _ (by decide)
          have b2 : r2 < 4 := by rw [er2]; exact Nat.mod_lt _ (by decide)
          have b3 : r3 < 4 := by rw [er3]; exact Nat.mod_lt _ (by decide)
          have T := hide (And.intro t1 (And.intro t2 t3))
          clear er1 er2 er3 t1 t2 t3
          obtain ⟨q1, e1⟩ : ∃ q, q = 4 * c + r1 := ⟨_, rfl⟩
          obtain ⟨q2, e2⟩ : ∃ q, q = 4 * c + r2 := ⟨_, rfl⟩
          obtain ⟨q3, e3⟩ : ∃ q, q = 4 * c + r3 := ⟨_, rfl⟩
          have m4 : IntKind.i64.wrap (4 * (c : Int)) = (c4 : Int) := w_mul (show 4 * c = c4 by omega) (by omega)
          have m0 : IntKind.i64.wrap ((c4 : Int) + (r : Int)) = (q0 : Int) := w_add (by omega) (by omega)
          have mr1 : IntKind.i64.wrap ((r : Int) + 1) = (s1 : Int) := w_add (b := 1) es1.symm (by omega)
          have mr2 : IntKind.i64.wrap ((r : Int) + 2) = (s2 : Int) := w_add (b := 2) es2.symm (by omega)
          have mr3 : IntKind.i64.wrap ((r : Int) + 3) = (s3 : Int) := w_add (b := 3) es3.symm (by omega)
          have m1 : IntKind.i64.wrap ((c4 : Int) + (r1 : Int)) = (q1 : Int) := w_add (by omega) (by omega)
          have m2 : IntKind.i64.wrap ((c4 : Int) + (r2 : Int)) = (q2 : Int) := w_add (by omega) (by omega)
          have m3 : IntKind.i64.wrap ((c4 : Int) + (r3 : Int)) = (q3 : Int) := w_add (by omega) (by omega)
          have tt1 : (s1 : Int).tmod 4 = (r1 : Int) := by rw [Int.tmod_eq_emod_of_nonneg (by omega)]; exact T.out.1
          have tt2 : (s2 : Int).tmod 4 = (r2 : Int) := by rw [Int.tmod_eq_emod_of_nonneg (by omega)]; exact T.out.2.1
          have tt3 : (s3 : Int).tmod 4 = (r3 : Int) := by rw [Int.tmod_eq_emod_of_nonneg (by omega)]; exact T.out.2.2
          have w1 : IntKind.i64.wrap (r1 : Int) = (r1 : Int) := by simp only [IntKind.wrap_i64]; omega
          have w2 : IntKind.i64.wrap (r2 : Int) = (r2 : Int) := by simp only [IntKind.wrap_i64]; omega
          have w3 : IntKind.i64.wrap (r3 : Int) = (r3 : Int) := by simp only [IntKind.wrap_i64]; omega
          have t1 := T.out.1
          have t2 := T.out.2.1
          have t3 := T.out.2.2
          have n0 : (q0 : Int) < 16 := by omega
          have n1 : (q1 : Int) < 16 := by omega
          have n2 : (q2 : Int) < 16 := by omega
          have n3 : (q3 : Int) < 16 := by omega
          have c0 : wr.cell? ⟨g, q0, none⟩ = some (.int .u8 ((f q0).toNat : Int)) := (hbl.cell (p := ⟨g, q0, none⟩) hg).trans (HF.out q0 (by omega))
          have c1 : wr.cell? ⟨g, q1, none⟩ = some (.int .u8 ((f q1).toNat : Int)) := (hbl.cell (p := ⟨g, q1, none⟩) hg).trans (HF.out q1 (by omega))
          have c2 : wr.cell? ⟨g, q2, none⟩ = some (.int .u8 ((f q2).toNat : Int)) := (hbl.cell (p := ⟨g, q2, none⟩) hg).trans (HF.out q2 (by omega))
          have c3 : wr.cell? ⟨g, q3, none⟩ = some (.int .u8 ((f q3).toNat : Int)) := (hbl.cell (p := ⟨g, q3, none⟩) hg).trans (HF.out q3 (by omega))
          have co := hrw.cell (i := q0) (by omega)
          have hfz := hrw.frozen q0
          have HV := hide (show mixF f q0 = mul (f q0) 2 ^^^ mul (f q1) 3 ^^^ f q2 ^^^ f q3 by
            rw [mixF, show q0 / 4 = c by omega, show q0 % 4 = r by omega, mixB, ← e0, ← HE.out.1, ← HE.out.2.1, ← HE.out.2.2, ← e1, ← e2, ← e3])
          have HQ := hide e0
          clear e0 e1 e2 e3 es1 es2 es3 ec4 T b1 b2 b3
          generalize f q0 = A0 at *
          generalize f q1 = A1 at *
          generalize f q2 = A2 at *
          generalize f q3 = A3 at *
          have k2 : (A0.toNat : Int) ≤ 255 := by have := A0.toNat_lt; omega
          have k3 : (A1.toNat : Int) ≤ 255 := by have := A1.toNat_lt; omega
          have wa0 : IntKind.i64.wrap (A0.toNat : Int) = (A0.toNat : Int) := by simp only [IntKind.wrap_i64]; omega
          have wa1 : IntKind.i64.wrap (A1.toNat : Int) = (A1.toNat : Int) := by simp only [IntKind.wrap_i64]; omega
          go_wp2_with fail
          go_region_held3 (fun w' => w'.cell? ⟨g, q0, none⟩ = some (.int .u8 (A0.toNat : Int)) ∧ w'.cell? ⟨g, q1, none⟩ = some (.int .u8 (A1.toNat : Int))) (go_keep)
            (first | (go_at_call 122; refine (spec_timesI _ _ _ ?_ ?_ ?_).mono ?_; exact UInt8.toNat_lt _; decide; decide; rintro e w' ⟨rfl, rfl⟩))
          rename_i _ hH
          clear hH
          obtain ⟨M, hM⟩ : ∃ M, M = mul A0 2 ^^^ mul A1 3 := ⟨_, rfl⟩
          have hxm : bits .xor .i64 (↑(times A0.toNat 2) : Int) (↑(times A1.toNat 3) : Int) = ((M.toNat : Nat) : Int) := by
            have h2 := times_lt A0.toNat 2 A0.toNat_lt
            have h3 := times_lt A1.toNat 3 A1.toNat_lt
            rw [q_xor _ _ (by omega) (by omega), hM, UInt8.toNat_xor, mul_toNat, mul_toNat]
          simp only [hxm]
          have hMl : IntKind.u8.wrap (M.toNat : Int) = (M.toNat : Int) := by rw [IntKind.wrap_u8]; have := M.toNat_lt; omega
          have hMb : (M.toNat : Int) ≤ 255 := by have := M.toNat_lt; omega
          rw [← hM] at HV
          have x1 := r_xor8 M A2
          have x2 := r_xor8 (M ^^^ A2) A3
          obtain ⟨N, hN⟩ : ∃ N, N = M ^^^ A2 := ⟨_, rfl⟩
          obtain ⟨Y, hY⟩ : ∃ Y, Y = M ^^^ A2 ^^^ A3 := ⟨_, rfl⟩
          rw [← hY] at HV x2
          rw [← hN] at x1 x2
          have hne : w.heap.size ≠ g := by omega
          clear hxm hM hN hY k2 k3 wa0 wa1 c0 c1
          go_wp2_with fail
          go_region_held3 (fun w' => w'.cell? ⟨g, q2, none⟩ = some (.int .u8 (A2.toNat : Int)) ∧ w'.cell? ⟨g, q3, none⟩ = some (.int .u8 (A3.toNat : Int))) (first | exact ⟨(cell_far hne c2), (cell_far hne c3)⟩ | go_keep) (fail)
          rename_i _ hH
          clear hH x1 x2 hMl hMb m4 m0 mr1 mr2 mr3 m1 m2 m3 c2 c3 co hfz t1 t2 t3 tt1 tt2 tt3
          go_wp2_with fail
          go_roundw
          case rel =>
            refine ⟨r + 1, fun j => if j = q0 then Y else h j, by omega, by go_num, fun j hj => ?_, set_byte hrw rfl, ((hbl.setCell (Nat.le_refl _) _).drew).drew⟩
            show (if j = q0 then Y else h j) = _
            by_cases e : j = q0
            · rw [if_pos e, e, HV.out]
            · rw [if_neg e]; exact hh.out j (by have := HQ.out; omega)
          case measure => simp [intOf]; omega
        · go_wp2_with fail
          exact ⟨⟨c + 1, h, by omega, by go_num, fun j hj => hh.out j (by omega), hrw, hbl⟩, by simp [intOf]; omega⟩
    · have hr2 : wr.rowIs w.heap.size 5 16 (u8V (mixF f)) := hrw.congr fun i hi => by rw [u8V, u8V, hh.out i (by omega)]
      go_wp2_with fail
      go_ret
      exact ⟨rfl, hr2, hbl⟩
end Go.Proofs.YtconcnndghmdfaaGreatDoor

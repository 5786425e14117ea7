/- The walk over the program's counted. -/
import Derived.Test.YtgbbfdcfiofneaaImpHid
import Derived.Test.YtgbbfdcfiofneaaAesCtr
import Derived.Test.YtgbbfdcfiofneaaImpHigh
namespace Go.Proofs.Ytgbbfdcfiofneaa
open Go.RowKit
attribute [local irreducible] times sbox dbl dU
theorem ctrB_hi (N m j : Nat) (f : Nat → UInt8) : (if 8 ≤ j ∧ j < 8 + 8 then hiB m (j - 8) else if 0 ≤ j ∧ j < 0 + 8 then hiB N (j - 0) else f j) = if j < 16 then ctrB N m j else f j := by
  by_cases h : j < 8
  · rw [if_neg (by omega), if_pos ⟨by omega, by omega⟩, if_pos (by omega), ctrB, if_pos h, hiB, show 56 - 8 * (j - 0) = 8 * (7 - j) by omega]
  · by_cases h2 : j < 16
    · rw [if_pos ⟨by omega, by omega⟩, if_pos h2, ctrB, if_neg h, hiB, show 56 - 8 * (j - 8) = 8 * (15 - j) by omega]
    · rw [if_neg (by omega), if_neg (by omega), if_neg h2]
set_option maxRecDepth 100000 in
set_option maxHeartbeats 800000 in
theorem imp_counted (N m : Nat) (w : World) (hN : N ≤ 9223372036854775807) (hm : m ≤ 9223372036854775807) :
    Calls Try.prog 30 #[.int .i64 (N : Int), .int .i64 (m : Int)] w fun e w' => e = .returned (.agg (bL 16 (ctrB N m)).toArray) ∧ Below w.heap.size w w' := by
  have hN' : (N : Int) ≤ 9223372036854775807 := by omega
  have hm' : (m : Int) ≤ 9223372036854775807 := by omega
  have HH := hide (And.intro (fun w => imp_highest N w hN) (fun w => imp_highest m w hm))
  go_enter Try.func30, Try.ntmps30
  go_wp2_with fail
  refine (HH.out.1 _).mono ?_
  rintro e w1 ⟨rfl, hb1⟩
  have z0 := (zeros8_row 16 w (List.replicate 16 (Value.int .u8 0)).toArray 48 rfl)
  have z1 := z0.of_block (hb1.block _ z0.lt)
  have b1 := ((Below.refl w.heap.size w).alloc (Nat.le_refl _) (.cells (List.replicate 16 (Value.int .u8 0)).toArray 48)).trans (hb1.mono (by simp))
  clear z0 hb1
  go_wp2_with fail
  refine (HH.out.2 _).mono ?_
  rintro e w2 ⟨rfl, hb2⟩
  have z2 := z1.of_block (hb2.block _ z1.lt)
  have b2 := b1.trans (hb2.mono b1.size)
  clear z1 hb2 b1
  have hs2 := b2.size
  have hl2 := z2.lt
  have p0 : ((w2.alloc (.cells #[Value.int .u8 0, Value.int .u8 0, Value.int .u8 0, Value.int .u8 0, Value.int .u8 0, Value.int .u8 0, Value.int .u8 0, Value.int .u8 0] 71)).alloc (.cells #[Value.int .u8 0, Value.int .u8 0, Value.int .u8 0, Value.int .u8 0, Value.int .u8 0, Value.int .u8 0, Value.int .u8 0, Value.int .u8 0] 71)).rowIs w2.heap.size 71 8 (u8V fun _ => 0) := (zeros8_row 8 w2 #[Value.int .u8 0, Value.int .u8 0, Value.int .u8 0, Value.int .u8 0, Value.int .u8 0, Value.int .u8 0, Value.int .u8 0, Value.int .u8 0] 71 rfl).alloc _
  have p1 : ((w2.alloc (.cells #[Value.int .u8 0, Value.int .u8 0, Value.int .u8 0, Value.int .u8 0, Value.int .u8 0, Value.int .u8 0, Value.int .u8 0, Value.int .u8 0] 71)).alloc (.cells #[Value.int .u8 0, Value.int .u8 0, Value.int .u8 0, Value.int .u8 0, Value.int .u8 0, Value.int .u8 0, Value.int .u8 0, Value.int .u8 0] 71)).rowIs (w2.heap.size + 1) 71 8 (u8V fun _ => 0) := by
    have h := zeros8_row 8 (w2.alloc (.cells #[Value.int .u8 0, Value.int .u8 0, Value.int .u8 0, Value.int .u8 0, Value.int .u8 0, Value.int .u8 0, Value.int .u8 0, Value.int .u8 0] 71)) #[Value.int .u8 0, Value.int .u8 0, Value.int .u8 0, Value.int .u8 0, Value.int .u8 0, Value.int .u8 0, Value.int .u8 0, Value.int .u8 0] 71 rfl
    rw [World.size_alloc] at h; exact h
  have p2 : ((w2.alloc (.cells #[Value.int .u8 0, Value.int .u8 0, Value.int .u8 0, Value.int .u8 0, Value.int .u8 0, Value.int .u8 0, Value.int .u8 0, Value.int .u8 0] 71)).alloc (.cells #[Value.int .u8 0, Value.int .u8 0, Value.int .u8 0, Value.int .u8 0, Value.int .u8 0, Value.int .u8 0, Value.int .u8 0, Value.int .u8 0] 71)).rowIs w.heap.size 48 16 (u8V fun _ => 0) := (z2.alloc _).alloc _
  have pb : Below w.heap.size w ((w2.alloc (.cells #[Value.int .u8 0, Value.int .u8 0, Value.int .u8 0, Value.int .u8 0, Value.int .u8 0, Value.int .u8 0, Value.int .u8 0, Value.int .u8 0] 71)).alloc (.cells #[Value.int .u8 0, Value.int .u8 0, Value.int .u8 0, Value.int .u8 0, Value.int .u8 0, Value.int .u8 0, Value.int .u8 0, Value.int .u8 0] 71)) := (b2.alloc b2.size _).alloc (by rw [World.size_alloc]; omega) _
  have psz : ((w2.alloc (.cells #[Value.int .u8 0, Value.int .u8 0, Value.int .u8 0, Value.int .u8 0, Value.int .u8 0, Value.int .u8 0, Value.int .u8 0, Value.int .u8 0] 71)).alloc (.cells #[Value.int .u8 0, Value.int .u8 0, Value.int .u8 0, Value.int .u8 0, Value.int .u8 0, Value.int .u8 0, Value.int .u8 0, Value.int .u8 0] 71)).heap.size = w2.heap.size + 2 := by rw [World.size_alloc, World.size_alloc]
  have hst1 := run_stB (P := Try.prog) (k := hiB N) (row_there (o := 0) (n := 8) p0 (by omega))
  have p0' := row_setCells0 (k := hiB N) p0
  have p1' := row_setCells_other (b := w2.heap.size) (o := 0) (vs := bL 8 (hiB N)) p1 (by omega)
  have p2' := row_setCells_other (b := w2.heap.size) (o := 0) (vs := bL 8 (hiB N)) p2 (by omega)
  have pb' := below_setCells' (b := w2.heap.size) (o := 0) (vs := bL 8 (hiB N)) pb hs2
  have hst2 := run_stB (P := Try.prog) (k := hiB m) (row_there (o := 0) (n := 8) p1' (by omega))
  have q0 := row_setCells_other (b := w2.heap.size + 1) (o := 0) (vs := bL 8 (hiB m)) p0' (by omega)
  have q1 := row_setCells0 (k := hiB m) p1'
  have q2 := row_setCells_other (b := w2.heap.size + 1) (o := 0) (vs := bL 8 (hiB m)) p2' (by omega)
  have qb := below_setCells' (b := w2.heap.size + 1) (o := 0) (vs := bL 8 (hiB m)) pb' (by omega)
  have qs := hide (show ((((w2.alloc (.cells #[Value.int .u8 0, Value.int .u8 0, Value.int .u8 0, Value.int .u8 0, Value.int .u8 0, Value.int .u8 0, Value.int .u8 0, Value.int .u8 0] 71)).alloc (.cells #[Value.int .u8 0, Value.int .u8 0, Value.int .u8 0, Value.int .u8 0, Value.int .u8 0, Value.int .u8 0, Value.int .u8 0, Value.int .u8 0] 71)).setCells w2.heap.size 0 (bL 8 (hiB N))).setCells (w2.heap.size + 1) 0 (bL 8 (hiB m))).heap.size = w2.heap.size + 2 by rw [size_setCells, size_setCells, psz])
  have Q := hide (And.intro q0 (And.intro q1 (And.intro q2 qb)))
  have ln : (bL 8 (hiB N)).length = 8 := bL_len 8 _
  have lm : (bL 8 (hiB m)).length = 8 := bL_len 8 _
  clear psz p0 p1 p2 pb p0' p1' p2' pb' z2 b2 q0 q1 q2 qb
  obtain ⟨A, hA⟩ : ∃ A, A = hiB N := ⟨_, rfl⟩
  obtain ⟨B, hB⟩ : ∃ B, B = hiB m := ⟨_, rfl⟩
  rw [← hA] at Q ln hst1 hst2 qs ⊢
  rw [← hB] at Q lm hst2 qs ⊢
  have HA := hide hA
  have HB := hide hB
  clear hA hB
  go_wp2_with fail
  clear hst1 hst2
  generalize (((w2.alloc (.cells #[Value.int .u8 0, Value.int .u8 0, Value.int .u8 0, Value.int .u8 0, Value.int .u8 0, Value.int .u8 0, Value.int .u8 0, Value.int .u8 0] 71)).alloc (.cells #[Value.int .u8 0, Value.int .u8 0, Value.int .u8 0, Value.int .u8 0, Value.int .u8 0, Value.int .u8 0, Value.int .u8 0, Value.int .u8 0] 71)).setCells w2.heap.size 0 (bL 8 A)).setCells (w2.heap.size + 1) 0 (bL 8 B) = W3 at *
  obtain ⟨W4, hW4⟩ : ∃ x, x = W3.alloc (.cells #[Value.int .u8 0, Value.int .u8 0, Value.int .u8 0, Value.int .u8 0, Value.int .u8 0, Value.int .u8 0, Value.int .u8 0, Value.int .u8 0, Value.int .u8 0, Value.int .u8 0, Value.int .u8 0, Value.int .u8 0, Value.int .u8 0, Value.int .u8 0, Value.int .u8 0, Value.int .u8 0] 48) := ⟨_, rfl⟩
  obtain ⟨q0, q1, q2, qb⟩ := Q.out
  have hs3 := qs.out
  have r0 : W4.rowIs w2.heap.size 71 8 (u8V A) := by rw [hW4]; exact q0.alloc _
  have r1 : W4.rowIs (w2.heap.size + 1) 71 8 (u8V B) := by rw [hW4]; exact q1.alloc _
  have r2 : W4.rowIs w.heap.size 48 16 (u8V fun _ => 0) := by rw [hW4]; exact q2.alloc _
  have r3 : W4.rowIs W3.heap.size 48 16 (u8V fun _ => 0) := by rw [hW4]; exact zeros8_row 16 W3 _ _ rfl
  have rb : Below w.heap.size w W4 := by rw [hW4]; exact qb.alloc qb.size _
  rw [← hW4]
  generalize hz3 : W3.heap.size = z at *
  have hz2 : w2.heap.size + 1 < z := by omega
  clear hW4 q0 q1 q2 qb Q hz3 ln lm qs HH hs3
  have hmin := hide (show 8 = Nat.min 8 16 from rfl)
  have hrg := row_range0 (w := W4.drew) r0
  have hth := row_there (w := W4.drew) (o := 0) (n := 8) r3 (by omega)
  go_region_held_law (fun _ => True) (trivial) (refine step_copy_BD (some 16) rfl rfl (.tmp 14) (.tmp 15) 22 22 rfl 5 Try.underlying22 (by kernel_rfl) z 0 16 16 w2.heap.size 0 8 8 rfl rfl 8 A hmin.out hrg hth ?_)
  have s1 := row_setCells_other (b := z) (o := 0) (vs := bL 8 A) r1.drew (by omega)
  have s2 := row_setCells_other (b := z) (o := 0) (vs := bL 8 A) r2.drew (by omega)
  have s3 := row_setCells (o := 0) (n := 8) (k := A) r3.drew (by omega)
  have sb := below_setCells' (b := z) (o := 0) (vs := bL 8 A) rb.drew (by omega)
  generalize W4.drew.setCells z 0 (bL 8 A) = W5 at *
  clear r0 r1 r2 r3 rb hrg hth hmin
  have hmin := hide (show 8 = Nat.min 8 (16 - 8) from rfl)
  have hrg := row_range0 (w := W5.drew) s1
  have hth := row_there (w := W5.drew) (o := 8) (n := 8) s3 (by omega)
  go_wp2_with fail
  go_region_held_law (fun _ => True) (trivial) (refine step_copy_BD (some 19) rfl rfl (.tmp 17) (.tmp 18) 22 22 rfl 5 Try.underlying22 (by kernel_rfl) z 8 8 8 (w2.heap.size + 1) 0 8 8 rfl rfl 8 B hmin.out hrg hth ?_)
  have t2 := row_setCells_other (b := z) (o := 8) (vs := bL 8 B) s2.drew (by omega)
  have t3 := (row_setCells (o := 8) (n := 8) (k := B) s3.drew (by omega)).congr (g := u8V (ctrB N m)) (fun i hi => by
    have h := ctrB_hi N m i (fun _ => 0)
    rw [if_pos hi] at h
    rw [u8V, u8V, HA.out, HB.out, ← h])
  have tb := below_setCells' (b := z) (o := 8) (vs := bL 8 B) sb.drew (by omega)
  generalize W5.drew.setCells z 8 (bL 8 B) = W6 at *
  clear s1 s2 s3 sb hrg hth hmin
  have hth := row_there (o := 0) (n := 16) t2 (by omega)
  have hfin := row_setCells0 (k := ctrB N m) t2
  go_wp2_with (first | (refine wpList_load_B rfl 48 (.tmp 7) rfl z 0 rfl _ _ 16 _ (ctrB N m) _ t3 (by omega) (fun j _ => by rw [Nat.zero_add]) Try.underlying48 rfl Try.size16 ?_) | (refine wpList_store_B rfl 48 (.tmp 4) (.tmp 20) rfl w.heap.size 0 16 (ctrB N m) rfl rfl hth Try.size16 ?_))
  exact bodyPost_ret (ret_B Try.results30 _ _ w.heap.size 16 _ _ _ rfl hfin Try.underlying48 rfl Try.size16) rfl ⟨rfl, below_setCells' tb (Nat.le_refl _)⟩
end Go.Proofs.Ytgbbfdcfiofneaa

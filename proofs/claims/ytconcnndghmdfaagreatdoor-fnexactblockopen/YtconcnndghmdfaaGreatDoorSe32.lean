/- Put together: ImpHi, ImpCtr, Val. -/
import Derived.Test.YtconcnndghmdfaaGreatDoorSe31
import Derived.Test.YtconcnndghmdfaaGreatDoorSe7
import Derived.Test.YtconcnndghmdfaaGreatDoorSe27
import Derived.Test.YtconcnndghmdfaaGreatDoorSe12
namespace Go.Proofs.YtconcnndghmdfaaGreatDoor
open Go.RowKit
attribute [local irreducible] times sbox dbl dU
theorem ctrB_hi (N m j : Nat) (f : Nat → UInt8) : (if 8 ≤ j ∧ j < 8 + 8 then hiB m (j - 8) else if 0 ≤ j ∧ j < 0 + 8 then hiB N (j - 0) else f j) = if j < 16 then ctrB N m j else f j := by
  by_cases h : j < 8
  · rw [if_neg (by omega), if_pos ⟨by omega, by omega⟩, if_pos (by omega), ctrB, if_pos h, hiB, show 56 - 8 * (j - 0) = 8 * (7 - j) by omega]
  · by_cases h2 : j < 16
    · rw [if_pos ⟨by omega, by omega⟩, if_pos h2, ctrB, if_neg h, hiB, show 56 - 8 * (j - 8) = 8 * (15 - j) by omega]
    · rw [if_neg (by omega), if_neg (by omega), if_neg h2]
set_option maxRecDepth 100000 in
set_option maxHeartbeats 6400000 in
theorem imp_counted (N m : Nat) (w : World) (hN : N ≤ 9223372036854775807) (hm : m ≤ 9223372036854775807) :
    Calls Tryz.prog 51 #[.int .i64 (N : Int), .int .i64 (m : Int)] w fun e w' => e = .returned (.agg (bL 16 (ctrB N m)).toArray) ∧ Below w.heap.size w w' := by
  have hN' : (N : Int) ≤ 9223372036854775807 := by omega
  have hm' : (m : Int) ≤ 9223372036854775807 := by omega
  have HH := hide (And.intro (fun w => imp_highest N w hN) (fun w => imp_highest m w hm))
  go_enter Tryz.func51, Tryz.ntmps51
  go_wp2_with fail
  refine (HH.out.1 _).mono ?_
  rintro e w1 ⟨rfl, hb1⟩
  have z0 := (zeros8_row 16 w (List.replicate 16 (Value.int .u8 0)).toArray 70 rfl)
  have z1 := z0.of_block (hb1.block _ z0.lt)
  have b1 := ((Below.refl w.heap.size w).alloc (Nat.le_refl _) (.cells (List.replicate 16 (Value.int .u8 0)).toArray 70)).trans (hb1.mono (by simp))
  clear z0 hb1
  go_wp2_with fail
  refine (HH.out.2 _).mono ?_
  rintro e w2 ⟨rfl, hb2⟩
  have z2 := z1.of_block (hb2.block _ z1.lt)
  have b2 := b1.trans (hb2.mono b1.size)
  clear z1 hb2 b1
  have hs2 := b2.size
  have hl2 := z2.lt
  have p0 : ((w2.alloc (.cells #[Value.int .u8 0, Value.int .u8 0, Value.int .u8 0, Value.int .u8 0, Value.int .u8 0, Value.int .u8 0, Value.int .u8 0, Value.int .u8 0] 105)).alloc (.cells #[Value.int .u8 0, Value.int .u8 0, Value.int .u8 0, Value.int .u8 0, Value.int .u8 0, Value.int .u8 0, Value.int .u8 0, Value.int .u8 0] 105)).rowIs w2.heap.size 105 8 (u8V fun _ => 0) := (zeros8_row 8 w2 #[Value.int .u8 0, Value.int .u8 0, Value.int .u8 0, Value.int .u8 0, Value.int .u8 0, Value.int .u8 0, Value.int .u8 0, Value.int .u8 0] 105 rfl).alloc _
  have p1 : ((w2.alloc (.cells #[Value.int .u8 0, Value.int .u8 0, Value.int .u8 0, Value.int .u8 0, Value.int .u8 0, Value.int .u8 0, Value.int .u8 0, Value.int .u8 0] 105)).alloc (.cells #[Value.int .u8 0, Value.int .u8 0, Value.int .u8 0, Value.int .u8 0, Value.int .u8 0, Value.int .u8 0, Value.int .u8 0, Value.int .u8 0] 105)).rowIs (w2.heap.size + 1) 105 8 (u8V fun _ => 0) := by
    have h := zeros8_row 8 (w2.alloc (.cells #[Value.int .u8 0, Value.int .u8 0, Value.int .u8 0, Value.int .u8 0, Value.int .u8 0, Value.int .u8 0, Value.int .u8 0, Value.int .u8 0] 105)) #[Value.int .u8 0, Value.int .u8 0, Value.int .u8 0, Value.int .u8 0, Value.int .u8 0, Value.int .u8 0, Value.int .u8 0, Value.int .u8 0] 105 rfl
    rw [World.size_alloc] at h; exact h
  have p2 : ((w2.alloc (.cells #[Value.int .u8 0, Value.int .u8 0, Value.int .u8 0, Value.int .u8 0, Value.int .u8 0, Value.int .u8 0, Value.int .u8 0, Value.int .u8 0] 105)).alloc (.cells #[Value.int .u8 0, Value.int .u8 0, Value.int .u8 0, Value.int .u8 0, Value.int .u8 0, Value.int .u8 0, Value.int .u8 0, Value.int .u8 0] 105)).rowIs w.heap.size 70 16 (u8V fun _ => 0) := (z2.alloc _).alloc _
  have pb : Below w.heap.size w ((w2.alloc (.cells #[Value.int .u8 0, Value.int .u8 0, Value.int .u8 0, Value.int .u8 0, Value.int .u8 0, Value.int .u8 0, Value.int .u8 0, Value.int .u8 0] 105)).alloc (.cells #[Value.int .u8 0, Value.int .u8 0, Value.int .u8 0, Value.int .u8 0, Value.int .u8 0, Value.int .u8 0, Value.int .u8 0, Value.int .u8 0] 105)) := (b2.alloc b2.size _).alloc (by rw [World.size_alloc]; omega) _
  have psz : ((w2.alloc (.cells #[Value.int .u8 0, Value.int .u8 0, Value.int .u8 0, Value.int .u8 0, Value.int .u8 0, Value.int .u8 0, Value.int .u8 0, Value.int .u8 0] 105)).alloc (.cells #[Value.int .u8 0, Value.int .u8 0, Value.int .u8 0, Value.int .u8 0, Value.int .u8 0, Value.int .u8 0, Value.int .u8 0, Value.int .u8 0] 105)).heap.size = w2.heap.size + 2 := by rw [World.size_alloc, World.size_alloc]
  have hst1 := run_stB (P := Tryz.prog) (k := hiB N) (row_there (o := 0) (n := 8) p0 (by omega))
  have p0' := row_setCells0 (k := hiB N) p0
  have p1' := row_setCells_other (b := w2.heap.size) (o := 0) (vs := bL 8 (hiB N)) p1 (by omega)
  have p2' := row_setCells_other (b := w2.heap.size) (o := 0) (vs := bL 8 (hiB N)) p2 (by omega)
  have pb' := below_setCells' (b := w2.heap.size) (o := 0) (vs := bL 8 (hiB N)) pb hs2
  have hst2 := run_stB (P := Tryz.prog) (k := hiB m) (row_there (o := 0) (n := 8) p1' (by omega))
  have q0 := row_setCells_other (b := w2.heap.size + 1) (o := 0) (vs := bL 8 (hiB m)) p0' (by omega)
  have q1 := row_setCells0 (k := hiB m) p1'
  have q2 := row_setCells_other (b := w2.heap.size + 1) (o := 0) (vs := bL 8 (hiB m)) p2' (by omega)
  have qb := below_setCells' (b := w2.heap.size + 1) (o := 0) (vs := bL 8 (hiB m)) pb' (by omega)
  have qs := hide (show ((((w2.alloc (.cells #[Value.int .u8 0, Value.int .u8 0, Value.int .u8 0, Value.int .u8 0, Value.int .u8 0, Value.int .u8 0, Value.int .u8 0, Value.int .u8 0] 105)).alloc (.cells #[Value.int .u8 0, Value.int .u8 0, Value.int .u8 0, Value.int .u8 0, Value.int .u8 0, Value.int .u8 0, Value.int .u8 0, Value.int .u8 0] 105)).setCells w2.heap.size 0 (bL 8 (hiB N))).setCells (w2.heap.size + 1) 0 (bL 8 (hiB m))).heap.size = w2.heap.size + 2 by rw [size_setCells, size_setCells, psz])
  have Q := hide (And.intro q0 (And.intro q1 (And.intro q2 qb)))
  have ln : (bL 8 (hiB N)).length = 8 := bL_len 8 _
  have lm : (bL 8 (hiB m)).length = 8 := bL_len 8 _
  clear psz p0 p1 p2 pb p0' p1' p2' pb' z2 b2 q0 q1 q2 qb
  obtain ⟨A, hA⟩ : ∃ A, A = hiB N := ⟨_, rfl⟩
  obtain ⟨B, hB⟩ : ∃ B, B = hiB m := ⟨_, rfl⟩
  rw [← hA] at Q ln hst1 hst2 qs ⊢
  rw [← hB] at Q lm hst2 qs ⊢
  have HA := hide hA
  have HB := hide hB
  clear hA hB
  go_wp2_with fail
  clear hst1 hst2
  generalize (((w2.alloc (.cells #[Value.int .u8 0, Value.int .u8 0, Value.int .u8 0, Value.int .u8 0, Value.int .u8 0, Value.int .u8 0, Value.int .u8 0, Value.int .u8 0] 105)).alloc (.cells #[Value.int .u8 0, Value.int .u8 0, Value.int .u8 0, Value.int .u8 0, Value.int .u8 0, Value.int .u8 0, Value.int .u8 0, Value.int .u8 0] 105)).setCells w2.heap.size 0 (bL 8 A)).setCells (w2.heap.size + 1) 0 (bL 8 B) = W3 at *
  obtain ⟨W4, hW4⟩ : ∃ x, x = W3.alloc (.cells #[Value.int .u8 0, Value.int .u8 0, Value.int .u8 0, Value.int .u8 0, Value.int .u8 0, Value.int .u8 0, Value.int .u8 0, Value.int .u8 0, Value.int .u8 0, Value.int .u8 0, Value.int .u8 0, Value.int .u8 0, Value.int .u8 0, Value.int .u8 0, Value.int .u8 0, Value.int .u8 0] 70) := ⟨_, rfl⟩
  obtain ⟨q0, q1, q2, qb⟩ := Q.out
  have hs3 := qs.out
  have r0 : W4.rowIs w2.heap.size 105 8 (u8V A) := by rw [hW4]; exact q0.alloc _
  have r1 : W4.rowIs (w2.heap.size + 1) 105 8 (u8V B) := by rw [hW4]; exact q1.alloc _
  have r2 : W4.rowIs w.heap.size 70 16 (u8V fun _ => 0) := by rw [hW4]; exact q2.alloc _
  have r3 : W4.rowIs W3.heap.size 70 16 (u8V fun _ => 0) := by rw [hW4]; exact zeros8_row 16 W3 _ _ rfl
  have rb : Below w.heap.size w W4 := by rw [hW4]; exact qb.alloc qb.size _
  rw [← hW4]
  generalize hz3 : W3.heap.size = z at *
  have hz2 : w2.heap.size + 1 < z := by omega
  clear hW4 q0 q1 q2 qb Q hz3 ln lm qs HH hs3
  have hmin := hide (show 8 = Nat.min 8 16 from rfl)
  have hrg := row_range0 (w := W4.drew) r0
  have hth := row_there (w := W4.drew) (o := 0) (n := 8) r3 (by omega)
  go_region_held_law (fun _ => True) (trivial) (refine step_copy_BD (some 16) rfl rfl (.tmp 14) (.tmp 15) 22 22 rfl 5 Tryz.underlying22 (by kernel_rfl) z 0 16 16 w2.heap.size 0 8 8 rfl rfl 8 A hmin.out hrg hth ?_)
  have s1 := row_setCells_other (b := z) (o := 0) (vs := bL 8 A) r1.drew (by omega)
  have s2 := row_setCells_other (b := z) (o := 0) (vs := bL 8 A) r2.drew (by omega)
  have s3 := row_setCells (o := 0) (n := 8) (k := A) r3.drew (by omega)
  have sb := below_setCells' (b := z) (o := 0) (vs := bL 8 A) rb.drew (by omega)
  generalize W4.drew.setCells z 0 (bL 8 A) = W5 at *
  clear r0 r1 r2 r3 rb hrg hth hmin
  have hmin := hide (show 8 = Nat.min 8 (16 - 8) from rfl)
  have hrg := row_range0 (w := W5.drew) s1
  have hth := row_there (w := W5.drew) (o := 8) (n := 8) s3 (by omega)
  go_wp2_with fail
  go_region_held_law (fun _ => True) (trivial) (refine step_copy_BD (some 19) rfl rfl (.tmp 17) (.tmp 18) 22 22 rfl 5 Tryz.underlying22 (by kernel_rfl) z 8 8 8 (w2.heap.size + 1) 0 8 8 rfl rfl 8 B hmin.out hrg hth ?_)
  have t2 := row_setCells_other (b := z) (o := 8) (vs := bL 8 B) s2.drew (by omega)
  have t3 := (row_setCells (o := 8) (n := 8) (k := B) s3.drew (by omega)).congr (g := u8V (ctrB N m)) (fun i hi => by
    have h := ctrB_hi N m i (fun _ => 0)
    rw [if_pos hi] at h
    rw [u8V, u8V, HA.out, HB.out, ← h])
  have tb := below_setCells' (b := z) (o := 8) (vs := bL 8 B) sb.drew (by omega)
  generalize W5.drew.setCells z 8 (bL 8 B) = W6 at *
  clear s1 s2 s3 sb hrg hth hmin
  have hth := row_there (o := 0) (n := 16) t2 (by omega)
  have hfin := row_setCells0 (k := ctrB N m) t2
  go_wp2_with (first | (refine wpList_load_B rfl 70 (.tmp 7) rfl z 0 rfl _ _ 16 _ (ctrB N m) _ t3 (by omega) (fun j _ => by rw [Nat.zero_add]) Tryz.underlying70 rfl Tryz.size16 ?_) | (refine wpList_store_B rfl 70 (.tmp 4) (.tmp 20) rfl w.heap.size 0 16 (ctrB N m) rfl rfl hth Tryz.size16 ?_))
  exact bodyPost_ret (ret_B Tryz.results51 _ _ w.heap.size 16 _ _ _ rfl hfin Tryz.underlying70 rfl Tryz.size16) rfl ⟨rfl, below_setCells' tb (Nat.le_refl _)⟩
end Go.Proofs.YtconcnndghmdfaaGreatDoor
namespace Go.Proofs.YtconcnndghmdfaaGreatDoor
open Go.RowKit
attribute [local irreducible] times sbox dbl dU encF ctrB
set_option maxRecDepth 100000 in
set_option maxHeartbeats 3200000 in
theorem imp_ctrA (key text : ByteArray) (N : Nat) (w : World) (h16 : key.size = 16) (ht : text.size ≤ 20000) (hN : N ≤ 9223372036854775807) :
    Calls Tryz.prog 29 #[.string key, .int .i64 (N : Int), .string text] w fun e w' => e = .returned (.string ⟨(ctrL (kB (keyF key)) N (bF text) text.size).toArray⟩) ∧ Below w.heap.size w w' := by
  have h16' : (key.size : Int) = 16 := by omega
  have hN0 : ¬ (N : Int) < 0 := by omega
  have ht' : ¬ (20000 : Int) < (text.size : Int) := by omega
  have htl : (text.size : Int) ≤ 20000 := by omega
  have hmk : ∀ w : World, (Instr.makeSlice 22 (.int .i64 (text.size : Int)) (.int .i64 (text.size : Int))).run Tryz.prog w = .ok (.slice (some ⟨w.heap.size, 0, none⟩) text.size text.size) (w.alloc (.cells (madeCells #[.int .u8 0] text.size) 5)) := run_make_row' (P := Tryz.prog) 22 5 (.int .u8 0) 1 (by kernel_rfl) Tryz.infoB8 rfl .i64 .i64 text.size (by omega) (by omega)
  have hat := hide (fun (p j : Nat) (hj : p + j < text.size) => ext_at text p text.size rfl j hj)
  have hex := hide (fun (p : Nat) (hp : p ≤ text.size) => ext_size text p text.size rfl hp)
  go_enter Tryz.func29, Tryz.ntmps29
  go_wp2_with fail
  refine (imp_cipher key _ h16).mono ?_
  rintro e w1 ⟨g, rfl, hgg, rc, hb1⟩
  go_wp2_with fail
  clear hmk
  have r0 := World.rowIs_made w1 (.int .u8 0) text.size 5
  have rc1 := rc.alloc (.cells (madeCells #[.int .u8 0] text.size) 5)
  have rb := hb1.alloc hb1.size (.cells (madeCells #[.int .u8 0] text.size) 5)
  have hgo : g < w1.heap.size := rc.lt
  have hbs := hb1.size
  generalize w1.alloc (.cells (madeCells #[.int .u8 0] text.size) 5) = W1 at *
  generalize w1.heap.size = ob at *
  obtain ⟨K, hK⟩ : ∃ K, K = kB (bF key) := ⟨_, rfl⟩
  rw [← hK] at rc1
  have HK := hide (show kB (keyF key) = K from hK.symm)
  obtain ⟨T, hT⟩ : ∃ T, T = bF text := ⟨_, rfl⟩
  rw [← hT] at hat
  have HT := hide hT
  clear rc hb1 hK hT
  go_loopw [9] (fun i wx => ∃ (m p : Nat) (f : Nat → UInt8), p = 16 * m ∧ p ≤ text.size + 15 ∧ i = .int .i64 p ∧ Hid (∀ j, j < text.size → f j = if j < p then ctrF K N T j else 0) ∧ wx.rowIs ob 5 text.size (u8V f) ∧ wx.rowIs g 100 432 (u8V (cipF K)) ∧ Below w.heap.size w wx) (fun i _ => text.size + 16 - (intOf i).toNat)
  case atStart => exact ⟨0, 0, fun _ => 0, rfl, by omega, rfl, fun j _ => by simp, r0, rc1, rb⟩
  case round =>
    clear r0 rc1 rb
    obtain ⟨m, p, f, hpm, hp, rfl, hf, r0, rc, rb⟩ := hrel
    by_cases hlt : p < text.size
    · have hlt' : (p : Int) < (text.size : Int) := by omega
      have hlt2 : (p : Int) ≤ (text.size : Int) := by omega
      have q1 : (p : Int) / 16 = (m : Int) := by omega
      have HP := hide hpm
      have hp2 : p ≤ 20000 := by omega
      have hm2 : m ≤ 20000 := by omega
      clear hpm
      go_wp2_with fail
      refine (imp_counted N m wr hN (by omega)).mono ?_
      rintro e w2 ⟨rfl, hb2⟩
      have r0a := r0.of_block (hb2.block _ r0.lt)
      have rca := rc.of_block (hb2.block _ rc.lt)
      have rba := rb.trans (hb2.mono rb.size)
      clear hb2 r0 rc rb
      go_wp2_with fail
      refine (imp_hidden g K (ctrB N m) w2 rca).mono ?_
      rintro e w3 ⟨rfl, hb3⟩
      have r0b := r0a.of_block (hb3.block _ r0a.lt)
      have rcb := rca.of_block (hb3.block _ rca.lt)
      have rbb := rba.trans (hb3.mono rba.size)
      obtain ⟨E, hE⟩ : ∃ E, E = encF K (ctrB N m) 10 := ⟨_, rfl⟩
      rw [← hE]
      have HE := hide hE
      clear hb3 r0a rca rba hE
      have z0 : (w3.alloc (.cells #[Value.int .u8 0, Value.int .u8 0, Value.int .u8 0, Value.int .u8 0, Value.int .u8 0, Value.int .u8 0, Value.int .u8 0, Value.int .u8 0, Value.int .u8 0, Value.int .u8 0, Value.int .u8 0, Value.int .u8 0, Value.int .u8 0, Value.int .u8 0, Value.int .u8 0, Value.int .u8 0] 70)).rowIs w3.heap.size 70 16 (u8V fun _ => 0) := zeros8_row 16 w3 _ _ rfl
      have hst := run_stB (P := Tryz.prog) (k := E) (row_there (o := 0) (n := 16) z0 (by omega))
      have lE : (bL 16 E).length = 16 := bL_len 16 E
      have hob3 := r0b.lt
      have s0 := row_setCells_other (b := w3.heap.size) (o := 0) (vs := bL 16 E) (r0b.alloc (.cells #[Value.int .u8 0, Value.int .u8 0, Value.int .u8 0, Value.int .u8 0, Value.int .u8 0, Value.int .u8 0, Value.int .u8 0, Value.int .u8 0, Value.int .u8 0, Value.int .u8 0, Value.int .u8 0, Value.int .u8 0, Value.int .u8 0, Value.int .u8 0, Value.int .u8 0, Value.int .u8 0] 70)) (by omega)
      have sc := row_setCells_other (b := w3.heap.size) (o := 0) (vs := bL 16 E) (rcb.alloc (.cells #[Value.int .u8 0, Value.int .u8 0, Value.int .u8 0, Value.int .u8 0, Value.int .u8 0, Value.int .u8 0, Value.int .u8 0, Value.int .u8 0, Value.int .u8 0, Value.int .u8 0, Value.int .u8 0, Value.int .u8 0, Value.int .u8 0, Value.int .u8 0, Value.int .u8 0, Value.int .u8 0] 70)) (by omega)
      have se := row_setCells0 (k := E) z0
      have sb := below_setCells' (b := w3.heap.size) (o := 0) (vs := bL 16 E) (rbb.alloc rbb.size (.cells #[Value.int .u8 0, Value.int .u8 0, Value.int .u8 0, Value.int .u8 0, Value.int .u8 0, Value.int .u8 0, Value.int .u8 0, Value.int .u8 0, Value.int .u8 0, Value.int .u8 0, Value.int .u8 0, Value.int .u8 0, Value.int .u8 0, Value.int .u8 0, Value.int .u8 0, Value.int .u8 0] 70)) rbb.size
      have sz := hide (show ((w3.alloc (.cells #[Value.int .u8 0, Value.int .u8 0, Value.int .u8 0, Value.int .u8 0, Value.int .u8 0, Value.int .u8 0, Value.int .u8 0, Value.int .u8 0, Value.int .u8 0, Value.int .u8 0, Value.int .u8 0, Value.int .u8 0, Value.int .u8 0, Value.int .u8 0, Value.int .u8 0, Value.int .u8 0] 70)).setCells w3.heap.size 0 (bL 16 E)).heap.size = w3.heap.size + 1 by rw [size_setCells, World.size_alloc])
      have R := hide (And.intro s0 (And.intro sc (And.intro se sb)))
      clear z0 s0 sc se sb r0b rcb rbb
      go_wp2_with fail
      clear hst lE
      obtain ⟨s0, sc, se, sb⟩ := R.out
      generalize (w3.alloc (.cells #[Value.int .u8 0, Value.int .u8 0, Value.int .u8 0, Value.int .u8 0, Value.int .u8 0, Value.int .u8 0, Value.int .u8 0, Value.int .u8 0, Value.int .u8 0, Value.int .u8 0, Value.int .u8 0, Value.int .u8 0, Value.int .u8 0, Value.int .u8 0, Value.int .u8 0, Value.int .u8 0] 70)).setCells w3.heap.size 0 (bL 16 E) = W4 at *
      generalize w3.heap.size = z at *
      obtain ⟨W5, hW5⟩ : ∃ x, x = W4.alloc (.cells #[Value.int .u8 0, Value.int .u8 0, Value.int .u8 0, Value.int .u8 0, Value.int .u8 0, Value.int .u8 0, Value.int .u8 0, Value.int .u8 0, Value.int .u8 0, Value.int .u8 0, Value.int .u8 0, Value.int .u8 0, Value.int .u8 0, Value.int .u8 0, Value.int .u8 0, Value.int .u8 0] 70) := ⟨_, rfl⟩
      have hz4 := sz.out
      have t0 : W5.rowIs ob 5 text.size (u8V f) := by rw [hW5]; exact s0.alloc _
      have tc : W5.rowIs g 100 432 (u8V (cipF K)) := by rw [hW5]; exact sc.alloc _
      have te : W5.rowIs z 70 16 (u8V E) := by rw [hW5]; exact se.alloc _
      have tp : W5.rowIs W4.heap.size 70 16 (u8V fun _ => 0) := by rw [hW5]; exact zeros8_row 16 W4 _ _ rfl
      have tb : Below w.heap.size w W5 := by rw [hW5]; exact sb.alloc sb.size _
      rw [← hW5]
      generalize hz1 : W4.heap.size = y at *
      have hzy : z < y := by omega
      clear hW5 s0 sc se sb R hz1 hz4 sz
      obtain ⟨c, hc⟩ : ∃ c, c = min (text.size - p) 16 := ⟨_, rfl⟩
      have hc1 : c ≤ 16 := by omega
      have hc2 : p + c ≤ text.size := by omega
      have HC := hide (show c = min (text.size - p) 16 from hc)
      clear hc
      obtain ⟨k, hk⟩ : ∃ k : Nat → UInt8, k = fun j => T (p + j) := ⟨_, rfl⟩
      have HKp := hide (show ∀ j, k j = T (p + j) from fun j => by rw [hk])
      clear hk
      have hmin := hide (show c = Nat.min (text.extract p text.size).size 16 by rw [hex.out p (by omega)]; exact HC.out)
      have hsrc := hide (show ∀ j, j < c → (text.extract p text.size).data.toList[j]? = some (k j) from fun j hj => by rw [HKp.out]; exact hat.out p j (by omega))
      have hth := row_there (w := W5.drew) (o := 0) (n := c) tp (by omega)
      go_region_held_law (fun _ => True) (trivial) (refine step_copy_SD (some 45) rfl rfl (.tmp 41) (.tmp 44) 22 9 rfl 5 Tryz.underlying22 (by kernel_rfl) y 0 16 16 (text.extract p text.size) rfl rfl c k hmin.out hsrc.out hth ?_)
      have v0 := row_setCells_other (b := y) (o := 0) (vs := bL c k) t0.drew (by omega)
      have vc := row_setCells_other (b := y) (o := 0) (vs := bL c k) tc.drew (by omega)
      have ve := row_setCells_other (b := y) (o := 0) (vs := bL c k) te.drew (by omega)
      have vp := row_setCells (o := 0) (n := c) (k := k) tp.drew (by omega)
      have vb := below_setCells' (b := y) (o := 0) (vs := bL c k) tb.drew (by have := tb.size; have := t0.lt; omega)
      generalize W5.drew.setCells y 0 (bL c k) = W6 at *
      obtain ⟨Pc, hPc⟩ : ∃ q : Nat → UInt8, q = fun j => if 0 ≤ j ∧ j < 0 + c then k (j - 0) else 0 := ⟨_, rfl⟩
      rw [← hPc] at vp
      have HPc := hide (show ∀ j, j < c → Pc j = k j from fun j hj => by rw [hPc]; show (if 0 ≤ j ∧ j < 0 + c then k (j - 0) else 0) = k j; rw [if_pos ⟨by omega, by omega⟩, Nat.sub_zero])
      clear hPc t0 tc te tp tb hth hmin hsrc
      go_wp2_with (first | (with_reducible (show wpList _ _ _ ({ dst := _, op := .load _ (.tmp 11), type := _, pos := _, after := _, guard := _ } :: _) _ _); refine wpList_load_B rfl 70 (.tmp 11) rfl y 0 rfl _ _ 16 _ Pc _ vp (Nat.le_refl _) (fun j _ => by rw [Nat.zero_add]) Tryz.underlying70 rfl Tryz.size16 ?_) | (with_reducible (show wpList _ _ _ ({ dst := _, op := .load _ (.tmp 10), type := _, pos := _, after := _, guard := _ } :: _) _ _); refine wpList_load_B rfl 70 (.tmp 10) rfl z 0 rfl _ _ 16 _ E _ ve (Nat.le_refl _) (fun j _ => by rw [Nat.zero_add]) Tryz.underlying70 rfl Tryz.size16 ?_))
      refine (imp_added Pc E W6).mono ?_
      rintro e w7 ⟨rfl, hb7⟩
      have u0 := v0.of_block (hb7.block _ v0.lt)
      have uc := vc.of_block (hb7.block _ vc.lt)
      have up := vp.of_block (hb7.block _ vp.lt)
      have ub := vb.trans (hb7.mono vb.size)
      obtain ⟨X, hX⟩ : ∃ X, X = fun j => Pc j ^^^ E j := ⟨_, rfl⟩
      rw [← hX]
      have HX := hide hX
      have hst := run_stB (P := Tryz.prog) (k := X) (row_there (o := 0) (n := 16) up (by omega))
      have lX : (bL 16 X).length = 16 := bL_len 16 X
      have R := hide (And.intro (row_setCells_other (b := y) (o := 0) (vs := bL 16 X) u0 (by omega)) (And.intro (row_setCells_other (b := y) (o := 0) (vs := bL 16 X) uc (by omega)) (And.intro (row_setCells0 (k := X) up) (below_setCells' (b := y) (o := 0) (vs := bL 16 X) ub (by omega)))))
      clear v0 vc ve vp vb hb7 hX u0 uc up ub
      go_wp2_with fail
      clear hst lX
      obtain ⟨x0, xc, xp, xb⟩ := R.out
      generalize w7.setCells y 0 (bL 16 X) = W8 at *
      clear R
      have hnc : ¬ text.size = p := by omega
      have hmin := hide (show c = Nat.min 16 (text.size - p) by have := HC.out; show c = min 16 (text.size - p); omega)
      have hrg := row_range (w := W8.drew) (o := 0) (n := c) (k := X) xp (by omega) (fun j _ => by rw [Nat.zero_add])
      have hth := row_there (w := W8.drew) (o := p) (n := c) x0 (by omega)
      go_region_held_law (fun _ => True) (trivial) (refine step_copy_BD (some 53) rfl rfl (.tmp 51) (.tmp 52) 22 22 rfl 5 Tryz.underlying22 (by kernel_rfl) ob p (text.size - p) (text.size - p) y 0 16 16 rfl rfl c X hmin.out hrg hth ?_)
      have y0 := row_setCells (o := p) (n := c) (k := X) x0.drew hc2
      have yc := row_setCells_other (b := ob) (o := p) (vs := bL c X) xc.drew (by omega)
      have yb := below_setCells' (b := ob) (o := p) (vs := bL c X) xb.drew hbs
      generalize W8.drew.setCells ob p (bL c X) = W9 at *
      have hf' := hide (show ∀ j, j < text.size → (if p ≤ j ∧ j < p + c then X (j - p) else f j) = if j < p + 16 then ctrF K N T j else 0 from fun j hj => by
        have hP := HP.out
        have hCC := HC.out
        by_cases e : p ≤ j ∧ j < p + c
        · rw [if_pos e, if_pos (by omega), HX.out]
          show Pc (j - p) ^^^ E (j - p) = _
          rw [HPc.out _ (by omega), HKp.out, HE.out, ctrF, show p + (j - p) = j by omega, show j / 16 = m by omega, show j % 16 = j - p by omega]
        · rw [if_neg e, hf.out j hj]
          by_cases e2 : j < p
          · rw [if_pos e2, if_pos (by omega)]
          · rw [if_neg e2, if_neg (by omega)])
      have hp16 := hide (show p + 16 = 16 * (m + 1) by have := HP.out; omega)
      clear x0 xc xp xb hrg hth hmin hf HX HPc HKp HE HC hat hex
      go_wp2_with fail
      go_roundw
      case rel => exact ⟨m + 1, p + 16, _, hp16.out, by omega, by go_num, hf', y0, yc, yb⟩
      case measure => simp [intOf]; omega
    · have hlt' : ¬ (p : Int) < (text.size : Int) := by omega
      have hcv := conv_row (P := Tryz.prog) (cap := text.size) (l := ctrL K N T text.size) r0 (fun j hj => by rw [ctrL, List.getElem?_map, List.getElem?_range hj, hf.out j hj, if_pos (by omega)]; rfl) (by simp [ctrL]) Tryz.underlying22 Tryz.underlying5 Tryz.underlying9
      have HR := hide (show (⟨(ctrL (kB (keyF key)) N (bF text) text.size).toArray⟩ : ByteArray) = ⟨(ctrL K N T text.size).toArray⟩ by rw [HK.out, HT.out])
      obtain ⟨X, hX⟩ : ∃ x : ByteArray, x = ⟨(ctrL K N T text.size).toArray⟩ := ⟨_, rfl⟩
      rw [← hX] at hcv HR
      clear hX hf
      go_wp2_with fail
      go_ret
      exact ⟨by rw [HR.out]; rfl, rb⟩
end Go.Proofs.YtconcnndghmdfaaGreatDoor
namespace Go.Proofs.YtconcnndghmdfaaGreatDoor
open Go Go.RowKit
/-- The cells of a row of n cells f. -/
def vL (n : Nat) (f : Nat → Value) : List Value := (List.range n).map f
theorem vL_len (n : Nat) (f : Nat → Value) : (vL n f).length = n := by simp [vL]
theorem vL_at (n : Nat) (f : Nat → Value) (j : Nat) (h : j < n) : (vL n f)[j]? = some (f j) := by simp [vL, h]
theorem vL_get {n : Nat} {f : Nat → Value} {j : Nat} {v : Value} (h : (vL n f)[j]? = some v) : j < n ∧ v = f j := by
  have hj : j < n := by
    have := (List.getElem?_eq_some_iff.1 h).1
    rwa [vL_len] at this
  rw [vL_at n f j hj] at h
  exact ⟨hj, (Option.some.inj h).symm⟩
theorem vL_congr {n : Nat} {f g : Nat → Value} (h : ∀ j, j < n → f j = g j) : vL n f = vL n g := by
  apply List.map_congr_left
  intro j hj
  exact h j (List.mem_range.1 hj)
theorem vL_size (n : Nat) (f : Nat → Value) : (vL n f).toArray.size = n := by rw [List.size_toArray, vL_len]
theorem vL_one {n : Nat} {f : Nat → Value} (h : ∀ j, j < n → (f j).oneCell' = true) : ∀ v ∈ vL n f, v.oneCell' = true := by
  intro v hv
  obtain ⟨j, hj, rfl⟩ := List.mem_map.1 hv
  exact h j (List.mem_range.1 hj)
theorem vrow_heap {w : World} {g t n : Nat} {f : Nat → Value} (h : w.rowIs g t n f) : w.heap[g]? = some (.cells (vL n f).toArray t (0, 0)) := by
  obtain ⟨c, hb, hn, hc⟩ := h
  have e : c = (vL n f).toArray := by
    apply Array.ext_getElem?
    intro i
    by_cases hi : i < n
    · rw [hc i hi, List.getElem?_toArray, vL_at n f i hi]
    · rw [Array.getElem?_eq_none (by omega), Array.getElem?_eq_none (by rw [vL_size]; omega)]
  rw [hb, e]
theorem vrow_of_heap {w : World} {g t n : Nat} {f : Nat → Value} (h : w.heap[g]? = some (.cells (vL n f).toArray t (0, 0))) : w.rowIs g t n f :=
  ⟨_, h, vL_size n f, fun i hi => by rw [List.getElem?_toArray, vL_at n f i hi]⟩
theorem vrow_alloc (w : World) (t n : Nat) (f : Nat → Value) : (w.alloc (.cells (vL n f).toArray t)).rowIs w.heap.size t n f := vrow_of_heap (heap_alloc_new w _)
theorem vrow_range {w : World} {g t N n o : Nat} {f k : Nat → Value} (h : w.rowIs g t N f) (hn : o + n ≤ N) (hk : ∀ j, j < n → k j = f (o + j)) : w.rangeAt g o (vL n k) := by
  intro j v hv
  obtain ⟨hj, rfl⟩ := vL_get hv
  rw [h.cell (i := o + j) (by omega), hk j hj]
theorem vrow_there {w : World} {g t N n o : Nat} {f : Nat → Value} (h : w.rowIs g t N f) (hn : o + n ≤ N) : w.there g o n := fun j hj => ⟨by rw [h.cell (i := o + j) (by omega)]; rfl, h.frozen _⟩
theorem vrow_setCells {w : World} {g t N n o : Nat} {f k : Nat → Value} (h : w.rowIs g t N f) (hn : o + n ≤ N) : (w.setCells g o (vL n k)).rowIs g t N (fun j => if o ≤ j ∧ j < o + n then k (j - o) else f j) := by
  have hh := vrow_heap h
  obtain ⟨c', h2, h3⟩ := setCells_heap g t (0, 0) (vL n k) o w _ hh
  rw [vL_size] at h3
  refine ⟨c', h2, h3, fun i hi => ?_⟩
  have hcell := cell_of_row _ g i c' t (0, 0) h2
  rw [← hcell]
  show (w.setCells g o (vL n k)).cell? ⟨g, i, none⟩ = some (if o ≤ i ∧ i < o + n then k (i - o) else f i)
  by_cases e : o ≤ i ∧ i < o + n
  · have hin := World.cell?_setCells_in g (vL n k) o w (fun j hj => by rw [vL_len] at hj; rw [h.cell (i := o + j) (by omega)]; rfl) (i - o) (by rw [vL_len]; omega)
    rw [show o + (i - o) = i by omega] at hin
    rw [hin]
    have e2 := vL_at n k (i - o) (by omega)
    rw [List.getElem?_eq_getElem (by rw [vL_len]; omega)] at e2
    rw [e2, if_pos e]
  · rw [World.cell?_setCells_out g _ o w ⟨g, i, none⟩ (fun _ _ => by rw [vL_len]; show i < o ∨ o + n ≤ i; omega), h.cell hi, if_neg e]
theorem vrow_setCells0 {w : World} {g t n : Nat} {f k : Nat → Value} (h : w.rowIs g t n f) : (w.setCells g 0 (vL n k)).rowIs g t n k :=
  (vrow_setCells h (by omega)).congr fun i hi => by
    show (if 0 ≤ i ∧ i < 0 + n then k (i - 0) else f i) = k i
    rw [if_pos ⟨by omega, by omega⟩, Nat.sub_zero]
theorem wpList_load_V {P : Program} {ops : Array Oper} {rest : List Oper} {op : Oper} {a : Act} {w : World} {Q : Exit → Act → World → Prop} (hgd : op.guard = none) (ty : TypeId) (x : Operand) (ho : op.op = .load ty x)
    (g o : Nat) (hx : a.eval x = .pointer (some ⟨g, o, none⟩)) (t N n : Nat) (f k : Nat → Value) (d : TypeDesc) (hrow : w.rowIs g t N f) (hn : o + n ≤ N) (hk : ∀ j, j < n → k j = f (o + j))
    (hu : P.underlying ty = some d) (hd : d.isRow = true) (hi : (P.info? ty).map (·.size) = some n)
    (h : wpList P ops Q rest (a.put op.dst (.agg (vL n k).toArray)) w) : wpList P ops Q (op :: rest) a w :=
  wpList_load_mid hgd ty x ho g o hx (vL n k) d (vrow_range hrow hn hk) hu hd (by rw [vL_len]; exact hi) h
theorem wpList_store_V {P : Program} {ops : Array Oper} {rest : List Oper} {op : Oper} {a : Act} {w : World} {Q : Exit → Act → World → Prop} (hgd : op.guard = none) (ty : TypeId) (x y : Operand) (ho : op.op = .store ty x y)
    (g o n : Nat) (k : Nat → Value) (hx : a.eval x = .pointer (some ⟨g, o, none⟩)) (hy : a.eval y = .agg (vL n k).toArray) (ht : w.there g o n) (hi : (P.info? ty).map (·.size) = some n) (h1 : ∀ j, j < n → (k j).oneCell' = true)
    (h : wpList P ops Q rest (a.put op.dst undef) (w.setCells g o (vL n k))) : wpList P ops Q (op :: rest) a w :=
  wpList_store_mid hgd ty x y ho g o (vL n k).toArray hx hy (by rw [vL_size]; exact ht) (by rw [vL_size]; exact hi) (all_oneCell_toArray (vL_one h1)) h
theorem ret_V {P : Program} {fn : Func} {p : Tmp} {ty : TypeId} (h : fn.results = #[.cell p ty]) (tmps : Array Value) (w : World) (g n : Nat) (t : TypeId) (k : Nat → Value) (d : TypeDesc)
    (hp : tmps.getD p undef = .pointer (some ⟨g, 0, none⟩)) (hrow : w.rowIs g t n k) (hu : P.underlying ty = some d) (hd : d.isRow = true) (hi : (P.info? ty).map (·.size) = some n) :
    (results fn tmps).run P w = .ok (.agg (vL n k).toArray) w :=
  results_cell_row h tmps w g t _ (0, 0) d hp (vrow_heap hrow) hu (by cases d <;> simp_all) (by rw [vL_size]; exact hi)
/-- A row with a part of it laid anew. -/
def laid (o n : Nat) (k f : Nat → Value) (i : Nat) : Value := if o ≤ i ∧ i < o + n then k (i - o) else f i
theorem lay_list (off : Nat) : ∀ (l : List Value) (k : Nat) (cs : Array Value), ((l.zipIdx k).foldl (fun cs (x : Value × Nat) => cs.setIfInBounds (off + x.2) x.1) cs).size = cs.size ∧
    ∀ i, i < cs.size → ((l.zipIdx k).foldl (fun cs (x : Value × Nat) => cs.setIfInBounds (off + x.2) x.1) cs)[i]? = if off + k ≤ i ∧ i < off + k + l.length then l[i - (off + k)]? else cs[i]?
  | [], k, cs => ⟨rfl, fun i _ => by rw [if_neg (by simp)]; rfl⟩
  | v :: l, k, cs => by
    obtain ⟨h1, h2⟩ := lay_list off l (k + 1) (cs.setIfInBounds (off + k) v)
    rw [Array.size_setIfInBounds] at h1 h2
    refine ⟨by rw [List.zipIdx_cons, List.foldl_cons]; exact h1, fun i hi => ?_⟩
    rw [List.zipIdx_cons, List.foldl_cons, h2 i hi, Array.getElem?_setIfInBounds, List.length_cons]
    by_cases e : i = off + k
    · subst e
      rw [if_neg (by omega), if_pos rfl, if_pos hi, if_pos (by omega), Nat.sub_self]; rfl
    · by_cases e2 : off + (k + 1) ≤ i ∧ i < off + (k + 1) + l.length
      · rw [if_pos e2, if_pos (by omega), show i - (off + k) = (i - (off + (k + 1))) + 1 by omega]; rfl
      · rw [if_neg e2, if_neg (by omega), if_neg (by omega)]
theorem lay_vL (off n N : Nat) (k f : Nat → Value) : (vL n k).toArray.zipIdx.foldl (fun cs (c, j) => cs.setIfInBounds (off + j) c) (vL N f).toArray = (vL N (laid off n k f)).toArray := by
  rw [← Array.foldl_toList, Array.toList_zipIdx]
  obtain ⟨h1, h2⟩ := lay_list off (vL n k) 0 (vL N f).toArray
  rw [vL_size] at h1 h2
  rw [vL_len] at h2
  apply Array.ext_getElem?
  intro i
  by_cases hi : i < N
  · have h3 := h2 i hi
    refine h3.trans ?_
    rw [List.getElem?_toArray, List.getElem?_toArray, vL_at N _ i hi, vL_at N _ i hi]
    unfold laid
    rw [Nat.add_zero]
    by_cases e : off ≤ i ∧ i < off + n
    · rw [if_pos e, if_pos e, vL_at n k _ (by omega)]
    · rw [if_neg e, if_neg e]
  · rw [Array.getElem?_eq_none (xs := (vL N (laid off n k f)).toArray) (by rw [vL_size]; omega)]
    exact Array.getElem?_eq_none (Nat.le_trans (Nat.le_of_eq h1) (by omega))
theorem fill_V (place : Nat → Option (Nat × Nat)) (N i off n : Nat) (f k : Nat → Value) (rest : List (Nat × Value)) (hp : place i = some (off, n)) (h : off + n ≤ N) :
    Instr.fill place (vL N f).toArray ((i, .agg (vL n k).toArray) :: rest) = Instr.fill place (vL N (laid off n k f)).toArray rest := by
  conv => lhs; unfold Instr.fill
  rw [hp]
  show (if ((vL n k).toArray.size ≠ n || off + (vL n k).toArray.size > (vL N f).toArray.size) = true then none else Instr.fill place ((vL n k).toArray.zipIdx.foldl (fun cs (c, j) => cs.setIfInBounds (off + j) c) (vL N f).toArray) rest) = _
  rw [lay_vL off n N k f, vL_size, vL_size, if_neg (by simp; omega)]
theorem fill_1 (place : Nat → Option (Nat × Nat)) (N i off : Nat) (f : Nat → Value) (v : Value) (hv : v.cells = #[v]) (rest : List (Nat × Value)) (hp : place i = some (off, 1)) (h : off + 1 ≤ N) :
    Instr.fill place (vL N f).toArray ((i, v) :: rest) = Instr.fill place (vL N (laid off 1 (fun _ => v) f)).toArray rest := by
  rw [← fill_V place N i off 1 f (fun _ => v) rest hp h]
  unfold Instr.fill
  rw [hp, hv]; rfl
theorem fill_end (place : Nat → Option (Nat × Nat)) {n : Nat} {f g : Nat → Value} (h : ∀ j, j < n → f j = g j) : Instr.fill place (vL n f).toArray [] = some (vL n g).toArray := by rw [vL_congr h]; rfl
theorem built_of {P : Program} {t : TypeId} {z : Array Value} {n : Nat} {fields : Array Field} {places : List (Nat × Nat)} (parts : List (Nat × Value)) (hi : (P.info? t).map (fun i => (i.zero, i.size)) = some (some (.agg z), n)) (hu : P.underlying t = some (.struct fields))
    (hp : fields.toList.mapM (fun f => (P.info? f.type).map fun i => (f.offset, i.size)) = some places) : P.built t parts = Instr.fill (places.toArray[·]?) z parts := by
  obtain ⟨it, h1, h2⟩ := Option.map_eq_some_iff.1 hi
  have h3 : it.zero = some (.agg z) := congrArg Prod.fst h2
  unfold Program.built
  rw [h1, hu]
  show (match it.zero, fields.toList.mapM (fun f => (P.info? f.type).map fun i => (f.offset, i.size)) with
    | some z, some places => Instr.fill (places.toArray[·]?) z.cells parts
    | _, _ => none) = _
  rw [h3, hp]; rfl
theorem wpList_build_1 {P : Program} {ops : Array Oper} {rest : List Oper} {o : Oper} {a : Act} {w : World} {Q : Exit → Act → World → Prop} (hg : o.guard = none) (t : TypeId) (i : Nat) (x : Operand) (ho : o.op = .build t #[(i, x)])
    (v : Value) (hv : a.eval x = v) (cells : Array Value) (hb : P.built t [(i, v)] = some cells)
    (h : wpList P ops Q rest (a.put o.dst (.agg cells)) w) : wpList P ops Q (o :: rest) a w := by
  subst hv
  have e : (#[(i, x)].map fun ((i, x) : Nat × Operand) => (i, a.eval x)).toList = [(i, a.eval x)] := by simp
  refine wpList_build hg t _ ho (by rw [e, hb]; rfl) ?_
  rw [e, hb]; exact h
theorem wpList_build_2 {P : Program} {ops : Array Oper} {rest : List Oper} {o : Oper} {a : Act} {w : World} {Q : Exit → Act → World → Prop} (hg : o.guard = none) (t : TypeId) (i : Nat) (x : Operand) (j : Nat) (y : Operand) (ho : o.op = .build t #[(i, x), (j, y)])
    (v : Value) (hv : a.eval x = v) (u : Value) (hu : a.eval y = u) (cells : Array Value) (hb : P.built t [(i, v), (j, u)] = some cells)
    (h : wpList P ops Q rest (a.put o.dst (.agg cells)) w) : wpList P ops Q (o :: rest) a w := by
  subst hv hu
  have e : (#[(i, x), (j, y)].map fun ((i, x) : Nat × Operand) => (i, a.eval x)).toList = [(i, a.eval x), (j, a.eval y)] := by simp
  refine wpList_build hg t _ ho (by rw [e, hb]; rfl) ?_
  rw [e, hb]; exact h
end Go.Proofs.YtconcnndghmdfaaGreatDoor

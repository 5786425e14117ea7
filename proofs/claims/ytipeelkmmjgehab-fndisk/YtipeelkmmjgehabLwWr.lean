/- The walks over the laws' helpers on slices of Write (written by mkls.py). -/
import Derived.Test.YtipeelkmmjgehabRows
import Derived.Test.YtipeelkmmjgehabSli
import Derived.Test.YtipeelkmmjgehabMark
import Derived.Test.YtipeelkmmjgehabHeldOne
import Derived.BigRegion
import Derived.BigQuiet
import Derived.Deep.QuietTactic
import Derived.Deep.RegionWith
namespace Go.Proofs.Ytipeelkmmjgehab
open Go Go.RowKit
/-- The cells of elements. -/
def cWr (F0 : Nat → Int) (F1 : Nat → ByteArray) (j i : Nat) : Value := if i = 0 then .int .i64 (F0 j) else .string (F1 j)
theorem cWr_0 (F0 : Nat → Int) (F1 : Nat → ByteArray) (j : Nat) : cWr F0 F1 j 0 = .int .i64 (F0 j) := rfl
theorem cWr_1 (F0 : Nat → Int) (F1 : Nat → ByteArray) (j : Nat) : cWr F0 F1 j 1 = .string (F1 j) := rfl
/-- What marks are laid. -/
def mkWr (k0 x : Nat) : Value := if x % 2 = 0 then .int .i64 ((k0 + x : Nat) : Int) else .string (markT (k0 + x))
set_option maxRecDepth 100000 in
set_option maxHeartbeats 400000 in
theorem law_toWr (x0 : Int) (x1 : ByteArray) (w : World) :
    Calls Try.prog 66 #[(.agg #[.int .i64 x0, .string x1])] w fun e w' => e = .returned (.agg #[.int .i64 x0, .string x1]) ∧ Below w.heap.size w w' := by
  go_enter Try.func66, Try.ntmps66
  go_wp2_with fail
  exact bodyPost_ret (results_cell_row Try.results66 _ _ (w.heap.size + 1) 70 #[.int .i64 x0, .string x1] (0, 0) _ rfl (by
    have h1 := heap_alloc_new (w.alloc (.cells #[.int .i64 x0, .string x1] 97)) (.cells #[.int .i64 x0, .string x1] 70)
    rw [World.size_alloc] at h1
    rw [Below.heap_alloc _ _ _ (by simp)]; exact h1) Try.underlying70 rfl (by kernel_rfl)) rfl ⟨rfl, (((Below.refl _ _).alloc (Nat.le_refl _) _).alloc (by simp) _).alloc (by simp; omega) _⟩
set_option maxRecDepth 100000 in
set_option maxHeartbeats 400000 in
theorem law_eqWr (x0 : Int) (x1 : ByteArray) (w : World) :
    Calls Try.prog 67 #[(.agg #[.int .i64 x0, .string x1]), (.agg #[.int .i64 x0, .string x1])] w fun e w' => e = .returned (.bool true) ∧ Below w.heap.size w w' := by
  go_enter Try.func67, Try.ntmps67
  go_wp2_with fail
  go_ret
  exact ⟨rfl, ((Below.refl _ _).alloc (Nat.le_refl _) _).alloc (by simp) _⟩
theorem Try.infoWr : (Try.prog.info? 70).map (fun i => (i.zero, i.size, i.bytes)) = some (some (.agg #[.int .i64 0, .string ⟨#[]⟩]), 2, 24) := by kernel_rfl
theorem make_Wr (n : Nat) (hn : n ≤ 1048576) (w : World) : (Instr.makeSlice 24 (.int .i64 (n : Int)) (.int .i64 (n : Int))).run Try.prog w = .ok (.slice (some ⟨w.heap.size, 0, none⟩) n n) (w.alloc (.cells (madeCells #[.int .i64 0, .string ⟨#[]⟩] (n * 2)) 70)) := by
  obtain ⟨i, hi, hz, hs, hb⟩ := info_parts Try.infoWr
  have h := run_make (P := Try.prog) w 24 70 i _ Try.underlying24 hi hz .i64 .i64 n n (by omega) (by omega) (by rw [hb]; omega) (by omega)
  rw [hs] at h
  exact h
theorem mul_step_Wr (j k i : Nat) (h : j < k) (hi : i < 2) : 2 * j + i < 2 * k := by omega
set_option maxRecDepth 100000 in
set_option maxHeartbeats 800000 in
theorem law_toWrS (v : Value) (n : Nat) (F0 : Nat → Int) (F1 : Nat → ByteArray) (w : World) (hlen : n ≤ 1048576) (hb : sliI 2 w w.heap.size v n (cWr F0 F1)) :
    Calls Try.prog 52 #[v] w fun e w' => ∃ o, e = .returned o ∧ valM 2 w' o n (fun x => cWr F0 F1 (x / 2) (x % 2)) ∧ within o w.heap.size w'.heap.size ∧ Below w.heap.size w w' := by
  obtain ⟨a, cap, rfl, hcap, hbits⟩ := hb
  have HB := hide hbits
  clear hbits
  have hcap' : (n : Int) ≤ (cap : Int) := by omega
  have hmk := make_Wr n hlen
  go_enter Try.func52, Try.ntmps52
  go_wp2_with fail
  clear hmk
  obtain ⟨f0, hf0⟩ := made_rc w #[.int .i64 0, .string ⟨#[]⟩] (n * 2) 70
  have HF0 := hide hf0
  clear hf0
  go_loopw [4] (fun i wx => ∃ (k : Nat) (f : Nat → Value), k ≤ n ∧ i = .int .i64 k ∧ Hid (∀ j, j < k → ∀ i, i < 2 → f (2 * j + i) = cWr F0 F1 j i) ∧ Hid (rc wx w.heap.size (n * 2) f) ∧ Hid (Below w.heap.size w wx)) (fun i _ => n - (intOf i).toNat)
  case atStart => exact ⟨0, f0, by omega, rfl, fun j hj => by omega, HF0, (Below.refl _ _).alloc (Nat.le_refl _) _⟩
  case round =>
    obtain ⟨k, f, hk, rfl, hf, hrw, hbl⟩ := hrel
    by_cases hlt : k < n
    · have hlt' : (k : Int) < (n : Int) := by omega
      obtain h0 | ⟨r, o, rfl, hr, hcells⟩ := HB.out
      · omega
      obtain ⟨x0, hx0⟩ : ∃ x, x = F0 k := ⟨_, rfl⟩
      obtain ⟨x1, hx1⟩ : ∃ x, x = F1 k := ⟨_, rfl⟩
      obtain ⟨q, hq⟩ : ∃ q, q = o + 2 * k := ⟨_, rfl⟩
      have y0 : wr.cell? ⟨r, q, none⟩ = some (.int .i64 x0) := by rw [hq, hx0]; exact (hbl.out.cell (p := ⟨r, o + 2 * k, none⟩) hr).trans (hcells k hlt 0 (by omega))
      have y1 : wr.cell? ⟨r, q + 1, none⟩ = some (.string x1) := by rw [hq, hx1]; exact (hbl.out.cell (p := ⟨r, o + 2 * k + 1, none⟩) hr).trans (hcells k hlt 1 (by omega))
      have n1 : o + 2 * k = q := hq.symm
      have n2 : o + k * 2 = q := by omega
      obtain ⟨p, hp⟩ : ∃ p, p = 2 * k := ⟨_, rfl⟩
      have n3 : 2 * k = p := hp.symm
      have n4 : k * 2 = p := by omega
      have n5 : o + p = q := by omega
      have HX := hide (And.intro hx0 hx1)
      have HP := hide hp
      have hpn : p + 2 ≤ n * 2 := by omega
      have hbs := hbl.out.size
      clear hcells hq hp HB hx0 hx1
      go_wp2_with fail
      refine (law_toWr x0 x1 _).mono ?_
      rintro e w1 ⟨rfl, hb1⟩
      have r1 := hrw.out.below hb1
      have b2 := hbl.out.trans (hb1.mono hbs)
      obtain ⟨g0, z0⟩ := r1.at_ (p) (by omega)
      obtain ⟨g1, z1⟩ := r1.at_ (p + 1) (by omega)
      have R2 := hide ((r1.set (p) (.int .i64 x0)).set (p + 1) (.string x1))
      have B2 := hide (below_set (below_set b2 w.heap.size (p) (Nat.le_refl _) (.int .i64 x0)) w.heap.size (p + 1) (Nat.le_refl _) (.string x1))
      have hf2 := hide (show ∀ j, j < k + 1 → ∀ i, i < 2 → (fun y => if y = p + 1 then .string x1 else if y = p then .int .i64 x0 else f y) (2 * j + i) = cWr F0 F1 j i from fun j hj i hi => by
        have hP := HP.out
        obtain ⟨e0, e1⟩ := HX.out
        show (if 2 * j + i = p + 1 then .string x1 else if 2 * j + i = p then .int .i64 x0 else f (2 * j + i)) = _
        by_cases e : j = k
        · subst e
          by_cases hi0 : i = 0
          · subst hi0
            rw [if_neg (by omega), if_pos (by omega), e0]; rfl
          obtain rfl : i = 1 := by omega
          rw [if_pos (by omega), e1]; rfl
        · rw [if_neg (by omega), if_neg (by omega)]
          exact hf.out j (by omega) i hi)
      clear hb1 b2 r1 hrw hbl hf y0 y1 n1 n2
      go_wp2_with fail
      go_roundw
      case rel => exact ⟨k + 1, _, by omega, by go_num, hf2, R2, B2⟩
      case measure => simp [intOf]; omega
    · have hlt' : ¬ (k : Int) < (n : Int) := by omega
      have hkn : k = n := by omega
      have hfin := hide (show valM 2 wr (.slice (some ⟨w.heap.size, 0, none⟩) n n) n (fun x => cWr F0 F1 (x / 2) (x % 2)) from hrw.out.val (Nat.le_refl _) (fun x hx => by
        have h := hf.out (x / 2) (by omega) (x % 2) (by omega)
        rwa [show 2 * (x / 2) + x % 2 = x by omega] at h))
      have hlt9 := hrw.out.lt
      have HL9 := hide hlt9
      clear hf hrw hkn hlt9
      go_wp2_with fail
      go_ret
      exact ⟨_, rfl, hfin.out, fun k e => by cases e; exact ⟨Nat.le_refl _, HL9.out⟩, hbl.out⟩
set_option maxRecDepth 100000 in
set_option maxHeartbeats 800000 in
theorem law_eqWrS (va vb : Value) (n : Nat) (F0 : Nat → Int) (F1 : Nat → ByteArray) (w : World) (hlen : n ≤ 1048576) (ha : sliI 2 w w.heap.size va n (cWr F0 F1)) (hb : sliI 2 w w.heap.size vb n (cWr F0 F1)) :
    Calls Try.prog 54 #[va, vb] w fun e w' => e = .returned (.bool true) ∧ Below w.heap.size w w' := by
  obtain ⟨aa, ca, rfl, hca, hA⟩ := ha
  obtain ⟨ab, cb, rfl, hcb, hB⟩ := hb
  have HA := hide hA
  have HB := hide hB
  clear hA hB
  have hca' : (n : Int) ≤ (ca : Int) := by omega
  have hcb' : (n : Int) ≤ (cb : Int) := by omega
  go_enter Try.func54, Try.ntmps54
  go_wp2_with fail
  go_loopw [5] (fun i wx => ∃ k : Nat, k ≤ n ∧ i = .int .i64 k ∧ Hid (Below w.heap.size w wx)) (fun i _ => n - (intOf i).toNat)
  case atStart => exact ⟨0, Nat.zero_le _, rfl, Below.refl _ _⟩
  case round =>
    obtain ⟨k, hk, rfl, hbl⟩ := hrel
    by_cases hlt : k < n
    · have hlt' : decide ((k : Int) < (n : Int)) = true := decide_eq_true (by omega)
      have hlt2 : (k : Int) < (n : Int) := by omega
      obtain h0 | ⟨ra, oa, rfl, hra, hcsa⟩ := HA.out
      · omega
      obtain h0 | ⟨rb, ob, rfl, hrb, hcsb⟩ := HB.out
      · omega
      obtain ⟨x0, hx0⟩ : ∃ x, x = F0 k := ⟨_, rfl⟩
      obtain ⟨x1, hx1⟩ : ∃ x, x = F1 k := ⟨_, rfl⟩
      obtain ⟨p, hp⟩ : ∃ q, q = oa + 2 * k := ⟨_, rfl⟩
      obtain ⟨q, hq⟩ : ∃ q, q = ob + 2 * k := ⟨_, rfl⟩
      have a0 : wr.cell? ⟨ra, p, none⟩ = some (.int .i64 x0) := by rw [hp, hx0]; exact (hbl.out.cell (p := ⟨ra, oa + 2 * k, none⟩) hra).trans (hcsa k hlt 0 (by omega))
      have a1 : wr.cell? ⟨ra, p + 1, none⟩ = some (.string x1) := by rw [hp, hx1]; exact (hbl.out.cell (p := ⟨ra, oa + 2 * k + 1, none⟩) hra).trans (hcsa k hlt 1 (by omega))
      have b0 : wr.cell? ⟨rb, q, none⟩ = some (.int .i64 x0) := by rw [hq, hx0]; exact (hbl.out.cell (p := ⟨rb, ob + 2 * k, none⟩) hrb).trans (hcsb k hlt 0 (by omega))
      have b1 : wr.cell? ⟨rb, q + 1, none⟩ = some (.string x1) := by rw [hq, hx1]; exact (hbl.out.cell (p := ⟨rb, ob + 2 * k + 1, none⟩) hrb).trans (hcsb k hlt 1 (by omega))
      have n1 : oa + 2 * k = p := hp.symm
      have n2 : oa + k * 2 = p := by omega
      have n3 : ob + 2 * k = q := hq.symm
      have n4 : ob + k * 2 = q := by omega
      have hbs := hbl.out.size
      have SA : ∀ u : World, Below wr.heap.size wr u → (u.cell? ⟨ra, p, none⟩ = some (.int .i64 x0) ∧ u.cell? ⟨ra, p + 1, none⟩ = some (.string x1) ∧ u.cell? ⟨rb, q, none⟩ = some (.int .i64 x0) ∧ u.cell? ⟨rb, q + 1, none⟩ = some (.string x1)) := fun u hu => by
        refine ⟨(hu.cell (p := ⟨ra, p, none⟩) (by show ra < _; omega)).trans a0, (hu.cell (p := ⟨ra, p + 1, none⟩) (by show ra < _; omega)).trans a1, (hu.cell (p := ⟨rb, q, none⟩) (by show rb < _; omega)).trans b0, (hu.cell (p := ⟨rb, q + 1, none⟩) (by show rb < _; omega)).trans b1⟩
      clear hcsa hcsb HA HB hp hq hx0 hx1
      go_wp2_with fail
      refine wp_region_held_drew (S := fun u => u.cell? ⟨ra, p, none⟩ = some (.int .i64 x0) ∧ u.cell? ⟨ra, p + 1, none⟩ = some (.string x1) ∧ u.cell? ⟨rb, q, none⟩ = some (.int .i64 x0) ∧ u.cell? ⟨rb, q + 1, none⟩ = some (.string x1)) (by kernel_rfl) (SA _ (Below.refl _ _).drew) (fun hHeld => ?_)
      refine takeD (i := 0) (v := .slice (some ⟨ra, oa, none⟩) n ca) (some 17) rfl rfl (by kernel_rfl) (by kernel_rfl) (by kernel_rfl) (fun _ _ _ h => h) (Or.inl ⟨by rfl, fun w hSw => by go_simp⟩) hHeld ?_
      simp only [Act.put, List.setIfInBounds_toArray, List.set_cons_zero, List.set_cons_succ]
      refine takeD (i := 1) (v := .int .i64 (k : Int)) (some 18) rfl rfl (by kernel_rfl) (by kernel_rfl) (by kernel_rfl) (fun _ _ _ h => h) (Or.inl ⟨by rfl, fun w hSw => by go_simp⟩) hHeld ?_
      simp only [Act.put, List.setIfInBounds_toArray, List.set_cons_zero, List.set_cons_succ]
      refine takeD (i := 2) (v := .pointer (some ⟨ra, p, none⟩)) (some 19) rfl rfl (by kernel_rfl) (by kernel_rfl) (by kernel_rfl) (fun _ _ _ h => h) (Or.inl ⟨by rfl, fun w hSw => by go_simp⟩) hHeld ?_
      simp only [Act.put, List.setIfInBounds_toArray, List.set_cons_zero, List.set_cons_succ]
      refine takeD (i := 3) (v := .agg #[.int .i64 x0, .string x1]) (some 20) rfl rfl (by kernel_rfl) (by kernel_rfl) (by kernel_rfl) (fun _ _ _ h => h) (Or.inl ⟨by rfl, fun w hSw => by obtain ⟨s0, s1, s2, s3⟩ := hSw; go_simp⟩) hHeld ?_
      simp only [Act.put, List.setIfInBounds_toArray, List.set_cons_zero, List.set_cons_succ]
      refine takeD (i := 4) (v := .slice (some ⟨rb, ob, none⟩) n cb) (some 21) rfl rfl (by kernel_rfl) (by kernel_rfl) (by kernel_rfl) (fun _ _ _ h => h) (Or.inl ⟨by rfl, fun w hSw => by go_simp⟩) hHeld ?_
      simp only [Act.put, List.setIfInBounds_toArray, List.set_cons_zero, List.set_cons_succ]
      refine takeD (i := 5) (v := .int .i64 (k : Int)) (some 22) rfl rfl (by kernel_rfl) (by kernel_rfl) (by kernel_rfl) (fun _ _ _ h => h) (Or.inl ⟨by rfl, fun w hSw => by go_simp⟩) hHeld ?_
      simp only [Act.put, List.setIfInBounds_toArray, List.set_cons_zero, List.set_cons_succ]
      refine takeD (i := 6) (v := .pointer (some ⟨rb, q, none⟩)) (some 23) rfl rfl (by kernel_rfl) (by kernel_rfl) (by kernel_rfl) (fun _ _ _ h => h) (Or.inl ⟨by rfl, fun w hSw => by go_simp⟩) hHeld ?_
      simp only [Act.put, List.setIfInBounds_toArray, List.set_cons_zero, List.set_cons_succ]
      refine takeD (i := 7) (v := .agg #[.int .i64 x0, .string x1]) (some 24) rfl rfl (by kernel_rfl) (by kernel_rfl) (by kernel_rfl) (fun _ _ _ h => h) (Or.inl ⟨by rfl, fun w hSw => by obtain ⟨s0, s1, s2, s3⟩ := hSw; go_simp⟩) hHeld ?_
      simp only [Act.put, List.setIfInBounds_toArray, List.set_cons_zero, List.set_cons_succ]
      refine wpAnyH_ready (rs := [8]) (by kernel_rfl) (by simp) ?_
      refine AllReadyH.cons rfl (fun KK hK => ?_) AllReadyH.nil
      go_simp
      refine (law_eqWr x0 x1 _).mono ?_
      rintro e w9 ⟨rfl, hb9⟩
      go_simp
      have hb9' : Below wr.heap.size wr w9 := ((Below.refl _ wr).drew).trans hb9
      refine hK.out _ _ (SA _ hb9') (fun hHeld => ?_)
      clear hK KK
      refine takeD (i := 9) (v := .bool false) (some 26) rfl rfl (by kernel_rfl) (by kernel_rfl) (by kernel_rfl) (fun _ _ _ h => h) (Or.inl ⟨by rfl, fun w hSw => by go_simp⟩) hHeld ?_
      simp only [Act.put, List.setIfInBounds_toArray, List.set_cons_zero, List.set_cons_succ]
      refine wpAnyH_done (by kernel_rfl) ?_ _
      have B9 := hide (hbl.out.trans (hb9'.mono hbs))
      clear hb9 hb9' hbl SA hHeld a0 b0 a1 b1
      go_wp2_with fail
      go_roundw
      case rel => exact ⟨k + 1, by omega, by go_num, B9⟩
      case measure => simp [intOf]; omega
    · have hlt' : decide ((k : Int) < (n : Int)) = false := decide_eq_false (by omega)
      go_wp2_with fail
      go_ret
      exact ⟨rfl, hbl.out⟩
end Go.Proofs.Ytipeelkmmjgehab

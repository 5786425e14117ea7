/- RngS, RngA, RngQ, RngG, UnpF, BelowI, GetTok, one behind the other. -/
import Derived.Test.YtdoodkabmeojmabDoorZ1
import Derived.Test.YtdoodkabmeojmabDoorRangeBit
import Derived.Deep.RegionWith
import Derived.Test.YtdoodkabmeojmabDoorRangeD
import Derived.Test.YtdoodkabmeojmabDoorPackF
import Derived.Test.YtdoodkabmeojmabDoorPackR
import Derived.Test.YtdoodkabmeojmabDoorTokC
import Derived.Test.YtdoodkabmeojmabDoorRows
import Derived.WalkKit
import Derived.Below
/- The walk over the program's shift (written by mkshift.py). -/
namespace Go.Proofs.YtdoodkabmeojmabDoor
open Go.RowKit
/-- A coder of the program at work. -/
def CodP (w : World) (base g size : Nat) (ch : Nat → Nat) (low n : Nat) : Prop :=
  ∃ ov, w.rowIs g 109 1603 (cdF size ch (low % 4294967296) ov) ∧ ownB w base ov n (byN n (low / 4294967296)) ∧ ov.ownBlock ≠ some g
set_option maxRecDepth 100000 in
set_option maxHeartbeats 1600000 in
theorem imp_shiftK (base g size low nn : Nat) (ch : Nat → Nat) (ov : Value) (w : World) (hnb : nn ≤ 100000) (hbg : base ≤ g) (hr : w.rowIs g 109 1603 (cdF size ch (low % 4294967296) ov)) (ho : ownB w base ov nn (byN nn (low / 4294967296))) (hd1 : ov.ownBlock ≠ some g) :
    Calls Tryd.prog 57 #[.pointer (some ⟨g, 0, none⟩)] w fun e w' => e = .returned (.tuple #[]) ∧ (∃ ov', w'.rowIs g 109 1603 (cdF size ch (256 * low % 4294967296) ov') ∧ ownB w' base ov' (nn + 1) (byN (nn + 1) (256 * low / 4294967296)) ∧ ov'.ownBlock ≠ some g ∧ ∀ k, ov'.ownBlock = some k → ov.ownBlock = some k ∨ w.heap.size ≤ k) ∧ Below base w w' ∧ ∀ k, k < w.heap.size → k ≠ g → ov.ownBlock ≠ some k → w'.heap[k]? = w.heap[k]? := by
  obtain ⟨l, hl⟩ : ∃ l, l = low % 4294967296 := ⟨_, rfl⟩
  rw [← hl] at hr
  obtain ⟨_, c1, c0, _⟩ := cd_cells hr
  have f0 := hr.frozen 1602
  have hl32 : l < 4294967296 := by omega
  obtain ⟨b, hb⟩ : ∃ b : UInt8, b = UInt8.ofNat (l / 16777216) := ⟨_, rfl⟩
  have hbn : b.toNat = l / 16777216 := by rw [hb, UInt8.toNat_ofNat']; omega
  obtain ⟨y, hy⟩ : ∃ y, y = l / 16777216 := ⟨_, rfl⟩
  have m1 : (l : Int) / 16777216 = (y : Int) := by omega
  have m2 : IntKind.u8.wrap (y : Int) = (y : Int) := by rw [IntKind.wrap_u8]; omega
  have hy8 : (y : Int) ≤ 255 := by omega
  obtain ⟨i0, hi0, hz0, hz1, hz2⟩ := info_parts Tryd.infoB8r
  have HT := hide (And.intro hl (And.intro hbn hy))
  clear hl hb hbn hy
  go_enter Tryd.func57, Tryd.ntmps57
  go_wp2_with fail
  refine wp_region_held_drew (S := fun w' => w'.cell? ⟨g, 1601, none⟩ = some (.int .u64 (l : Nat))) (by kernel_rfl) c1 (fun hHeld => ?_)
  refine takeD (i := 0) (v := .pointer (some ⟨g, 0, none⟩)) (some 2) rfl rfl (by kernel_rfl) (by kernel_rfl) (by kernel_rfl) (fun _ _ _ h => h) (Or.inl ⟨by rfl, fun w hSw => by go_simp⟩) hHeld ?_
  simp only [Act.put, List.setIfInBounds_toArray, List.set_cons_zero, List.set_cons_succ]
  refine takeD (i := 1) (v := .pointer (some ⟨g, 0, none⟩)) (some 3) rfl rfl (by kernel_rfl) (by kernel_rfl) (by kernel_rfl) (fun _ _ _ h => h) (Or.inl ⟨by rfl, fun w hSw => by go_simp⟩) hHeld ?_
  simp only [Act.put, List.setIfInBounds_toArray, List.set_cons_zero, List.set_cons_succ]
  refine takeD (i := 2) (v := .pointer (some ⟨g, 0, none⟩)) (some 4) rfl rfl (by kernel_rfl) (by kernel_rfl) (by kernel_rfl) (fun _ _ _ h => h) (Or.inl ⟨by rfl, fun w hSw => by go_simp⟩) hHeld ?_
  simp only [Act.put, List.setIfInBounds_toArray, List.set_cons_zero, List.set_cons_succ]
  refine takeD (i := 3) (v := .pointer (some ⟨g, 1602, none⟩)) (some 5) rfl rfl (by kernel_rfl) (by kernel_rfl) (by kernel_rfl) (fun _ _ _ h => h) (Or.inl ⟨by rfl, fun w hSw => by go_simp⟩) hHeld ?_
  simp only [Act.put, List.setIfInBounds_toArray, List.set_cons_zero, List.set_cons_succ]
  refine takeD (i := 5) (v := .pointer (some ⟨g, 0, none⟩)) (some 7) rfl rfl (by kernel_rfl) (by kernel_rfl) (by kernel_rfl) (fun _ _ _ h => h) (Or.inl ⟨by rfl, fun w hSw => by go_simp⟩) hHeld ?_
  simp only [Act.put, List.setIfInBounds_toArray, List.set_cons_zero, List.set_cons_succ]
  refine takeD (i := 6) (v := .pointer (some ⟨g, 0, none⟩)) (some 8) rfl rfl (by kernel_rfl) (by kernel_rfl) (by kernel_rfl) (fun _ _ _ h => h) (Or.inl ⟨by rfl, fun w hSw => by go_simp⟩) hHeld ?_
  simp only [Act.put, List.setIfInBounds_toArray, List.set_cons_zero, List.set_cons_succ]
  refine takeD (i := 7) (v := .pointer (some ⟨g, 1601, none⟩)) (some 9) rfl rfl (by kernel_rfl) (by kernel_rfl) (by kernel_rfl) (fun _ _ _ h => h) (Or.inl ⟨by rfl, fun w hSw => by go_simp⟩) hHeld ?_
  simp only [Act.put, List.setIfInBounds_toArray, List.set_cons_zero, List.set_cons_succ]
  refine takeD (i := 8) (v := .int .u64 (l : Int)) (some 10) rfl rfl (by kernel_rfl) (by kernel_rfl) (by kernel_rfl) (fun _ _ _ h => h) (Or.inl ⟨by rfl, fun w hSw => by go_simp⟩) hHeld ?_
  simp only [Act.put, List.setIfInBounds_toArray, List.set_cons_zero, List.set_cons_succ]
  refine takeD (i := 9) (v := .int .u64 (y : Int)) (some 11) rfl rfl (by kernel_rfl) (by kernel_rfl) (by kernel_rfl) (fun _ _ _ h => h) (Or.inl ⟨by rfl, fun w hSw => by go_simp⟩) hHeld ?_
  simp only [Act.put, List.setIfInBounds_toArray, List.set_cons_zero, List.set_cons_succ]
  refine takeD (i := 10) (v := .int .u8 (y : Int)) (some 12) rfl rfl (by kernel_rfl) (by kernel_rfl) (by kernel_rfl) (fun _ _ _ h => h) (Or.inl ⟨by rfl, fun w hSw => by go_simp⟩) hHeld ?_
  simp only [Act.put, List.setIfInBounds_toArray, List.set_cons_zero, List.set_cons_succ]
  have ra := hr.drew.alloc (.cells #[.int .u8 (y : Int)] 5)
  have ca0 : (w.drew.alloc (.cells #[.int .u8 (y : Int)] 5)).cell? ⟨g, 1602, none⟩ = some ov := (cd_cells ra).2.2.1
  have ca1 : (w.drew.alloc (.cells #[.int .u8 (y : Int)] 5)).cell? ⟨g, 1601, none⟩ = some (.int .u64 (l : Nat)) := (cd_cells ra).2.1
  have oa := World.ownsRow.alloc (World.ownsRow.drew ho) (.cells #[.int .u8 (y : Int)] 5)
  have hba := (Below.refl base w).drew.alloc (show base ≤ w.drew.heap.size by have := hr.lt; exact Nat.le_trans hbg (Nat.le_of_lt this)) (.cells #[.int .u8 (y : Int)] 5)
  have AA := hide (And.intro oa hba)
  have KA := hide (show ∀ k, k < w.heap.size → (w.drew.alloc (.cells #[.int .u8 (y : Int)] 5)).heap[k]? = w.heap[k]? from fun k hk => Below.heap_alloc w.drew _ k hk)
  have hglt := hr.lt
  clear oa hba
  refine wpAnyH_ready (rs := [4, 11]) (by kernel_rfl) (by simp) ?_
  refine AllReadyH.cons rfl (fun KK hK => ?_) (AllReadyH.cons rfl (fun KK hK => ?_) AllReadyH.nil)
  · go_simp
    refine hK.out _ _ c1 (fun hHeld => ?_)
    clear hK KK
    refine wpAnyH_ready (rs := [11]) (by kernel_rfl) (by simp) ?_
    refine AllReadyH.cons rfl (fun KK hK => ?_) AllReadyH.nil
    go_simp
    refine hK.out _ _ ca1 (fun hHeld => ?_)
    clear hK KK
    refine wpAnyH_ready (rs := [12]) (by kernel_rfl) (by simp) ?_
    refine AllReadyH.cons rfl (fun KK hK => ?_) AllReadyH.nil
    refine step_append_D _ (some 14) rfl rfl (.tmp 6) (.tmp 13) 42 rfl base 5 i0 (.int .u8 0) 1 1 Tryd.underlying42 hi0 hz0 hz1 hz2 rfl (by omega) ov nn _ rfl AA.out.1 ⟨w.heap.size, 0, none⟩ 1 1 [.int .u8 (y : Int)] rfl rfl (one_cell w.drew _ _) (one_oneCell .u8 _) (by omega) (by unfold maxLen; omega) (by omega) (by simp; omega) (w.heap.size + 1) (by simp) ?_
    intro g' cap' w2 hown' hgr' hat' hlt'
    have r2 := ra.of_block (hgr'.block g (by simp; omega) (fun e => hd1 e.symm))
    simp only [Act.put, List.setIfInBounds_toArray, List.set_cons_zero, List.set_cons_succ]
    refine hK.out _ _ (cd_cells r2).2.1 (fun hHeld => ?_)
    clear hK KK
    refine takeD (i := 13) (v := .pointer (some ⟨g, 0, none⟩)) (some 15) rfl rfl (by kernel_rfl) (by kernel_rfl) (by kernel_rfl) (fun _ _ _ h => h) (Or.inl ⟨by rfl, fun w hSw => by go_simp⟩) hHeld ?_
    simp only [Act.put, List.setIfInBounds_toArray, List.set_cons_zero, List.set_cons_succ]
    refine takeD (i := 14) (v := .pointer (some ⟨g, 1602, none⟩)) (some 16) rfl rfl (by kernel_rfl) (by kernel_rfl) (by kernel_rfl) (fun _ _ _ h => h) (Or.inl ⟨by rfl, fun w hSw => by go_simp⟩) hHeld ?_
    simp only [Act.put, List.setIfInBounds_toArray, List.set_cons_zero, List.set_cons_succ]
    have c20 := (cd_cells r2).2.2.1
    have f20 := r2.frozen 1602
    refine wpAnyH_ready (rs := [15]) (by kernel_rfl) (by simp) ?_
    refine AllReadyH.cons rfl (fun KK hK => ?_) AllReadyH.nil
    go_simp
    have r3 := (cd_set r2).2.2.1 (.slice (some ⟨g', 0, none⟩) (nn + 1) cap')
    refine hK.out _ _ (cd_cells r3).2.1 (fun hHeld => ?_)
    clear hK KK
    refine wpAnyH_done (by kernel_rfl) ?_ _
    have hg'g : (Value.slice (some ⟨g', 0, none⟩) (nn + 1) cap').ownBlock ≠ some g := by
      intro e
      have e1 : g' = g := by simpa [Value.ownBlock] using e
      rcases hat' with h | h
      · exact hd1 (by rw [h, e1])
      · omega
    have ho3 := (ownB_snoc b (y := y) (by have := HT.out; omega) hown').far (g := g) (k := 1602) (x := .slice (some ⟨g', 0, none⟩) (nn + 1) cap') hg'g
    have hb3 := (AA.out.2.grown hgr' (by simp; omega) (fun x hx => (World.ownsRow.lt AA.out.1 x hx).1)).setCell (p := ⟨g, 1602, none⟩) hbg (.slice (some ⟨g', 0, none⟩) (nn + 1) cap')
    have KB := hide (show ∀ k, k < w.heap.size → k ≠ g → ov.ownBlock ≠ some k → (w2.setCell ⟨g, 1602, none⟩ (.slice (some ⟨g', 0, none⟩) (nn + 1) cap')).heap[k]? = w.heap[k]? from fun k h1 h2 h3 => by
      rw [Below.heap_setCell _ _ _ _ h2]
      exact (hgr'.block k (by simp; omega) (fun e => h3 e.symm)).trans (KA.out k h1))
    have KC := hide (show ∀ k, (Value.slice (some ⟨g', 0, none⟩) (nn + 1) cap').ownBlock = some k → ov.ownBlock = some k ∨ w.heap.size ≤ k from fun k hk => by
      obtain rfl : g' = k := by simpa [Value.ownBlock] using hk
      rcases hat' with h | h
      · exact .inl h
      · exact .inr (by omega))
    obtain ⟨l2, hl2⟩ : ∃ x, x = 256 * l % 4294967296 := ⟨_, rfl⟩
    have a1 : bits .and .u64 ((l : Int) * 256) 4294967295 = (l2 : Int) := by
      have h := and64 (256 * l) (by omega)
      rw [show ((256 * l : Nat) : Int) = (l : Int) * 256 by omega] at h
      rw [h, hl2]
    have HLZ := hide hl2
    clear hl2 hown' hgr' hat' hlt' c20 f20 r2 AA ra ca0 ca1 c0 c1 f0 hr ho m1 m2
    generalize w2.setCell ⟨g, 1602, none⟩ (.slice (some ⟨g', 0, none⟩) (nn + 1) cap') = W3 at *
    have d1 := (cd_cells r3).2.1
    have e1 := r3.frozen 1601
    go_wp2_with fail
    go_end0
    refine ⟨rfl, ⟨_, ?_, ?_, hg'g, KC.out⟩, hb3.setCell (p := ⟨g, 1601, none⟩) hbg _, fun k h1 h2 h3 => by rw [Below.heap_setCell _ _ _ _ h2]; exact KB.out k h1 h2 h3⟩
    · rw [(low_shift low).2, ← HT.out.1, ← HLZ.out]
      exact (cd_set r3).2.1 l2
    · rw [(low_shift low).1, ← HT.out.1, ← HT.out.2.1]
      refine (ho3.far (g := g) (k := 1601) hg'g).congr (fun j hj => ?_)
      rw [byN_snoc nn _ b j hj]
  · go_simp
    refine hK.out _ _ ca1 (fun hHeld => ?_)
    clear hK KK
    refine wpAnyH_ready (rs := [4]) (by kernel_rfl) (by simp) ?_
    refine AllReadyH.cons rfl (fun KK hK => ?_) AllReadyH.nil
    go_simp
    refine hK.out _ _ ca1 (fun hHeld => ?_)
    clear hK KK
    refine wpAnyH_ready (rs := [12]) (by kernel_rfl) (by simp) ?_
    refine AllReadyH.cons rfl (fun KK hK => ?_) AllReadyH.nil
    refine step_append_D _ (some 14) rfl rfl (.tmp 6) (.tmp 13) 42 rfl base 5 i0 (.int .u8 0) 1 1 Tryd.underlying42 hi0 hz0 hz1 hz2 rfl (by omega) ov nn _ rfl AA.out.1 ⟨w.heap.size, 0, none⟩ 1 1 [.int .u8 (y : Int)] rfl rfl (one_cell w.drew _ _) (one_oneCell .u8 _) (by omega) (by unfold maxLen; omega) (by omega) (by simp; omega) (w.heap.size + 1) (by simp) ?_
    intro g' cap' w2 hown' hgr' hat' hlt'
    have r2 := ra.of_block (hgr'.block g (by simp; omega) (fun e => hd1 e.symm))
    simp only [Act.put, List.setIfInBounds_toArray, List.set_cons_zero, List.set_cons_succ]
    refine hK.out _ _ (cd_cells r2).2.1 (fun hHeld => ?_)
    clear hK KK
    refine takeD (i := 13) (v := .pointer (some ⟨g, 0, none⟩)) (some 15) rfl rfl (by kernel_rfl) (by kernel_rfl) (by kernel_rfl) (fun _ _ _ h => h) (Or.inl ⟨by rfl, fun w hSw => by go_simp⟩) hHeld ?_
    simp only [Act.put, List.setIfInBounds_toArray, List.set_cons_zero, List.set_cons_succ]
    refine takeD (i := 14) (v := .pointer (some ⟨g, 1602, none⟩)) (some 16) rfl rfl (by kernel_rfl) (by kernel_rfl) (by kernel_rfl) (fun _ _ _ h => h) (Or.inl ⟨by rfl, fun w hSw => by go_simp⟩) hHeld ?_
    simp only [Act.put, List.setIfInBounds_toArray, List.set_cons_zero, List.set_cons_succ]
    have c20 := (cd_cells r2).2.2.1
    have f20 := r2.frozen 1602
    refine wpAnyH_ready (rs := [15]) (by kernel_rfl) (by simp) ?_
    refine AllReadyH.cons rfl (fun KK hK => ?_) AllReadyH.nil
    go_simp
    have r3 := (cd_set r2).2.2.1 (.slice (some ⟨g', 0, none⟩) (nn + 1) cap')
    refine hK.out _ _ (cd_cells r3).2.1 (fun hHeld => ?_)
    clear hK KK
    refine wpAnyH_done (by kernel_rfl) ?_ _
    have hg'g : (Value.slice (some ⟨g', 0, none⟩) (nn + 1) cap').ownBlock ≠ some g := by
      intro e
      have e1 : g' = g := by simpa [Value.ownBlock] using e
      rcases hat' with h | h
      · exact hd1 (by rw [h, e1])
      · omega
    have ho3 := (ownB_snoc b (y := y) (by have := HT.out; omega) hown').far (g := g) (k := 1602) (x := .slice (some ⟨g', 0, none⟩) (nn + 1) cap') hg'g
    have hb3 := (AA.out.2.grown hgr' (by simp; omega) (fun x hx => (World.ownsRow.lt AA.out.1 x hx).1)).setCell (p := ⟨g, 1602, none⟩) hbg (.slice (some ⟨g', 0, none⟩) (nn + 1) cap')
    have KB := hide (show ∀ k, k < w.heap.size → k ≠ g → ov.ownBlock ≠ some k → (w2.setCell ⟨g, 1602, none⟩ (.slice (some ⟨g', 0, none⟩) (nn + 1) cap')).heap[k]? = w.heap[k]? from fun k h1 h2 h3 => by
      rw [Below.heap_setCell _ _ _ _ h2]
      exact (hgr'.block k (by simp; omega) (fun e => h3 e.symm)).trans (KA.out k h1))
    have KC := hide (show ∀ k, (Value.slice (some ⟨g', 0, none⟩) (nn + 1) cap').ownBlock = some k → ov.ownBlock = some k ∨ w.heap.size ≤ k from fun k hk => by
      obtain rfl : g' = k := by simpa [Value.ownBlock] using hk
      rcases hat' with h | h
      · exact .inl h
      · exact .inr (by omega))
    obtain ⟨l2, hl2⟩ : ∃ x, x = 256 * l % 4294967296 := ⟨_, rfl⟩
    have a1 : bits .and .u64 ((l : Int) * 256) 4294967295 = (l2 : Int) := by
      have h := and64 (256 * l) (by omega)
      rw [show ((256 * l : Nat) : Int) = (l : Int) * 256 by omega] at h
      rw [h, hl2]
    have HLZ := hide hl2
    clear hl2 hown' hgr' hat' hlt' c20 f20 r2 AA ra ca0 ca1 c0 c1 f0 hr ho m1 m2
    generalize w2.setCell ⟨g, 1602, none⟩ (.slice (some ⟨g', 0, none⟩) (nn + 1) cap') = W3 at *
    have d1 := (cd_cells r3).2.1
    have e1 := r3.frozen 1601
    go_wp2_with fail
    go_end0
    refine ⟨rfl, ⟨_, ?_, ?_, hg'g, KC.out⟩, hb3.setCell (p := ⟨g, 1601, none⟩) hbg _, fun k h1 h2 h3 => by rw [Below.heap_setCell _ _ _ _ h2]; exact KB.out k h1 h2 h3⟩
    · rw [(low_shift low).2, ← HT.out.1, ← HLZ.out]
      exact (cd_set r3).2.1 l2
    · rw [(low_shift low).1, ← HT.out.1, ← HT.out.2.1]
      refine (ho3.far (g := g) (k := 1601) hg'g).congr (fun j hj => ?_)
      rw [byN_snoc nn _ b j hj]
theorem imp_shift (base g size low nn : Nat) (ch : Nat → Nat) (w : World) (hnb : nn ≤ 100000) (hbg : base ≤ g) (hcod : CodP w base g size ch low nn) :
    Calls Tryd.prog 57 #[.pointer (some ⟨g, 0, none⟩)] w fun e w' => e = .returned (.tuple #[]) ∧ CodP w' base g size ch (256 * low) (nn + 1) ∧ Below base w w' := by
  obtain ⟨ov, hr, ho, hd1⟩ := hcod
  exact (imp_shiftK base g size low nn ch ov w hnb hbg hr ho hd1).mono fun e w' ⟨h1, ⟨ov', h2, h3, h4, _⟩, h6, _⟩ => ⟨h1, ⟨ov', h2, h3, h4⟩, h6⟩
end Go.Proofs.YtdoodkabmeojmabDoor
/- The walk over the program's add. -/
namespace Go.Proofs.YtdoodkabmeojmabDoor
open Go.RowKit
theorem add_carry {low b n : Nat} (h : low + b < 4294967296 * 256 ^ n) (hc : 4294967296 ≤ low % 4294967296 + b) (hb : b ≤ 4294967295) : 0 < n ∧ (low + b) / 4294967296 = low / 4294967296 + 1 ∧ low / 4294967296 + 1 < 256 ^ n ∧ (low + b) % 4294967296 = (low % 4294967296 + b) % 4294967296 := by
  have h2 : (low + b) / 4294967296 = low / 4294967296 + 1 := by omega
  have h3 : low / 4294967296 + 1 < 256 ^ n := by
    rw [← h2]
    exact (Nat.div_lt_iff_lt_mul (by decide)).2 (by rw [Nat.mul_comm]; exact h)
  refine ⟨?_, h2, h3, by omega⟩
  rcases Nat.eq_zero_or_pos n with h0 | h0
  · subst h0; rw [Nat.pow_zero] at h3; omega
  · exact h0
set_option maxRecDepth 100000 in
set_option maxHeartbeats 800000 in
theorem imp_addK (base g size low n b : Nat) (ch : Nat → Nat) (w : World) (hn2 : n ≤ 100000) (hb : b ≤ 4294967295) (hfit : low + b < 4294967296 * 256 ^ n) (hbg : base ≤ g) (ov : Value) (hr : w.rowIs g 109 1603 (cdF size ch (low % 4294967296) ov)) (ho : ownB w base ov n (byN n (low / 4294967296))) (hd1 : ov.ownBlock ≠ some g) :
    Calls Tryd.prog 68 #[.pointer (some ⟨g, 0, none⟩), .int .u64 (b : Int)] w fun e w' => e = .returned (.tuple #[]) ∧ (w'.rowIs g 109 1603 (cdF size ch ((low + b) % 4294967296) ov) ∧ ownB w' base ov n (byN n ((low + b) / 4294967296))) ∧ Below base w w' ∧ ∀ k, k < w.heap.size → k ≠ g → ov.ownBlock ≠ some k → w'.heap[k]? = w.heap[k]? := by
  obtain ⟨l, hl⟩ : ∃ l, l = low % 4294967296 := ⟨_, rfl⟩
  rw [← hl] at hr
  have c1 := (cd_cells hr).2.1
  have f1 := hr.frozen 1601
  obtain ⟨m, hm⟩ : ∃ m, m = l + b := ⟨_, rfl⟩
  have k1 : (l : Int) + (b : Int) = (m : Int) := by omega
  have k2 : IntKind.u64.wrap ((l : Int) + (b : Int)) = (m : Int) := by rw [IntKind.wrap_u64]; omega
  have k3 : IntKind.u64.wrap (m : Int) = (m : Int) := by rw [IntKind.wrap_u64]; omega
  have hm3 : (m : Int) ≤ 8589934592 := by omega
  have R1 := (cd_set hr).2.1 m
  have O1 := ho.far (g := g) (k := 1601) (x := .int .u64 (m : Int)) hd1
  have B1 := (Below.refl base w).setCell (p := ⟨g, 1601, none⟩) hbg (.int .u64 (m : Int))
  have K1 : ∀ v k, k < w.heap.size → k ≠ g → (w.setCell ⟨g, 1601, none⟩ v).heap[k]? = w.heap[k]? := fun v k _ hk => Below.heap_setCell _ _ _ _ hk
  have d1 := (cd_cells R1).2.1
  have e1 := R1.frozen 1601
  have KK := hide K1
  clear K1
  by_cases hc : 4294967296 ≤ m
  · have hc' : (4294967295 : Int) < (m : Int) := by omega
    obtain ⟨q1, q2, q3, q4⟩ := add_carry hfit (show 4294967296 ≤ low % 4294967296 + b by omega) hb
    obtain ⟨go, cap, rfl, hgo, _⟩ := ho.form q1
    have hne : go ≠ g := fun e => hd1 (by rw [e]; rfl)
    obtain ⟨m2, hm2⟩ : ∃ x, x = m % 4294967296 := ⟨_, rfl⟩
    have a1 : bits .and .u64 (m : Int) 4294967295 = (m2 : Int) := by rw [and64 m (by omega), hm2]
    have R2 := (cd_set R1).2.1 m2
    have O2 := O1.far (g := g) (k := 1601) (x := .int .u64 (m2 : Int)) hd1
    have B2 := B1.setCell (p := ⟨g, 1601, none⟩) hbg (.int .u64 (m2 : Int))
    have HL := hide (show (low + b) % 4294967296 = m2 by rw [q4, ← hl, ← hm, hm2])
    have HV := hide q2
    have H := hide (And.intro R2 (And.intro O2 B2))
    clear hm hm2 hl R2 O2 B2 q4 q2 R1 O1 B1 hr ho
    go_enter Tryd.func68, Tryd.ntmps68
    go_wp2_with fail
    refine (imp_carry base g go n cap m2 size (low / 4294967296) ch _ q1 hn2 q3 H.out.1 H.out.2.1 hne).mono ?_
    rintro e w3 ⟨rfl, ho3, hg3⟩
    go_wp2_with fail
    go_end0
    refine ⟨rfl, ⟨?_, ?_⟩, ?_, fun k h1 h2 h3 => ?_⟩
    · rw [HL.out]
      exact H.out.1.of_block (hg3.block g H.out.1.lt (by simpa using fun e => hne e.symm))
    · rw [HV.out]; exact ho3
    · exact H.out.2.2.trans (grownBy_below hg3 hgo (Nat.le_trans hbg (Nat.le_of_lt H.out.1.lt)))
    · refine (hg3.block k (by simpa [World.setCell] using h1) (fun e => h3 (by rw [e]; rfl))).trans ?_
      rw [Below.heap_setCell _ _ _ _ h2]; exact KK.out _ k h1 h2
  · have hc' : ¬ (4294967295 : Int) < (m : Int) := by omega
    have HL := hide (show (low + b) % 4294967296 = m by omega)
    have HV := hide (show (low + b) / 4294967296 = low / 4294967296 by omega)
    have H := hide (And.intro R1 (And.intro O1 B1))
    clear hm hl R1 O1 B1 hr ho
    go_enter Tryd.func68, Tryd.ntmps68
    go_wp2_with fail
    go_end0
    exact ⟨rfl, ⟨by rw [HL.out]; exact H.out.1, by rw [HV.out]; exact H.out.2.1⟩, H.out.2.2, fun k h1 h2 _ => KK.out _ k h1 h2⟩
end Go.Proofs.YtdoodkabmeojmabDoor
/- The walk over the program's put. -/
namespace Go.Proofs.YtdoodkabmeojmabDoor
open Go.RowKit
/-- A coder of the program, by the state that it bears. -/
def CodR (w : World) (base g : Nat) (s : RC) : Prop := CodP w base g s.size s.ch s.low s.n
theorem CodP.keep {w w' : World} {base g size low n : Nat} {ch : Nat → Nat} (h : CodP w base g size ch low n) (hb : ∀ k, k < w.heap.size → w'.heap[k]? = w.heap[k]?) : CodP w' base g size ch low n := by
  obtain ⟨ov, hr, ho, hd⟩ := h
  refine ⟨ov, hr.of_block (hb g hr.lt), ?_, hd⟩
  obtain ⟨a, h1 | ⟨k, cap, cur, rfl, c1, c2, c3⟩⟩ := ho
  · exact ⟨a, .inl h1⟩
  · exact ⟨a, .inr ⟨k, cap, cur, rfl, c1, (hb k (Array.getElem?_eq_some_iff.1 c2).1).trans c2, c3⟩⟩
/-- The range's size, off the block. -/
def size0 (w : World) (g : Nat) : Nat := match w.cell? ⟨g, 0, none⟩ with
  | some (.int _ n) => n.toNat
  | _ => 0
theorem size0_of {w : World} {g x : Nat} (h : w.cell? ⟨g, 0, none⟩ = some (.int .u64 (x : Nat))) : size0 w g = x := by unfold size0; rw [h]; rfl
/-- A coder of the program, its bytes in a block of Mo, or beyond N. -/
def CodK (w : World) (base g N : Nat) (Mo : Nat → Prop) (s : RC) : Prop :=
  ∃ ov, w.rowIs g 109 1603 (cdF s.size s.ch (s.low % 4294967296) ov) ∧ ownB w base ov s.n (byN s.n (s.low / 4294967296)) ∧ ov.ownBlock ≠ some g ∧ ∀ k, ov.ownBlock = some k → Mo k ∨ N ≤ k
/-- Below N all stays but g and Mo's blocks. -/
def FrK (N g : Nat) (Mo : Nat → Prop) (w w' : World) : Prop := w.heap.size ≤ w'.heap.size ∧ ∀ k, k < N → k ≠ g → ¬ Mo k → w'.heap[k]? = w.heap[k]?
theorem FrK.refl (N g : Nat) (Mo : Nat → Prop) (w : World) : FrK N g Mo w w := ⟨Nat.le_refl _, fun _ _ _ _ => rfl⟩
theorem FrK.trans {N g : Nat} {Mo : Nat → Prop} {a b c : World} (h : FrK N g Mo a b) (k : FrK N g Mo b c) : FrK N g Mo a c := ⟨Nat.le_trans h.1 k.1, fun j h1 h2 h3 => (k.2 j h1 h2 h3).trans (h.2 j h1 h2 h3)⟩
theorem FrK.of_below {N g : Nat} {Mo : Nat → Prop} {a b : World} (h : Below a.heap.size a b) (hN : N ≤ a.heap.size) : FrK N g Mo a b := ⟨h.size, fun j h1 _ _ => h.block j (Nat.lt_of_lt_of_le h1 hN)⟩
theorem FrK.of_grown {N g : Nat} {Mo : Nat → Prop} {a b : World} (h : a.grownBy b (some g)) (hN : N ≤ a.heap.size) : FrK N g Mo a b := ⟨h.size, fun j h1 h2 _ => h.block j (Nat.lt_of_lt_of_le h1 hN) (fun e => h2 (by cases e; rfl))⟩
theorem FrK.of_off {N g : Nat} {Mo : Nat → Prop} {a b : World} {ov : Value} (hs : a.heap.size ≤ b.heap.size) (h : ∀ k, k < a.heap.size → k ≠ g → ov.ownBlock ≠ some k → b.heap[k]? = a.heap[k]?) (hN : N ≤ a.heap.size) (hM : ∀ k, ov.ownBlock = some k → Mo k ∨ N ≤ k) : FrK N g Mo a b :=
  ⟨hs, fun j h1 h2 h3 => h j (Nat.lt_of_lt_of_le h1 hN) h2 (fun e => by rcases hM j e with h | h; exact h3 h; omega)⟩
theorem CodK.keep {w w' : World} {base g N : Nat} {Mo : Nat → Prop} {s : RC} (h : CodK w base g N Mo s) (hb : ∀ k, k < w.heap.size → w'.heap[k]? = w.heap[k]?) : CodK w' base g N Mo s := by
  obtain ⟨ov, hr, ho, hd, hm⟩ := h
  refine ⟨ov, hr.of_block (hb g hr.lt), ?_, hd, hm⟩
  obtain ⟨a, h1 | ⟨k, cap, cur, rfl, c1, c2, c3⟩⟩ := ho
  · exact ⟨a, .inl h1⟩
  · exact ⟨a, .inr ⟨k, cap, cur, rfl, c1, (hb k (Array.getElem?_eq_some_iff.1 c2).1).trans c2, c3⟩⟩
set_option maxRecDepth 100000 in
set_option maxHeartbeats 1600000 in
theorem imp_putK (base g c N : Nat) (Mo : Nat → Prop) (one : Bool) (s : RC) (w : World) (hok : RcOk s) (hn : s.n ≤ 90000) (hc : c < 1600) (hbg : base ≤ g) (hcod : CodK w base g N Mo s) (hN : N ≤ w.heap.size) :
    Calls Tryd.prog 53 #[.pointer (some ⟨g, 0, none⟩), .agg #[.int .i64 (c : Int), .bool one]] w fun e w' => e = .returned (.tuple #[]) ∧ CodK w' base g N Mo (step s c one) ∧ Below base w w' ∧ FrK N g Mo w w' := by
  obtain ⟨P, hP⟩ : ∃ P, P = part1 s c one := ⟨_, rfl⟩
  have hpo := part1_ok s c one hok
  rw [← hP] at hpo
  have HPS := hide hP
  have HNOK := hide (norm_ok P hpo.1 hpo.2.1 hpo.2.2.1 (by rw [hpo.2.2.2.2]; exact hpo.2.2.2.1))
  have HPN := hide (show P.n ≤ 100000 ∧ P.size ≤ 4294967295 ∧ 131072 ≤ P.size from ⟨by rw [hpo.2.2.2.2]; omega, hpo.2.1, hpo.1⟩)
  obtain ⟨b1, b2⟩ := bound_in s c hok
  have hlo := hok.lo
  have hhi := hok.hi
  have hch := hok.ch c
  have hfit := hide hok.fit
  obtain ⟨ov, hr, ho, hd1, hMo⟩ := hcod
  obtain ⟨b, hb⟩ : ∃ b, b = bound s c := ⟨_, rfl⟩
  have HB := hide (show s.size / 2048 * s.ch c = b from hb.symm)
  rw [← hb] at b1 b2
  have hgl := hr.lt
  have hvl : ∀ k, ov.ownBlock = some k → k < w.heap.size := fun k hk => (World.ownsRow.lt ho k hk).2
  have R1 := hr.alloc (.cells #[.int .i64 (c : Int), .bool one] 70)
  have O1 : ownB (w.alloc (.cells #[.int .i64 (c : Int), .bool one] 70)) base ov s.n (byN s.n (s.low / 4294967296)) := World.ownsRow.alloc ho _
  have B1 := (Below.refl base w).alloc (show base ≤ w.heap.size by omega) (.cells #[.int .i64 (c : Int), .bool one] 70)
  have e0 : (w.alloc (.cells #[.int .i64 (c : Int), .bool one] 70)).cell? ⟨w.heap.size, 0, none⟩ = some (.int .i64 (c : Int)) := by simp
  have e1 : (w.alloc (.cells #[.int .i64 (c : Int), .bool one] 70)).cell? ⟨w.heap.size, 1, none⟩ = some (.bool one) := by simp
  have hz1 : w.heap.size < (w.alloc (.cells #[.int .i64 (c : Int), .bool one] 70)).heap.size := by simp
  have HV := hide hvl
  have HMO := hide hMo
  have F1 := hide (show FrK N g Mo w (w.alloc (.cells #[.int .i64 (c : Int), .bool one] 70)) from FrK.of_below ((Below.refl _ w).alloc (Nat.le_refl _) _) hN)
  have hN1 : N ≤ (w.alloc (.cells #[.int .i64 (c : Int), .bool one] 70)).heap.size := by simp; omega
  clear hMo hvl hr ho hb hpo hP
  go_enter Tryd.func53, Tryd.ntmps53
  go_wp2_with fail
  generalize w.alloc (.cells #[.int .i64 (c : Int), .bool one] 70) = W1 at *
  have hz : g ≠ w.heap.size := by omega
  generalize w.heap.size = z at *
  have SB := hide (show ∀ n, Calls Tryd.prog 67 #[.pointer (some ⟨g, 0, none⟩), .int .i64 (c : Int)] (W1.drewN n) fun e w' => e = .returned (.int .u64 (b : Int)) ∧ ∃ m, w' = (W1.drewN n).drewN m by
    intro n
    have h := imp_bound g 109 s.size (s.low % 4294967296) c s.ch ov (W1.drewN n) hhi hc (by omega) R1
    rw [HB.out] at h; exact h)
  go_quiet ((go_at_call 67; refine Calls.quiet_of (SB.out _)))
  have R2 : (W1.drewN nq).rowIs g 109 1603 (cdF s.size s.ch (s.low % 4294967296) ov) := R1
  have O2 : ownB (W1.drewN nq) base ov s.n (byN s.n (s.low / 4294967296)) := O1
  have B2 : Below base w (W1.drewN nq) := B1.trans ⟨rfl, rfl, rfl, Nat.le_refl _, fun _ _ => rfl⟩
  have e0' : (W1.drewN nq).cell? ⟨z, 0, none⟩ = some (.int .i64 (c : Int)) := e0
  have e1' : (W1.drewN nq).cell? ⟨z, 1, none⟩ = some (.bool one) := e1
  have hz2 : z < (W1.drewN nq).heap.size := hz1
  have F2 := hide (show FrK N g Mo w (W1.drewN nq) from F1.out)
  have hN2 : N ≤ (W1.drewN nq).heap.size := hN1
  generalize W1.drewN nq = W2 at *
  clear F1 hN1
  clear R1 O1 B1 e0 e1 SB hz1
  cases one with
  | true =>
    have SA := hide (imp_addK base g s.size s.low s.n b s.ch W2 (by omega) (by omega) (by have := hfit.out; omega) hbg ov R2 O2 hd1)
    clear R2 O2
    go_wp2_with fail
    refine SA.out.mono ?_
    rintro e W3 ⟨rfl, C3, B3, K3⟩
    have hk := K3 z hz2 (fun e => hz e.symm) (fun e => absurd (HV.out z e) (by omega))
    have e0 : W3.cell? ⟨z, 0, none⟩ = some (.int .i64 (c : Int)) := (World.cell?_of_block hk).trans e0'
    have e1 : W3.cell? ⟨z, 1, none⟩ = some (.bool true) := (World.cell?_of_block hk).trans e1'
    have B4 := B2.trans B3
    obtain ⟨r3, o3⟩ := C3
    have d3 := hd1
    have F3 := hide (F2.out.trans (FrK.of_off B3.size K3 hN2 HMO.out))
    have hN3 : N ≤ W3.heap.size := by have := B3.size; omega
    have HPE := hide (show P = ⟨s.size - b, setCh s.ch c (chOne (s.ch c)), s.low + b, s.n⟩ by rw [HPS.out, ← HB.out]; rfl)
    clear SA K3 hk e0' e1' B2 B3
    go_wp2_with fail
    go_region_with ((go_at_call 69; refine (imp_narrow g 109 s.size ((s.low + b) % 4294967296) c b true s.ch _ W3.drew hhi (by omega) hc (by omega) r3.drew).mono ?_; rintro e w9 ⟨rfl, r9, g9⟩))
    have HCOD := hide (show CodK w9 base g N Mo P by
      rw [HPE.out]
      refine ⟨_, ?_, World.ownsRow.kept (World.ownsRow.drew o3) g9 (.inr d3), d3, HMO.out⟩
      exact r9)
    have HFR := hide (show FrK N g Mo w w9 from F3.out.trans (FrK.of_grown (a := W3.drew) g9 hN3))
    have hN9 : N ≤ w9.heap.size := by have := g9.size; exact Nat.le_trans hN3 this
    have HBEL := hide (B4.drew.trans (grownBy_below g9 hbg (show base ≤ W3.heap.size by have := r3.lt; omega)))

    clear r9 g9 r3 o3 B4 e0 e1
    go_wp2_with fail
    go_loopw [22] (fun _ wx => ∃ t : RC, Hid (t = P ∨ (t = norm P ∧ P.size < 16777216)) ∧ Hid (CodK wx base g N Mo t) ∧ Hid (Below base w wx) ∧ Hid (FrK N g Mo w wx) ∧ N ≤ wx.heap.size) (fun _ wx => if size0 wx g < 16777216 then 1 else 0)
    case atStart => exact ⟨P, .inl rfl, HCOD, HBEL, HFR, hN9⟩
    case round =>
      clear HCOD HBEL HFR hN9
      obtain ⟨t, ht, hcod, hbel, hfr, hNr⟩ := hrel
      obtain ⟨ov, hr, ho, hd, hmo⟩ := hcod.out
      have HMO2 := hide hmo
      clear hmo
      have hsw := hide (size0_of (cd_cells hr).1)
      by_cases hsz : t.size < 16777216
      · have htP : t = P := by
          rcases ht.out with h | ⟨h, h2⟩
          · exact h
          · rw [h] at hsz; exact absurd hsz (by have := HNOK.out.lo; omega)
        have SW := hide (imp_widen_yes g 109 t.size (t.low % 4294967296) t.ch ov wr hsz hr)
        have HO := hide ho
        have HT := hide htP
        have hgl := hr.lt
        clear hr ho htP hcod
        go_wp2_with fail
        refine SW.out.mono ?_
        rintro e w1 ⟨rfl, r1, g1⟩
        have SS := hide (imp_shiftK base g (256 * t.size) t.low t.n t.ch ov w1 (by rw [HT.out]; exact HPN.out.1) hbg r1 (HO.out.kept g1 (.inr hd)) hd)
        have hN1 : N ≤ w1.heap.size := by have := g1.size; omega
        have FR1 := hide (hfr.out.trans (FrK.of_grown g1 hNr))
        have hb1 := hide (hbel.out.trans (grownBy_below g1 hbg (by omega)))
        clear r1 g1 SW hbel
        go_wp2_with fail
        refine SS.out.mono ?_
        rintro e w2 ⟨rfl, C2, hb2, K2⟩
        have hb3 := hide (hb1.out.trans hb2)
        have hC3 := hide (show CodK w2 base g N Mo (norm P) by
          rw [norm, if_pos (by rw [← HT.out]; exact hsz), ← HT.out]
          obtain ⟨o3, r3, p3, q3, s3⟩ := C2
          exact ⟨o3, r3, p3, q3, fun k hk => by rcases s3 k hk with h | h; exact HMO2.out k h; exact .inr (by omega)⟩)
        have hF3 := hide (FR1.out.trans (FrK.of_off hb2.size K2 hN1 HMO2.out))
        have hN2' : N ≤ w2.heap.size := by have := hb2.size; omega
        have hs3 := hide (show size0 w2 g = 256 * t.size by obtain ⟨o3, r3, _⟩ := C2; exact size0_of (cd_cells r3).1)
        clear C2 hb2 hb1 SS K2 FR1 hfr
        go_wp2_with fail
        go_roundw
        case rel => exact ⟨norm P, .inr ⟨rfl, by rw [← HT.out]; exact hsz⟩, hC3, hb3, hF3, hN2'⟩
        case measure =>
          rw [hs3.out, hsw.out, if_pos hsz, if_neg (by have h := HNOK.out.lo; rw [norm, if_pos (by rw [← HT.out]; exact hsz)] at h; have h' : 16777216 ≤ 256 * P.size := h; rw [← HT.out] at h'; omega)]
          omega
      · have htS := hide (show t = norm P by
          rcases ht.out with h | ⟨h, _⟩
          · rw [norm, if_neg (by rw [← h]; exact hsz), h]
          · exact h)
        have SW := hide (imp_widen_no g 109 t.size (t.low % 4294967296) t.ch ov wr hsz hr)
        clear hr ho
        go_wp2_with fail
        refine SW.out.mono ?_
        rintro e w1 ⟨rfl, rfl⟩
        go_wp2_with fail
        go_end0
        exact ⟨rfl, by show CodK _ base g N Mo (norm (part1 s c _)); rw [← HPS.out, ← htS.out]; exact hcod.out, hbel.out, hfr.out⟩
  | false =>
    have HPE := hide (show P = ⟨b, setCh s.ch c (chNot (s.ch c)), s.low, s.n⟩ by rw [HPS.out, ← HB.out]; rfl)
    go_wp2_with fail
    go_region_with ((go_at_call 69; refine (imp_narrow g 109 s.size (s.low % 4294967296) c b false s.ch _ W2.drew hhi (by omega) hc (by omega) R2.drew).mono ?_; rintro e w9 ⟨rfl, r9, g9⟩))
    have HCOD := hide (show CodK w9 base g N Mo P by
      rw [HPE.out]
      refine ⟨_, ?_, World.ownsRow.kept (World.ownsRow.drew O2) g9 (.inr hd1), hd1, HMO.out⟩
      exact r9)
    have HFR := hide (show FrK N g Mo w w9 from F2.out.trans (FrK.of_grown (a := W2.drew) g9 hN2))
    have hN9 : N ≤ w9.heap.size := by have := g9.size; exact Nat.le_trans hN2 this
    have HBEL := hide (B2.drew.trans (grownBy_below g9 hbg (show base ≤ W2.heap.size by have := R2.lt; omega)))

    clear r9 g9 R2 O2 B2 e0' e1'
    go_wp2_with fail
    go_loopw [22] (fun _ wx => ∃ t : RC, Hid (t = P ∨ (t = norm P ∧ P.size < 16777216)) ∧ Hid (CodK wx base g N Mo t) ∧ Hid (Below base w wx) ∧ Hid (FrK N g Mo w wx) ∧ N ≤ wx.heap.size) (fun _ wx => if size0 wx g < 16777216 then 1 else 0)
    case atStart => exact ⟨P, .inl rfl, HCOD, HBEL, HFR, hN9⟩
    case round =>
      clear HCOD HBEL HFR hN9
      obtain ⟨t, ht, hcod, hbel, hfr, hNr⟩ := hrel
      obtain ⟨ov, hr, ho, hd, hmo⟩ := hcod.out
      have HMO2 := hide hmo
      clear hmo
      have hsw := hide (size0_of (cd_cells hr).1)
      by_cases hsz : t.size < 16777216
      · have htP : t = P := by
          rcases ht.out with h | ⟨h, h2⟩
          · exact h
          · rw [h] at hsz; exact absurd hsz (by have := HNOK.out.lo; omega)
        have SW := hide (imp_widen_yes g 109 t.size (t.low % 4294967296) t.ch ov wr hsz hr)
        have HO := hide ho
        have HT := hide htP
        have hgl := hr.lt
        clear hr ho htP hcod
        go_wp2_with fail
        refine SW.out.mono ?_
        rintro e w1 ⟨rfl, r1, g1⟩
        have SS := hide (imp_shiftK base g (256 * t.size) t.low t.n t.ch ov w1 (by rw [HT.out]; exact HPN.out.1) hbg r1 (HO.out.kept g1 (.inr hd)) hd)
        have hN1 : N ≤ w1.heap.size := by have := g1.size; omega
        have FR1 := hide (hfr.out.trans (FrK.of_grown g1 hNr))
        have hb1 := hide (hbel.out.trans (grownBy_below g1 hbg (by omega)))
        clear r1 g1 SW hbel
        go_wp2_with fail
        refine SS.out.mono ?_
        rintro e w2 ⟨rfl, C2, hb2, K2⟩
        have hb3 := hide (hb1.out.trans hb2)
        have hC3 := hide (show CodK w2 base g N Mo (norm P) by
          rw [norm, if_pos (by rw [← HT.out]; exact hsz), ← HT.out]
          obtain ⟨o3, r3, p3, q3, s3⟩ := C2
          exact ⟨o3, r3, p3, q3, fun k hk => by rcases s3 k hk with h | h; exact HMO2.out k h; exact .inr (by omega)⟩)
        have hF3 := hide (FR1.out.trans (FrK.of_off hb2.size K2 hN1 HMO2.out))
        have hN2' : N ≤ w2.heap.size := by have := hb2.size; omega
        have hs3 := hide (show size0 w2 g = 256 * t.size by obtain ⟨o3, r3, _⟩ := C2; exact size0_of (cd_cells r3).1)
        clear C2 hb2 hb1 SS K2 FR1 hfr
        go_wp2_with fail
        go_roundw
        case rel => exact ⟨norm P, .inr ⟨rfl, by rw [← HT.out]; exact hsz⟩, hC3, hb3, hF3, hN2'⟩
        case measure =>
          rw [hs3.out, hsw.out, if_pos hsz, if_neg (by have h := HNOK.out.lo; rw [norm, if_pos (by rw [← HT.out]; exact hsz)] at h; have h' : 16777216 ≤ 256 * P.size := h; rw [← HT.out] at h'; omega)]
          omega
      · have htS := hide (show t = norm P by
          rcases ht.out with h | ⟨h, _⟩
          · rw [norm, if_neg (by rw [← h]; exact hsz), h]
          · exact h)
        have SW := hide (imp_widen_no g 109 t.size (t.low % 4294967296) t.ch ov wr hsz hr)
        clear hr ho
        go_wp2_with fail
        refine SW.out.mono ?_
        rintro e w1 ⟨rfl, rfl⟩
        go_wp2_with fail
        go_end0
        exact ⟨rfl, by show CodK _ base g N Mo (norm (part1 s c _)); rw [← HPS.out, ← htS.out]; exact hcod.out, hbel.out, hfr.out⟩

theorem imp_put (base g c : Nat) (one : Bool) (s : RC) (w : World) (hok : RcOk s) (hn : s.n ≤ 90000) (hc : c < 1600) (hbg : base ≤ g) (hcod : CodR w base g s) :
    Calls Tryd.prog 53 #[.pointer (some ⟨g, 0, none⟩), .agg #[.int .i64 (c : Int), .bool one]] w fun e w' => e = .returned (.tuple #[]) ∧ CodR w' base g (step s c one) ∧ Below base w w' := by
  obtain ⟨ov, hr, ho, hd⟩ := hcod
  exact (imp_putK base g c 0 (fun _ => False) one s w hok hn hc hbg ⟨ov, hr, ho, hd, fun _ _ => .inr (Nat.zero_le _)⟩ (Nat.zero_le _)).mono fun e w' ⟨h1, ⟨ov', h2, h3, h4, _⟩, h6, _⟩ => ⟨h1, ⟨ov', h2, h3, h4⟩, h6⟩
end Go.Proofs.YtdoodkabmeojmabDoor
/- The walk over the program's get. -/
namespace Go.Proofs.YtdoodkabmeojmabDoor
open Go.RowKit
set_option maxRecDepth 100000 in
set_option maxHeartbeats 1600000 in
theorem imp_get (g c x : Nat) (t : ByteArray) (s : RC) (w : World) (hok : RcOk s) (hc : c < 1600) (hx : x < 18446744073709551616) (hts : t.size ≤ 9223372036854775807) (hdec : DecP w g t s x) :
    Calls Tryd.prog 61 #[.pointer (some ⟨g, 0, none⟩), .int .i64 (c : Int)] w fun e w' => e = .returned (.bool (dbit s x c)) ∧ DecP w' g t (step s c (dbit s x c)) (dx (tbN t) s x c) ∧ w.grownBy w' (some g) := by
  obtain ⟨P, hP⟩ : ∃ P, P = part1 s c (dbit s x c) := ⟨_, rfl⟩
  have hpo := part1_ok s c (dbit s x c) hok
  rw [← hP] at hpo
  have HPS := hide hP
  have HNOK := hide (norm_ok P hpo.1 hpo.2.1 hpo.2.2.1 (by rw [hpo.2.2.2.2]; exact hpo.2.2.2.1))
  have HPN := hide (show P.n = s.n from hpo.2.2.2.2)
  obtain ⟨b1, b2⟩ := bound_in s c hok
  have hhi := hok.hi
  have hch := hok.ch c
  obtain ⟨b, hb⟩ : ∃ b, b = bound s c := ⟨_, rfl⟩
  have HB := hide (show s.size / 2048 * s.ch c = b from hb.symm)
  have HB2 := hide hb
  rw [← hb] at b1 b2
  have hr : w.rowIs g 80 1603 (cdF s.size s.ch x (.string (restOf t (s.n + 4)))) := hdec
  obtain ⟨V, hV⟩ : ∃ V, V = Value.string (restOf t (s.n + 4)) := ⟨_, rfl⟩
  rw [← hV] at hr
  have HV := hide hV
  have SB := hide (imp_bound g 80 s.size x c s.ch V w hhi hc (by omega) hr)
  rw [HB.out] at SB
  obtain ⟨x1, hx1⟩ : ∃ x1, x1 = dx1 s x c := ⟨_, rfl⟩
  have HX1E := hide hx1
  have hx1lt : x1 < 18446744073709551616 := by rw [hx1]; unfold dx1; split <;> omega
  by_cases hbx : b ≤ x
  · have hbx' : (b : Int) ≤ (x : Int) := by omega
    have HBIT := hide (show dbit s x c = true by unfold dbit; rw [← hb]; exact decide_eq_true hbx)
    have hx1' : x1 = x - b := by rw [hx1, dx1, ← hb, if_pos hbx]
    have kx : (x : Int) - (b : Int) = (x1 : Int) := by omega
    have kx2 : IntKind.u64.wrap ((x : Int) - (b : Int)) = (x1 : Int) := by rw [IntKind.wrap_u64]; omega
    have HPE := hide (show P = ⟨s.size - b, setCh s.ch c (chOne (s.ch c)), s.low + b, s.n⟩ by rw [HPS.out, HBIT.out, hb]; rfl)
    have HR := hide hr
    clear hP hpo hb hdec hV hx1 hx1' hr
    go_enter Tryd.func61, Tryd.ntmps61
    go_wp2_with fail
    refine SB.out.mono ?_
    rintro e w1 ⟨rfl, m, hw1⟩
    have R1 : w1.rowIs g 80 1603 (cdF s.size s.ch x V) := by rw [hw1]; exact HR.out
    have G1 : w.grownBy w1 (some g) := by rw [hw1]; exact ⟨rfl, rfl, rfl, Nat.le_refl _, fun _ _ _ => rfl⟩
    obtain ⟨_, c1, _, _⟩ := cd_cells R1
    have f1 := R1.frozen 1601
    have R2 := (cd_set R1).2.1 x1
    have G2 := grownBy_set (i := 1601) G1 (.int .u64 (x1 : Int))
    have SN := hide (imp_narrow g 80 s.size x1 c b true s.ch V (w1.setCell ⟨g, 1601, none⟩ (.int .u64 (x1 : Int))) hhi (by omega) hc (by omega) R2)
    have HG := hide G2
    clear hw1 R1 G1 SB R2 G2 HR
    go_wp2_with fail
    refine SN.out.mono ?_
    rintro e w3 ⟨rfl, r3, g3⟩
    have HROW := hide (show w3.rowIs g 80 1603 (cdF P.size P.ch x1 (.string (restOf t (P.n + 4)))) by rw [HPE.out, ← HV.out]; exact r3)
    have HBEL := hide (grownBy_trans HG.out g3)
    clear r3 g3 SN HG c1 f1 kx kx2
    have HPE2 := hide (show P = part1 s c true by rw [HPS.out, HBIT.out])
    go_wp2_with fail
    go_loopw [35] (fun _ wx => ∃ (u : RC) (y : Nat), Hid ((u = P ∧ y = x1) ∨ (u = norm P ∧ P.size < 16777216 ∧ y = (256 * x1 + tbN t (s.n + 4)) % 18446744073709551616)) ∧ Hid (DecP wx g t u y) ∧ Hid (w.grownBy wx (some g))) (fun _ wx => if size0 wx g < 16777216 then 1 else 0)
    case atStart => exact ⟨P, x1, .inl ⟨rfl, rfl⟩, HROW, HBEL⟩
    case round =>
      clear HROW HBEL
      obtain ⟨u, y, hu, hrow, hbel⟩ := hrel
      have hr : wr.rowIs g 80 1603 (cdF u.size u.ch y (.string (restOf t (u.n + 4)))) := hrow.out
      have hsw := hide (size0_of (cd_cells hr).1)
      by_cases hsz : u.size < 16777216
      · have huP : u = P ∧ y = x1 := by
          rcases hu.out with h | ⟨h, h2, _⟩
          · exact h
          · rw [h] at hsz; exact absurd hsz (by have := HNOK.out.lo; omega)
        have SW := hide (imp_widen_yes g 80 u.size y u.ch _ wr hsz hr)
        have HT := hide huP
        clear hr huP hrow hu
        go_wp2_with fail
        refine SW.out.mono ?_
        rintro e w1 ⟨rfl, r1, g1⟩
        have ST := hide (imp_take g (256 * u.size) y (u.n + 4) u.ch t w1 hts r1)
        have hb1 := hide (grownBy_trans hbel.out g1)
        clear r1 g1 SW hbel
        go_wp2_with fail
        refine ST.out.mono ?_
        rintro e w2 ⟨rfl, r2, g2⟩
        have hb3 := hide (grownBy_trans hb1.out g2)
        have hs3 := hide (size0_of (cd_cells r2).1)
        have hC3 := hide (show DecP w2 g t (norm P) ((256 * x1 + tbN t (s.n + 4)) % 18446744073709551616) by
          have h := HT.out
          rw [norm, if_pos (by rw [← h.1]; exact hsz), ← HPN.out, ← h.1, ← h.2]; exact r2)
        clear r2 g2 hb1 ST
        go_wp2_with fail
        go_roundw
        case rel => exact ⟨norm P, _, .inr ⟨rfl, by rw [← HT.out.1]; exact hsz, rfl⟩, hC3, hb3⟩
        case measure =>
          rw [hs3.out, hsw.out, if_pos hsz, if_neg (by have h := HNOK.out.lo; rw [norm, if_pos (by rw [← HT.out.1]; exact hsz)] at h; have h' : 16777216 ≤ 256 * P.size := h; rw [← HT.out.1] at h'; omega)]
          omega
      · have hfin := hide (show DecP wr g t (norm P) (if P.size < 16777216 then (256 * x1 + tbN t (s.n + 4)) % 18446744073709551616 else x1) by
          have h0 := hrow.out
          rcases hu.out with ⟨h1, h2⟩ | ⟨h1, h2, h3⟩
          · rw [norm, if_neg (by rw [← h1]; exact hsz), if_neg (by rw [← h1]; exact hsz), ← h1, ← h2]; exact h0
          · rw [if_pos h2, ← h1, ← h3]; exact h0)
        have SW := hide (imp_widen_no g 80 u.size y u.ch _ wr hsz hr)
        clear hr hu hrow
        go_wp2_with fail
        refine SW.out.mono ?_
        rintro e w1 ⟨rfl, rfl⟩
        go_wp2_with fail
        go_ret
        exact ⟨by rw [HBIT.out]; rfl, by rw [HBIT.out]; show DecP _ g t (norm (part1 s c _)) (dx (tbN t) s x c); rw [dx, HBIT.out, ← HPE2.out, ← HX1E.out]; exact hfin.out, hbel.out⟩
  · have hbx' : ¬ (b : Int) ≤ (x : Int) := by omega
    have HBIT := hide (show dbit s x c = false by unfold dbit; rw [← hb]; exact decide_eq_false hbx)
    have hx1' : x1 = x := by rw [hx1, dx1, ← hb, if_neg hbx]
    have HPE := hide (show P = ⟨b, setCh s.ch c (chNot (s.ch c)), s.low, s.n⟩ by rw [HPS.out, HBIT.out, hb]; rfl)
    have HX1 := hide hx1'
    have HR := hide hr
    clear hP hpo hb hdec hV hx1 hx1' hr
    go_enter Tryd.func61, Tryd.ntmps61
    go_wp2_with fail
    refine SB.out.mono ?_
    rintro e w1 ⟨rfl, m, hw1⟩
    have R1 : w1.rowIs g 80 1603 (cdF s.size s.ch x V) := by rw [hw1]; exact HR.out
    have G1 : w.grownBy w1 (some g) := by rw [hw1]; exact ⟨rfl, rfl, rfl, Nat.le_refl _, fun _ _ _ => rfl⟩
    obtain ⟨_, c1, _, _⟩ := cd_cells R1
    have SN := hide (imp_narrow g 80 s.size x c b false s.ch V w1 hhi (by omega) hc (by omega) R1)
    have HG := hide G1
    clear hw1 R1 G1 SB HR
    go_wp2_with fail
    refine SN.out.mono ?_
    rintro e w3 ⟨rfl, r3, g3⟩
    have HROW := hide (show w3.rowIs g 80 1603 (cdF P.size P.ch x1 (.string (restOf t (P.n + 4)))) by rw [HPE.out, ← HV.out, HX1.out]; exact r3)
    have HBEL := hide (grownBy_trans HG.out g3)
    clear r3 g3 SN HG c1
    have HPE2 := hide (show P = part1 s c false by rw [HPS.out, HBIT.out])
    go_wp2_with fail
    go_loopw [35] (fun _ wx => ∃ (u : RC) (y : Nat), Hid ((u = P ∧ y = x1) ∨ (u = norm P ∧ P.size < 16777216 ∧ y = (256 * x1 + tbN t (s.n + 4)) % 18446744073709551616)) ∧ Hid (DecP wx g t u y) ∧ Hid (w.grownBy wx (some g))) (fun _ wx => if size0 wx g < 16777216 then 1 else 0)
    case atStart => exact ⟨P, x1, .inl ⟨rfl, rfl⟩, HROW, HBEL⟩
    case round =>
      clear HROW HBEL
      obtain ⟨u, y, hu, hrow, hbel⟩ := hrel
      have hr : wr.rowIs g 80 1603 (cdF u.size u.ch y (.string (restOf t (u.n + 4)))) := hrow.out
      have hsw := hide (size0_of (cd_cells hr).1)
      by_cases hsz : u.size < 16777216
      · have huP : u = P ∧ y = x1 := by
          rcases hu.out with h | ⟨h, h2, _⟩
          · exact h
          · rw [h] at hsz; exact absurd hsz (by have := HNOK.out.lo; omega)
        have SW := hide (imp_widen_yes g 80 u.size y u.ch _ wr hsz hr)
        have HT := hide huP
        clear hr huP hrow hu
        go_wp2_with fail
        refine SW.out.mono ?_
        rintro e w1 ⟨rfl, r1, g1⟩
        have ST := hide (imp_take g (256 * u.size) y (u.n + 4) u.ch t w1 hts r1)
        have hb1 := hide (grownBy_trans hbel.out g1)
        clear r1 g1 SW hbel
        go_wp2_with fail
        refine ST.out.mono ?_
        rintro e w2 ⟨rfl, r2, g2⟩
        have hb3 := hide (grownBy_trans hb1.out g2)
        have hs3 := hide (size0_of (cd_cells r2).1)
        have hC3 := hide (show DecP w2 g t (norm P) ((256 * x1 + tbN t (s.n + 4)) % 18446744073709551616) by
          have h := HT.out
          rw [norm, if_pos (by rw [← h.1]; exact hsz), ← HPN.out, ← h.1, ← h.2]; exact r2)
        clear r2 g2 hb1 ST
        go_wp2_with fail
        go_roundw
        case rel => exact ⟨norm P, _, .inr ⟨rfl, by rw [← HT.out.1]; exact hsz, rfl⟩, hC3, hb3⟩
        case measure =>
          rw [hs3.out, hsw.out, if_pos hsz, if_neg (by have h := HNOK.out.lo; rw [norm, if_pos (by rw [← HT.out.1]; exact hsz)] at h; have h' : 16777216 ≤ 256 * P.size := h; rw [← HT.out.1] at h'; omega)]
          omega
      · have hfin := hide (show DecP wr g t (norm P) (if P.size < 16777216 then (256 * x1 + tbN t (s.n + 4)) % 18446744073709551616 else x1) by
          have h0 := hrow.out
          rcases hu.out with ⟨h1, h2⟩ | ⟨h1, h2, h3⟩
          · rw [norm, if_neg (by rw [← h1]; exact hsz), if_neg (by rw [← h1]; exact hsz), ← h1, ← h2]; exact h0
          · rw [if_pos h2, ← h1, ← h3]; exact h0)
        have SW := hide (imp_widen_no g 80 u.size y u.ch _ wr hsz hr)
        clear hr hu hrow
        go_wp2_with fail
        refine SW.out.mono ?_
        rintro e w1 ⟨rfl, rfl⟩
        go_wp2_with fail
        go_ret
        exact ⟨by rw [HBIT.out]; rfl, by rw [HBIT.out]; show DecP _ g t (norm (part1 s c _)) (dx (tbN t) s x c); rw [dx, HBIT.out, ← HPE2.out, ← HX1E.out]; exact hfin.out, hbel.out⟩
end Go.Proofs.YtdoodkabmeojmabDoor
/- The tokens that come out of a code, as a list; what they make. No program is named here. -/
namespace Go.Proofs.YtdoodkabmeojmabDoor
/-- A token, read: it, and the decoder behind it. -/
def dtok (tb : Nat → Nat) (st : RC × Nat) : Tok × (RC × Nat) :=
  if dbit st.1 st.2 0 = true then (⟨0, (((readG tb 300 6 (dnext tb st 0) 1).2 - 64 + 3 : Nat) : Int), (((readG tb 400 10 (readG tb 300 6 (dnext tb st 0) 1).1 1).2 - 1024 + 1 : Nat) : Int)⟩, (readG tb 400 10 (readG tb 300 6 (dnext tb st 0) 1).1 1).1)
  else (⟨(((readG tb 16 8 (dnext tb st 0) 1).2 - 256 : Nat) : Int), 0, 0⟩, (readG tb 16 8 (dnext tb st 0) 1).1)
/-- How many bytes a token makes. -/
def tsz (x : Tok) : Nat := (tokSize x.m).toNat
/-- The tokens, till so many bytes are made. -/
def dtoks (tb : Nat → Nat) (size : Nat) : Nat → RC × Nat → Nat → List Tok
  | 0, _, _ => []
  | k + 1, st, made => if made < size then (dtok tb st).1 :: dtoks tb size k (dtok tb st).2 (made + tsz (dtok tb st).1) else []
/-- What a token makes, behind what is there. -/
def growT (x : Tok) (b : List UInt8) : Option (List UInt8) :=
  if x.m = 0 then some (b ++ [UInt8.ofNat x.b.toNat]) else if b.length < x.f.toNat then none else some (copyN x.f.toNat x.m.toNat b)
def growL : List Tok → List UInt8 → Option (List UInt8)
  | [], b => some b
  | x :: l, b => (growT x b).bind (growL l)
theorem growL_app : ∀ l k b, growL (l ++ k) b = (growL l b).bind (growL k)
  | [], _, _ => rfl
  | x :: l, k, b => by
    show (growT x b).bind (growL (l ++ k)) = ((growT x b).bind (growL l)).bind (growL k)
    cases growT x b with
    | none => rfl
    | some c => exact growL_app l k c
/-- A token that is read: a byte, or a match. -/
theorem dtok_two (tb : Nat → Nat) (st : RC × Nat) : (∃ y : Nat, y < 256 ∧ (dtok tb st).1 = ⟨(y : Int), 0, 0⟩) ∨ ∃ M F : Nat, 3 ≤ M ∧ M ≤ 66 ∧ 1 ≤ F ∧ F ≤ 1024 ∧ (dtok tb st).1 = ⟨0, (M : Int), (F : Int)⟩ := by
  unfold dtok
  split
  · have h1 := (readG_node tb 300 6 (dnext tb st 0) 1).2
    have h2 := (readG_node tb 400 10 (readG tb 300 6 (dnext tb st 0) 1).1 1).2
    have e1 : (1 + 1) * 2 ^ 6 = 128 := rfl
    have e2 : (1 + 1) * 2 ^ 10 = 2048 := rfl
    exact .inr ⟨_, _, by omega, by omega, by omega, by omega, rfl⟩
  · have h1 := (readG_node tb 16 8 (dnext tb st 0) 1).2
    have e1 : (1 + 1) * 2 ^ 8 = 512 := rfl
    exact .inl ⟨_, by omega, rfl⟩
theorem tsz_byte (y : Int) : tsz ⟨y, 0, 0⟩ = 1 := rfl
theorem tsz_match (M F : Nat) (h : 3 ≤ M) : tsz ⟨0, (M : Int), (F : Int)⟩ = M := by
  show (tokSize (M : Int)).toNat = M
  unfold tokSize
  rw [if_neg (by omega)]; omega
theorem growT_byte (y : Nat) (b : List UInt8) : growT ⟨(y : Int), 0, 0⟩ b = some (b ++ [UInt8.ofNat y]) := rfl
theorem growT_match (M F : Nat) (b : List UInt8) (h : 3 ≤ M) : growT ⟨0, (M : Int), (F : Int)⟩ b = if b.length < F then none else some (copyN F M b) := by
  show (if (M : Int) = 0 then _ else if b.length < ((F : Int)).toNat then none else some (copyN ((F : Int)).toNat ((M : Int)).toNat b)) = _
  rw [if_neg (by omega), Int.toNat_natCast, Int.toNat_natCast]
theorem tsz_pos (tb : Nat → Nat) (st : RC × Nat) : 1 ≤ tsz (dtok tb st).1 ∧ tsz (dtok tb st).1 ≤ 66 := by
  rcases dtok_two tb st with ⟨y, _, e⟩ | ⟨M, F, h1, h2, _, _, e⟩
  · rw [e, tsz_byte]; omega
  · rw [e, tsz_match M F h1]; omega
theorem growT_len (tb : Nat → Nat) (st : RC × Nat) (b c : List UInt8) (h : growT (dtok tb st).1 b = some c) : c.length = b.length + tsz (dtok tb st).1 := by
  rcases dtok_two tb st with ⟨y, _, e⟩ | ⟨M, F, h1, h2, _, _, e⟩
  · rw [e, growT_byte] at h
    rw [e, tsz_byte, ← Option.some.inj h, List.length_append]; rfl
  · rw [e, growT_match M F b h1] at h
    split at h
    · cases h
    · rw [e, tsz_match M F h1, ← Option.some.inj h, copyN_len]
/-- All that comes out is what the tokens make. -/
theorem unpack_toks (tb : Nat → Nat) (many : Nat) : ∀ k st b, unpackG tb many k st b = growL (dtoks tb many k st b.length) b
  | 0, _, _ => rfl
  | k + 1, st, b => by
    unfold unpackG dtoks
    by_cases hlt : b.length < many
    · rw [if_pos hlt, if_pos hlt]
      show _ = (growT (dtok tb st).1 b).bind (growL (dtoks tb many k (dtok tb st).2 (b.length + tsz (dtok tb st).1)))
      cases hg : growT (dtok tb st).1 b with
      | none =>
        show _ = none
        by_cases hd : dbit st.1 st.2 0 = true
        · rw [if_pos hd]
          unfold dtok at hg
          rw [if_pos hd] at hg
          rw [growT_match _ _ b (by omega)] at hg
          split at hg
          · rename_i h; rw [if_pos h]
          · cases hg
        · unfold dtok at hg
          rw [if_neg hd] at hg
          rw [growT_byte] at hg; cases hg
      | some c =>
        show _ = growL (dtoks tb many k (dtok tb st).2 (b.length + tsz (dtok tb st).1)) c
        rw [← growT_len tb st b c hg, ← unpack_toks tb many k (dtok tb st).2 c]
        by_cases hd : dbit st.1 st.2 0 = true
        · rw [if_pos hd]
          unfold dtok at hg ⊢
          rw [if_pos hd] at hg ⊢
          rw [growT_match _ _ b (by omega)] at hg
          split at hg
          · cases hg
          · rename_i h
            rw [if_neg h, Option.some.inj hg]
        · rw [if_neg hd]
          unfold dtok at hg ⊢
          rw [if_neg hd] at hg ⊢
          rw [growT_byte] at hg
          rw [Option.some.inj hg]
    · rw [if_neg hlt, if_neg hlt]; rfl
theorem dtok_ok (tb : Nat → Nat) (st : RC × Nat) (m : Nat) (h : DecOk st m) : DecOk (dtok tb st).2 (m + 17) := by
  have h1 := DecOk.next tb st 0 m h
  unfold dtok
  split
  · have h2 := readG_ok tb 300 6 (dnext tb st 0) 1 _ h1
    exact readG_ok tb 400 10 _ 1 _ h2
  · have h2 := readG_ok tb 16 8 (dnext tb st 0) 1 _ h1
    exact ⟨h2.ok, h2.x, Nat.le_trans h2.n (by omega)⟩
end Go.Proofs.YtdoodkabmeojmabDoor
/- The program's below. -/
namespace Go.Proofs.YtdoodkabmeojmabDoor
open Go.RowKit
set_option maxRecDepth 100000 in
set_option maxHeartbeats 400000 in
theorem imp_below (node : Nat) (one : Bool) (w : World) (h : node < 100000) :
    Calls Tryd.prog 71 #[.int .i64 (node : Int), .bool one] w fun e w' => e = .returned (.int .i64 ((2 * node + bN one : Nat) : Int)) ∧ w = w' := by
  cases one with
  | true =>
    have e : ((2 * node + bN true : Nat) : Int) = 2 * (node : Int) + 1 := by show ((2 * node + 1 : Nat) : Int) = _; omega
    rw [e]
    go_enter Tryd.func71, Tryd.ntmps71
    go_wp2_with fail
    go_ret
    exact ⟨rfl, rfl⟩
  | false =>
    have e : ((2 * node + bN false : Nat) : Int) = 2 * (node : Int) := by show ((2 * node + 0 : Nat) : Int) = _; omega
    rw [e]
    go_enter Tryd.func71, Tryd.ntmps71
    go_wp2_with fail
    go_ret
    exact ⟨rfl, rfl⟩
end Go.Proofs.YtdoodkabmeojmabDoor
/- The program's getNum and getToken. -/
namespace Go.Proofs.YtdoodkabmeojmabDoor
open Go.RowKit
theorem DecP.kept {w w' : World} {g x : Nat} {t : ByteArray} {s : RC} (h : DecP w g t s x) (hg : w'.heap[g]? = w.heap[g]?) : DecP w' g t s x := h.of_block hg
theorem DecP.lt {w : World} {g x : Nat} {t : ByteArray} {s : RC} (h : DecP w g t s x) : g < w.heap.size := World.rowIs.lt h
theorem set3_blk (w : World) (g : Nat) (x y z a b c : Value) (t : TypeId) (h : w.heap[g]? = some (.cells #[x, y, z] t)) : (((w.setCell ⟨g, 0, none⟩ a).setCell ⟨g, 1, none⟩ b).setCell ⟨g, 2, none⟩ c).heap[g]? = some (.cells #[a, b, c] t) := by
  simp [World.setCell, Array.getElem?_modify, h]
theorem set3_far (w : World) (g k : Nat) (a b c : Value) (h : k ≠ g) : (((w.setCell ⟨g, 0, none⟩ a).setCell ⟨g, 1, none⟩ b).setCell ⟨g, 2, none⟩ c).heap[k]? = w.heap[k]? := by
  simp [World.setCell, Array.getElem?_modify, Ne.symm h]
theorem grownBy_set3 {w w1 : World} {r : Option Nat} (h : w.grownBy w1 r) (g : Nat) (hg : w.heap.size ≤ g) (a b c : Value) : w.grownBy (((w1.setCell ⟨g, 0, none⟩ a).setCell ⟨g, 1, none⟩ b).setCell ⟨g, 2, none⟩ c) r :=
  ⟨h.os, h.tape, h.output, by have := h.size; simpa [World.setCell] using this, fun k hk hne => (set3_far w1 g k a b c (by omega)).trans (h.block k hk hne)⟩
set_option maxRecDepth 100000 in
set_option maxHeartbeats 800000 in
theorem imp_getNum (g many base m P2 : Nat) (t : ByteArray) (st : RC × Nat) (w : World) (hP : P2 = 2 ^ many) (hm : many ≤ 10) (hb : base ≤ 400) (hok : DecOk st m) (hts : t.size ≤ 9223372036854775807) (hdec : DecP w g t st.1 st.2) :
    Calls Tryd.prog 62 #[.pointer (some ⟨g, 0, none⟩), .int .i64 (base : Int), .int .i64 (many : Int)] w fun e w' => e = .returned (.int .i64 (((readG (tbN t) base many st 1).2 - P2 : Nat) : Int)) ∧ DecP w' g t (readG (tbN t) base many st 1).1.1 (readG (tbN t) base many st 1).1.2 ∧ w.grownBy w' (some g) := by
  have hP1024 : P2 ≤ 1024 := by rw [hP]; exact Nat.le_trans (Nat.pow_le_pow_right (by omega) hm) (by decide)
  have hn1 := readG_node (tbN t) base many st 1
  rw [← hP] at hn1
  obtain ⟨R, hR⟩ : ∃ R, R = readG (tbN t) base many st 1 := ⟨_, rfl⟩
  rw [← hR] at hn1 ⊢
  have HR := hide hR
  have HD := hide hdec
  have HPP := hide hP
  clear hR hdec hP
  go_enter Tryd.func62, Tryd.ntmps62
  go_wp2_with fail
  go_loopw [7, 9] (fun nd i wx => ∃ (k node : Nat) (s : RC × Nat), k ≤ many ∧ node < 2 ^ (k + 1) ∧ i = .int .i64 (k : Int) ∧ nd = .int .i64 (node : Int) ∧ Hid (readG (tbN t) base (many - k) s node = R) ∧ Hid (DecOk s (m + k)) ∧ Hid (DecP wx g t s.1 s.2) ∧ Hid (w.grownBy wx (some g))) (fun _ i _ => many - (intOf i).toNat)
  case atStart => exact ⟨0, 1, st, Nat.zero_le _, by decide, rfl, rfl, HR.out.symm, hok, HD, World.grownBy.refl _ _⟩
  case round =>
    clear HD
    obtain ⟨k, node, s, hk, hnd, rfl, rfl, hre, hso, hd, htw⟩ := hrel
    have hnode : node < 2048 := Nat.lt_of_lt_of_le hnd (Nat.le_trans (Nat.pow_le_pow_right (by omega) (show k + 1 ≤ 11 by omega)) (by decide))
    by_cases hlt : k < many
    · have hlt' : (k : Int) < (many : Int) := by omega
      have hnode2 : node < 1024 := Nat.lt_of_lt_of_le hnd (Nat.le_trans (Nat.pow_le_pow_right (by omega) (show k + 1 ≤ 10 by omega)) (by decide))
      obtain ⟨c, hc⟩ : ∃ c, c = base + node := ⟨_, rfl⟩
      have s1 : (base : Int) + (node : Int) = (c : Int) := by omega
      have SB := hide (imp_get g c s.2 t s.1 wr hso.out.ok (by omega) hso.out.x hts hd.out)
      obtain ⟨bit, hbit⟩ : ∃ b, b = dbit s.1 s.2 c := ⟨_, rfl⟩
      have HRE := hide (show readG (tbN t) base (many - (k + 1)) (dnext (tbN t) s c) (2 * node + bN bit) = R by
        rw [← hre.out, show many - k = (many - (k + 1)) + 1 by omega, hbit, hc]; rfl)
      have HSO := hide (DecOk.next (tbN t) s c (m + k) hso.out)
      have HND := hide (show 2 * node + bN bit < 2 ^ (k + 1 + 1) by
        have := bN_le bit
        rw [Nat.pow_succ]; omega)
      rw [← hbit] at SB
      have HDE := hide (show dnext (tbN t) s c = (step s.1 c bit, dx (tbN t) s.1 s.2 c) by unfold dnext; rw [← hbit])
      have hcb : (c : Int) ≤ 2000 := by omega
      have hnb : (node : Int) ≤ 1024 := by omega
      clear hbit hc hre hso hd hnd
      go_wp2_with fail
      refine SB.out.mono ?_
      rintro e w2 ⟨rfl, hd2, ht2⟩
      have HD2 := hide (show DecP w2 g t (dnext (tbN t) s c).1 (dnext (tbN t) s c).2 by rw [HDE.out]; exact hd2)
      have HT2 := hide (grownBy_trans htw.out ht2)
      clear hd2 ht2 htw SB HDE
      go_wp2_with fail
      refine (imp_below node bit w2 (by omega)).mono ?_
      rintro e w3 ⟨rfl, rfl⟩
      obtain ⟨nn, hnn⟩ : ∃ nn, nn = 2 * node + bN bit := ⟨_, rfl⟩
      rw [← hnn] at HRE HND ⊢
      clear hnn
      go_wp2_with fail
      go_roundw
      case rel => exact ⟨k + 1, nn, dnext (tbN t) s c, by omega, HND.out, by go_num, rfl, HRE, HSO, HD2, HT2⟩
      case measure => simp [intOf]; omega
    · have hlt' : ¬ (k : Int) < (many : Int) := by omega
      have hkm : k = many := by omega
      have e := hre.out
      rw [hkm, Nat.sub_self] at e
      have e2 : R = (s, node) := e.symm
      have HD2 := hide (show DecP wr g t R.1.1 R.1.2 by rw [e2]; exact hd.out)
      have hn2 : R.2 = node := by rw [e2]
      rw [hn2] at hn1
      have HN2 := hide hn2
      clear e e2 hre hso hd hnd hn2
      have e1 : (2 : Int) ^ many = (P2 : Int) := by rw [HPP.out]; simp
      obtain ⟨d, hd⟩ : ∃ d, d = node - P2 := ⟨_, rfl⟩
      have e3 : (node : Int) - (P2 : Int) = (d : Int) := by omega
      have hdb : (d : Int) ≤ 2048 := by omega
      have hpb : (P2 : Int) ≤ 1024 := by omega
      have hnb : (node : Int) ≤ 2048 := by omega
      have HDD := hide hd
      clear hd hkm
      go_wp2_with fail
      go_ret
      exact ⟨by rw [HN2.out, ← HDD.out]; rfl, HD2.out, htw.out⟩
set_option maxRecDepth 100000 in
set_option maxHeartbeats 1600000 in
theorem imp_getToken (g m : Nat) (t : ByteArray) (st : RC × Nat) (w : World) (hok : DecOk st m) (hts : t.size ≤ 9223372036854775807) (hdec : DecP w g t st.1 st.2) :
    Calls Tryd.prog 46 #[.pointer (some ⟨g, 0, none⟩)] w fun e w' => e = .returned (tokV (dtok (tbN t) st).1) ∧ DecP w' g t (dtok (tbN t) st).2.1 (dtok (tbN t) st).2.2 ∧ w.grownBy w' (some g) := by
  obtain ⟨z, hz⟩ : ∃ z, z = w.heap.size := ⟨_, rfl⟩
  have hgl := hdec.lt
  have hgz : g < z := by omega
  have q1 : (w.alloc (.cells #[.int .i64 0, .int .i64 0, .int .i64 0] 72)).heap[z]? = some (.cells #[.int .i64 0, .int .i64 0, .int .i64 0] 72) := by rw [hz]; exact heap_alloc_new w _
  have s1 : (w.alloc (.cells #[.int .i64 0, .int .i64 0, .int .i64 0] 72)).heap.size = z + 1 := by simp [hz]
  have d1 : DecP (w.alloc (.cells #[.int .i64 0, .int .i64 0, .int .i64 0] 72)) g t st.1 st.2 := hdec.kept (Below.heap_alloc _ _ _ hgl)
  have g1 : w.grownBy (w.alloc (.cells #[.int .i64 0, .int .i64 0, .int .i64 0] 72)) (some g) := grownBy_alloc (World.grownBy.refl _ _) _
  have SB := hide (imp_get g 0 st.2 t st.1 (w.alloc (.cells #[.int .i64 0, .int .i64 0, .int .i64 0] 72)) hok.ok (by omega) hok.x hts d1)
  have HK2 := hide (DecOk.next (tbN t) st 0 _ hok)
  have HZ := hide hz
  have H1 := hide (And.intro q1 (And.intro s1 g1))
  obtain ⟨bit, hbit⟩ : ∃ b, b = dbit st.1 st.2 0 := ⟨_, rfl⟩
  rw [← hbit] at SB
  have HDE := hide (show dnext (tbN t) st 0 = (step st.1 0 bit, dx (tbN t) st.1 st.2 0) by unfold dnext; rw [← hbit])
  have HTK := hide (show dtok (tbN t) st = if bit = true then (⟨0, (((readG (tbN t) 300 6 (dnext (tbN t) st 0) 1).2 - 64 + 3 : Nat) : Int), (((readG (tbN t) 400 10 (readG (tbN t) 300 6 (dnext (tbN t) st 0) 1).1 1).2 - 1024 + 1 : Nat) : Int)⟩, (readG (tbN t) 400 10 (readG (tbN t) 300 6 (dnext (tbN t) st 0) 1).1 1).1)
  else (⟨(((readG (tbN t) 16 8 (dnext (tbN t) st 0) 1).2 - 256 : Nat) : Int), 0, 0⟩, (readG (tbN t) 16 8 (dnext (tbN t) st 0) 1).1) by rw [hbit]; rfl)
  clear hz q1 s1 d1 g1 hdec hbit hok
  go_enter Tryd.func46, Tryd.ntmps46
  go_wp2_with fail
  refine SB.out.mono ?_
  rw [← HZ.out]
  obtain ⟨q1, s1, g1⟩ := H1.out
  generalize w.alloc (.cells #[.int .i64 0, .int .i64 0, .int .i64 0] 72) = W1 at *
  rintro e w2 ⟨rfl, hd2, ht2⟩
  have HD2 := hide (show DecP w2 g t (dnext (tbN t) st 0).1 (dnext (tbN t) st 0).2 by rw [HDE.out]; exact hd2)
  have hs2 := ht2.size
  have q2 := hide ((ht2.block z (by omega) (fun e => by cases e; omega)).trans q1)
  have G2 := hide (grownBy_trans g1 ht2)
  clear hd2 ht2 SB HDE q1 g1 H1
  cases bit with
  | false =>
    have SR := hide (imp_getNum g 8 16 (m + 1) 256 t (dnext (tbN t) st 0) w2 rfl (by omega) (by omega) HK2.out hts HD2.out)
    have hnn := readG_node (tbN t) 16 8 (dnext (tbN t) st 0) 1
    have HT2 := hide (show dtok (tbN t) st = (⟨(((readG (tbN t) 16 8 (dnext (tbN t) st 0) 1).2 - 256 : Nat) : Int), 0, 0⟩, (readG (tbN t) 16 8 (dnext (tbN t) st 0) 1).1) by rw [HTK.out]; rfl)
    obtain ⟨R, hR⟩ : ∃ R, R = readG (tbN t) 16 8 (dnext (tbN t) st 0) 1 := ⟨_, rfl⟩
    rw [← hR] at SR hnn HT2
    obtain ⟨y, hy⟩ : ∃ y, y = R.2 - 256 := ⟨_, rfl⟩
    rw [← hy] at SR HT2
    have hy8 : y < 256 := by have h1 := hnn.2; have e : (1 + 1) * 2 ^ 8 = 512 := rfl; omega
    clear hR hy hnn HK2 HD2 HTK
    go_wp2_with fail
    refine SR.out.mono ?_
    rintro e w3 ⟨rfl, hd3, ht3⟩
    have hs3 := ht3.size
    have q3 := (ht3.block z (by omega) (fun e => by cases e; omega)).trans q2.out
    have c0 : w3.cell? ⟨z, 0, none⟩ = some (.int .i64 0) := by simp [World.cell?, q3]
    have c1 : w3.cell? ⟨z, 1, none⟩ = some (.int .i64 0) := by simp [World.cell?, q3]
    have c2 : w3.cell? ⟨z, 2, none⟩ = some (.int .i64 0) := by simp [World.cell?, q3]
    have f0 : w3.frozen? ⟨z, 0, none⟩ = false := by simp [World.frozen?, q3]
    have f1 : w3.frozen? ⟨z, 1, none⟩ = false := by simp [World.frozen?, q3]
    have f2 : w3.frozen? ⟨z, 2, none⟩ = false := by simp [World.frozen?, q3]
    have HD3 := hide hd3
    have G3 := hide (grownBy_trans G2.out ht3)
    have Q3 := hide q3
    clear hd3 ht3 SR q2 G2 q3
    go_wp2_with fail
    have fin := set3_blk w3 z _ _ _ (.int .i64 (y : Int)) (.int .i64 0) (.int .i64 0) _ Q3.out
    have HDX := HD3.out.kept (set3_far w3 z g (.int .i64 (y : Int)) (.int .i64 0) (.int .i64 0) (by omega))
    have HGX := grownBy_set3 G3.out z (by rw [HZ.out]; exact Nat.le_refl _) (.int .i64 (y : Int)) (.int .i64 0) (.int .i64 0)
    rw [HT2.out]
    exact bodyPost_ret (results_cell_row Tryd.results46 _ _ z 72 #[.int .i64 (y : Int), .int .i64 0, .int .i64 0] (0, 0) _ rfl fin Tryd.underlying72 rfl (by kernel_rfl)) rfl ⟨rfl, HDX, HGX⟩
  | true =>
    have SR := hide (imp_getNum g 6 300 (m + 1) 64 t (dnext (tbN t) st 0) w2 rfl (by omega) (by omega) HK2.out hts HD2.out)
    have hnn := readG_node (tbN t) 300 6 (dnext (tbN t) st 0) 1
    have HK3 := hide (readG_ok (tbN t) 300 6 (dnext (tbN t) st 0) 1 _ HK2.out)
    have HT2 := hide (show dtok (tbN t) st = (⟨0, (((readG (tbN t) 300 6 (dnext (tbN t) st 0) 1).2 - 64 + 3 : Nat) : Int), (((readG (tbN t) 400 10 (readG (tbN t) 300 6 (dnext (tbN t) st 0) 1).1 1).2 - 1024 + 1 : Nat) : Int)⟩, (readG (tbN t) 400 10 (readG (tbN t) 300 6 (dnext (tbN t) st 0) 1).1 1).1) by rw [HTK.out]; rfl)
    obtain ⟨R, hR⟩ : ∃ R, R = readG (tbN t) 300 6 (dnext (tbN t) st 0) 1 := ⟨_, rfl⟩
    rw [← hR] at SR hnn HT2 HK3
    obtain ⟨y, hy⟩ : ∃ y, y = R.2 - 64 := ⟨_, rfl⟩
    rw [← hy] at SR HT2
    have hy6 : y < 64 := by have h1 := hnn.2; have e : (1 + 1) * 2 ^ 6 = 128 := rfl; omega
    obtain ⟨M, hM⟩ : ∃ M, M = y + 3 := ⟨_, rfl⟩
    rw [← hM] at HT2
    have hyw : (y : Int) + (3 : Int) = (M : Int) := by omega
    have hyw2 : IntKind.i64.wrap ((y : Int) + (3 : Int)) = (M : Int) := by rw [IntKind.wrap_i64]; omega
    have hM66 : (M : Int) ≤ 66 := by omega
    clear hR hy hnn HK2 HD2 HTK hM
    go_wp2_with fail
    refine SR.out.mono ?_
    rintro e w3 ⟨rfl, hd3, ht3⟩
    have hs3 := ht3.size
    have q3 := hide ((ht3.block z (by omega) (fun e => by cases e; omega)).trans q2.out)
    have G3 := hide (grownBy_trans G2.out ht3)
    have SR2 := hide (imp_getNum g 10 400 _ 1024 t R.1 w3 rfl (by omega) (by omega) HK3.out hts hd3)
    have hnn := readG_node (tbN t) 400 10 R.1 1
    obtain ⟨R2, hR⟩ : ∃ R2, R2 = readG (tbN t) 400 10 R.1 1 := ⟨_, rfl⟩
    rw [← hR] at SR2 hnn HT2
    obtain ⟨f, hf⟩ : ∃ f, f = R2.2 - 1024 := ⟨_, rfl⟩
    rw [← hf] at SR2 HT2
    have hf10 : f < 1024 := by have h1 := hnn.2; have e : (1 + 1) * 2 ^ 10 = 2048 := rfl; omega
    obtain ⟨F, hF⟩ : ∃ F, F = f + 1 := ⟨_, rfl⟩
    rw [← hF] at HT2
    have hfw : (f : Int) + (1 : Int) = (F : Int) := by omega
    have hfw2 : IntKind.i64.wrap ((f : Int) + (1 : Int)) = (F : Int) := by rw [IntKind.wrap_i64]; omega
    have hF1024 : (F : Int) ≤ 1024 := by omega
    clear hF hR hf hnn SR HK3 hd3 ht3 q2 G2
    go_wp2_with fail
    refine SR2.out.mono ?_
    rintro e w4 ⟨rfl, hd4, ht4⟩
    have hs4 := ht4.size
    have q4 := (ht4.block z (by omega) (fun e => by cases e; omega)).trans q3.out
    have c0 : w4.cell? ⟨z, 0, none⟩ = some (.int .i64 0) := by simp [World.cell?, q4]
    have c1 : w4.cell? ⟨z, 1, none⟩ = some (.int .i64 0) := by simp [World.cell?, q4]
    have c2 : w4.cell? ⟨z, 2, none⟩ = some (.int .i64 0) := by simp [World.cell?, q4]
    have f0 : w4.frozen? ⟨z, 0, none⟩ = false := by simp [World.frozen?, q4]
    have f1 : w4.frozen? ⟨z, 1, none⟩ = false := by simp [World.frozen?, q4]
    have f2 : w4.frozen? ⟨z, 2, none⟩ = false := by simp [World.frozen?, q4]
    have HD4 := hide hd4
    have G4 := hide (grownBy_trans G3.out ht4)
    have Q3 := hide q4
    clear hd4 ht4 SR2 q3 G3 q4
    go_wp2_with fail
    have fin := set3_blk w4 z _ _ _ (.int .i64 0) (.int .i64 (M : Int)) (.int .i64 (F : Int)) _ Q3.out
    have HDX := HD4.out.kept (set3_far w4 z g (.int .i64 0) (.int .i64 (M : Int)) (.int .i64 (F : Int)) (by omega))
    have HGX := grownBy_set3 G4.out z (by rw [HZ.out]; exact Nat.le_refl _) (.int .i64 0) (.int .i64 (M : Int)) (.int .i64 (F : Int))
    rw [HT2.out]
    exact bodyPost_ret (results_cell_row Tryd.results46 _ _ z 72 #[.int .i64 0, .int .i64 (M : Int), .int .i64 (F : Int)] (0, 0) _ rfl fin Tryd.underlying72 rfl (by kernel_rfl)) rfl ⟨rfl, HDX, HGX⟩
end Go.Proofs.YtdoodkabmeojmabDoor

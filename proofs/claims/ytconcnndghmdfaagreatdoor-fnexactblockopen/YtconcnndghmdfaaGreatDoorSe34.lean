/- Put together: RngS, RngA. -/
import Derived.Test.YtconcnndghmdfaaGreatDoorSe33
import Derived.Test.YtconcnndghmdfaaGreatDoorSe13
namespace Go.Proofs.YtconcnndghmdfaaGreatDoor
open Go.RowKit
/-- A coder of the program at work. -/
def CodP (w : World) (base g size : Nat) (ch : Nat → Nat) (low n : Nat) : Prop :=
  ∃ ov, w.rowIs g 112 1603 (cdF size ch (low % 4294967296) ov) ∧ ownB w base ov n (byN n (low / 4294967296)) ∧ ov.ownBlock ≠ some g
set_option maxRecDepth 100000 in
set_option maxHeartbeats 1600000 in
theorem imp_shiftK (base g size low nn : Nat) (ch : Nat → Nat) (ov : Value) (w : World) (hnb : nn ≤ 100000) (hbg : base ≤ g) (hr : w.rowIs g 112 1603 (cdF size ch (low % 4294967296) ov)) (ho : ownB w base ov nn (byN nn (low / 4294967296))) (hd1 : ov.ownBlock ≠ some g) :
    Calls Tryz.prog 89 #[.pointer (some ⟨g, 0, none⟩)] w fun e w' => e = .returned (.tuple #[]) ∧ (∃ ov', w'.rowIs g 112 1603 (cdF size ch (256 * low % 4294967296) ov') ∧ ownB w' base ov' (nn + 1) (byN (nn + 1) (256 * low / 4294967296)) ∧ ov'.ownBlock ≠ some g ∧ ∀ k, ov'.ownBlock = some k → ov.ownBlock = some k ∨ w.heap.size ≤ k) ∧ Below base w w' ∧ ∀ k, k < w.heap.size → k ≠ g → ov.ownBlock ≠ some k → w'.heap[k]? = w.heap[k]? := by
  obtain ⟨l, hl⟩ : ∃ l, l = low % 4294967296 := ⟨_, rfl⟩
  rw [← hl] at hr
  obtain ⟨_, c1, c0, _⟩ := cd_cells hr
  have f0 := hr.frozen 1602
  have hl32 : l < 4294967296 := by omega
  obtain ⟨b, hb⟩ : ∃ b : UInt8, b = UInt8.ofNat (l / 16777216) := ⟨_, rfl⟩
  have hbn : b.toNat = l / 16777216 := by rw [hb, UInt8.toNat_ofNat']; omega
  obtain ⟨y, hy⟩ : ∃ y, y = l / 16777216 := ⟨_, rfl⟩
  have m1 : (l : Int) / 16777216 = (y : Int) := by omega
  have m2 : IntKind.u8.wrap (y : Int) = (y : Int) := by rw [IntKind.wrap_u8]; omega
  have hy8 : (y : Int) ≤ 255 := by omega
  obtain ⟨i0, hi0, hz0, hz1, hz2⟩ := info_parts Tryz.infoB8r
  have HT := hide (And.intro hl (And.intro hbn hy))
  clear hl hb hbn hy
  go_enter Tryz.func89, Tryz.ntmps89
  go_wp2_with fail
  refine wp_region_held_drew (S := fun w' => w'.cell? ⟨g, 1601, none⟩ = some (.int .u64 (l : Nat))) (by kernel_rfl) c1 (fun hHeld => ?_)
  refine takeD (i := 0) (v := .pointer (some ⟨g, 0, none⟩)) (some 2) rfl rfl (by kernel_rfl) (by kernel_rfl) (by kernel_rfl) (fun _ _ _ h => h) (Or.inl ⟨by rfl, fun w hSw => by go_simp⟩) hHeld ?_
  simp only [Act.put, List.setIfInBounds_toArray, List.set_cons_zero, List.set_cons_succ]
  refine takeD (i := 1) (v := .pointer (some ⟨g, 0, none⟩)) (some 3) rfl rfl (by kernel_rfl) (by kernel_rfl) (by kernel_rfl) (fun _ _ _ h => h) (Or.inl ⟨by rfl, fun w hSw => by go_simp⟩) hHeld ?_
  simp only [Act.put, List.setIfInBounds_toArray, List.set_cons_zero, List.set_cons_succ]
  refine takeD (i := 2) (v := .pointer (some ⟨g, 0, none⟩)) (some 4) rfl rfl (by kernel_rfl) (by kernel_rfl) (by kernel_rfl) (fun _ _ _ h => h) (Or.inl ⟨by rfl, fun w hSw => by go_simp⟩) hHeld ?_
  simp only [Act.put, List.setIfInBounds_toArray, List.set_cons_zero, List.set_cons_succ]
  refine takeD (i := 3) (v := .pointer (some ⟨g, 1602, none⟩)) (some 5) rfl rfl (by kernel_rfl) (by kernel_rfl) (by kernel_rfl) (fun _ _ _ h => h) (Or.inl ⟨by rfl, fun w hSw => by go_simp⟩) hHeld ?_
  simp only [Act.put, List.setIfInBounds_toArray, List.set_cons_zero, List.set_cons_succ]
  refine takeD (i := 5) (v := .pointer (some ⟨g, 0, none⟩)) (some 7) rfl rfl (by kernel_rfl) (by kernel_rfl) (by kernel_rfl) (fun _ _ _ h => h) (Or.inl ⟨by rfl, fun w hSw => by go_simp⟩) hHeld ?_
  simp only [Act.put, List.setIfInBounds_toArray, List.set_cons_zero, List.set_cons_succ]
  refine takeD (i := 6) (v := .pointer (some ⟨g, 0, none⟩)) (some 8) rfl rfl (by kernel_rfl) (by kernel_rfl) (by kernel_rfl) (fun _ _ _ h => h) (Or.inl ⟨by rfl, fun w hSw => by go_simp⟩) hHeld ?_
  simp only [Act.put, List.setIfInBounds_toArray, List.set_cons_zero, List.set_cons_succ]
  refine takeD (i := 7) (v := .pointer (some ⟨g, 1601, none⟩)) (some 9) rfl rfl (by kernel_rfl) (by kernel_rfl) (by kernel_rfl) (fun _ _ _ h => h) (Or.inl ⟨by rfl, fun w hSw => by go_simp⟩) hHeld ?_
  simp only [Act.put, List.setIfInBounds_toArray, List.set_cons_zero, List.set_cons_succ]
  refine takeD (i := 8) (v := .int .u64 (l : Int)) (some 10) rfl rfl (by kernel_rfl) (by kernel_rfl) (by kernel_rfl) (fun _ _ _ h => h) (Or.inl ⟨by rfl, fun w hSw => by go_simp⟩) hHeld ?_
  simp only [Act.put, List.setIfInBounds_toArray, List.set_cons_zero, List.set_cons_succ]
  refine takeD (i := 9) (v := .int .u64 (y : Int)) (some 11) rfl rfl (by kernel_rfl) (by kernel_rfl) (by kernel_rfl) (fun _ _ _ h => h) (Or.inl ⟨by rfl, fun w hSw => by go_simp⟩) hHeld ?_
  simp only [Act.put, List.setIfInBounds_toArray, List.set_cons_zero, List.set_cons_succ]
  refine takeD (i := 10) (v := .int .u8 (y : Int)) (some 12) rfl rfl (by kernel_rfl) (by kernel_rfl) (by kernel_rfl) (fun _ _ _ h => h) (Or.inl ⟨by rfl, fun w hSw => by go_simp⟩) hHeld ?_
  simp only [Act.put, List.setIfInBounds_toArray, List.set_cons_zero, List.set_cons_succ]
  have ra := hr.drew.alloc (.cells #[.int .u8 (y : Int)] 5)
  have ca0 : (w.drew.alloc (.cells #[.int .u8 (y : Int)] 5)).cell? ⟨g, 1602, none⟩ = some ov := (cd_cells ra).2.2.1
  have ca1 : (w.drew.alloc (.cells #[.int .u8 (y : Int)] 5)).cell? ⟨g, 1601, none⟩ = some (.int .u64 (l : Nat)) := (cd_cells ra).2.1
  have oa := World.ownsRow.alloc (World.ownsRow.drew ho) (.cells #[.int .u8 (y : Int)] 5)
  have hba := (Below.refl base w).drew.alloc (show base ≤ w.drew.heap.size by have := hr.lt; exact Nat.le_trans hbg (Nat.le_of_lt this)) (.cells #[.int .u8 (y : Int)] 5)
  have AA := hide (And.intro oa hba)
  have KA := hide (show ∀ k, k < w.heap.size → (w.drew.alloc (.cells #[.int .u8 (y : Int)] 5)).heap[k]? = w.heap[k]? from fun k hk => Below.heap_alloc w.drew _ k hk)
  have hglt := hr.lt
  clear oa hba
  refine wpAnyH_ready (rs := [4, 11]) (by kernel_rfl) (by simp) ?_
  refine AllReadyH.cons rfl (fun KK hK => ?_) (AllReadyH.cons rfl (fun KK hK => ?_) AllReadyH.nil)
  · go_simp
    refine hK.out _ _ c1 (fun hHeld => ?_)
    clear hK KK
    refine wpAnyH_ready (rs := [11]) (by kernel_rfl) (by simp) ?_
    refine AllReadyH.cons rfl (fun KK hK => ?_) AllReadyH.nil
    go_simp
    refine hK.out _ _ ca1 (fun hHeld => ?_)
    clear hK KK
    refine wpAnyH_ready (rs := [12]) (by kernel_rfl) (by simp) ?_
    refine AllReadyH.cons rfl (fun KK hK => ?_) AllReadyH.nil
    refine step_append_D _ (some 14) rfl rfl (.tmp 6) (.tmp 13) 22 rfl base 5 i0 (.int .u8 0) 1 1 Tryz.underlying22 hi0 hz0 hz1 hz2 rfl (by omega) ov nn _ rfl AA.out.1 ⟨w.heap.size, 0, none⟩ 1 1 [.int .u8 (y : Int)] rfl rfl (one_cell w.drew _ _) (one_oneCell .u8 _) (by omega) (by unfold maxLen; omega) (by omega) (by simp; omega) (w.heap.size + 1) (by simp) ?_
    intro g' cap' w2 hown' hgr' hat' hlt'
    have r2 := ra.of_block (hgr'.block g (by simp; omega) (fun e => hd1 e.symm))
    simp only [Act.put, List.setIfInBounds_toArray, List.set_cons_zero, List.set_cons_succ]
    refine hK.out _ _ (cd_cells r2).2.1 (fun hHeld => ?_)
    clear hK KK
    refine takeD (i := 13) (v := .pointer (some ⟨g, 0, none⟩)) (some 15) rfl rfl (by kernel_rfl) (by kernel_rfl) (by kernel_rfl) (fun _ _ _ h => h) (Or.inl ⟨by rfl, fun w hSw => by go_simp⟩) hHeld ?_
    simp only [Act.put, List.setIfInBounds_toArray, List.set_cons_zero, List.set_cons_succ]
    refine takeD (i := 14) (v := .pointer (some ⟨g, 1602, none⟩)) (some 16) rfl rfl (by kernel_rfl) (by kernel_rfl) (by kernel_rfl) (fun _ _ _ h => h) (Or.inl ⟨by rfl, fun w hSw => by go_simp⟩) hHeld ?_
    simp only [Act.put, List.setIfInBounds_toArray, List.set_cons_zero, List.set_cons_succ]
    have c20 := (cd_cells r2).2.2.1
    have f20 := r2.frozen 1602
    refine wpAnyH_ready (rs := [15]) (by kernel_rfl) (by simp) ?_
    refine AllReadyH.cons rfl (fun KK hK => ?_) AllReadyH.nil
    go_simp
    have r3 := (cd_set r2).2.2.1 (.slice (some ⟨g', 0, none⟩) (nn + 1) cap')
    refine hK.out _ _ (cd_cells r3).2.1 (fun hHeld => ?_)
    clear hK KK
    refine wpAnyH_done (by kernel_rfl) ?_ _
    have hg'g : (Value.slice (some ⟨g', 0, none⟩) (nn + 1) cap').ownBlock ≠ some g := by
      intro e
      have e1 : g' = g := by simpa [Value.ownBlock] using e
      rcases hat' with h | h
      · exact hd1 (by rw [h, e1])
      · omega
    have ho3 := (ownB_snoc b (y := y) (by have := HT.out; omega) hown').far (g := g) (k := 1602) (x := .slice (some ⟨g', 0, none⟩) (nn + 1) cap') hg'g
    have hb3 := (AA.out.2.grown hgr' (by simp; omega) (fun x hx => (World.ownsRow.lt AA.out.1 x hx).1)).setCell (p := ⟨g, 1602, none⟩) hbg (.slice (some ⟨g', 0, none⟩) (nn + 1) cap')
    have KB := hide (show ∀ k, k < w.heap.size → k ≠ g → ov.ownBlock ≠ some k → (w2.setCell ⟨g, 1602, none⟩ (.slice (some ⟨g', 0, none⟩) (nn + 1) cap')).heap[k]? = w.heap[k]? from fun k h1 h2 h3 => by
      rw [Below.heap_setCell _ _ _ _ h2]
      exact (hgr'.block k (by simp; omega) (fun e => h3 e.symm)).trans (KA.out k h1))
    have KC := hide (show ∀ k, (Value.slice (some ⟨g', 0, none⟩) (nn + 1) cap').ownBlock = some k → ov.ownBlock = some k ∨ w.heap.size ≤ k from fun k hk => by
      obtain rfl : g' = k := by simpa [Value.ownBlock] using hk
      rcases hat' with h | h
      · exact .inl h
      · exact .inr (by omega))
    obtain ⟨l2, hl2⟩ : ∃ x, x = 256 * l % 4294967296 := ⟨_, rfl⟩
    have a1 : bits .and .u64 ((l : Int) * 256) 4294967295 = (l2 : Int) := by
      have h := and64 (256 * l) (by omega)
      rw [show ((256 * l : Nat) : Int) = (l : Int) * 256 by omega] at h
      rw [h, hl2]
    have HLZ := hide hl2
    clear hl2 hown' hgr' hat' hlt' c20 f20 r2 AA ra ca0 ca1 c0 c1 f0 hr ho m1 m2
    generalize w2.setCell ⟨g, 1602, none⟩ (.slice (some ⟨g', 0, none⟩) (nn + 1) cap') = W3 at *
    have d1 := (cd_cells r3).2.1
    have e1 := r3.frozen 1601
    go_wp2_with fail
    go_end0
    refine ⟨rfl, ⟨_, ?_, ?_, hg'g, KC.out⟩, hb3.setCell (p := ⟨g, 1601, none⟩) hbg _, fun k h1 h2 h3 => by rw [Below.heap_setCell _ _ _ _ h2]; exact KB.out k h1 h2 h3⟩
    · rw [(low_shift low).2, ← HT.out.1, ← HLZ.out]
      exact (cd_set r3).2.1 l2
    · rw [(low_shift low).1, ← HT.out.1, ← HT.out.2.1]
      refine (ho3.far (g := g) (k := 1601) hg'g).congr (fun j hj => ?_)
      rw [byN_snoc nn _ b j hj]
  · go_simp
    refine hK.out _ _ ca1 (fun hHeld => ?_)
    clear hK KK
    refine wpAnyH_ready (rs := [4]) (by kernel_rfl) (by simp) ?_
    refine AllReadyH.cons rfl (fun KK hK => ?_) AllReadyH.nil
    go_simp
    refine hK.out _ _ ca1 (fun hHeld => ?_)
    clear hK KK
    refine wpAnyH_ready (rs := [12]) (by kernel_rfl) (by simp) ?_
    refine AllReadyH.cons rfl (fun KK hK => ?_) AllReadyH.nil
    refine step_append_D _ (some 14) rfl rfl (.tmp 6) (.tmp 13) 22 rfl base 5 i0 (.int .u8 0) 1 1 Tryz.underlying22 hi0 hz0 hz1 hz2 rfl (by omega) ov nn _ rfl AA.out.1 ⟨w.heap.size, 0, none⟩ 1 1 [.int .u8 (y : Int)] rfl rfl (one_cell w.drew _ _) (one_oneCell .u8 _) (by omega) (by unfold maxLen; omega) (by omega) (by simp; omega) (w.heap.size + 1) (by simp) ?_
    intro g' cap' w2 hown' hgr' hat' hlt'
    have r2 := ra.of_block (hgr'.block g (by simp; omega) (fun e => hd1 e.symm))
    simp only [Act.put, List.setIfInBounds_toArray, List.set_cons_zero, List.set_cons_succ]
    refine hK.out _ _ (cd_cells r2).2.1 (fun hHeld => ?_)
    clear hK KK
    refine takeD (i := 13) (v := .pointer (some ⟨g, 0, none⟩)) (some 15) rfl rfl (by kernel_rfl) (by kernel_rfl) (by kernel_rfl) (fun _ _ _ h => h) (Or.inl ⟨by rfl, fun w hSw => by go_simp⟩) hHeld ?_
    simp only [Act.put, List.setIfInBounds_toArray, List.set_cons_zero, List.set_cons_succ]
    refine takeD (i := 14) (v := .pointer (some ⟨g, 1602, none⟩)) (some 16) rfl rfl (by kernel_rfl) (by kernel_rfl) (by kernel_rfl) (fun _ _ _ h => h) (Or.inl ⟨by rfl, fun w hSw => by go_simp⟩) hHeld ?_
    simp only [Act.put, List.setIfInBounds_toArray, List.set_cons_zero, List.set_cons_succ]
    have c20 := (cd_cells r2).2.2.1
    have f20 := r2.frozen 1602
    refine wpAnyH_ready (rs := [15]) (by kernel_rfl) (by simp) ?_
    refine AllReadyH.cons rfl (fun KK hK => ?_) AllReadyH.nil
    go_simp
    have r3 := (cd_set r2).2.2.1 (.slice (some ⟨g', 0, none⟩) (nn + 1) cap')
    refine hK.out _ _ (cd_cells r3).2.1 (fun hHeld => ?_)
    clear hK KK
    refine wpAnyH_done (by kernel_rfl) ?_ _
    have hg'g : (Value.slice (some ⟨g', 0, none⟩) (nn + 1) cap').ownBlock ≠ some g := by
      intro e
      have e1 : g' = g := by simpa [Value.ownBlock] using e
      rcases hat' with h | h
      · exact hd1 (by rw [h, e1])
      · omega
    have ho3 := (ownB_snoc b (y := y) (by have := HT.out; omega) hown').far (g := g) (k := 1602) (x := .slice (some ⟨g', 0, none⟩) (nn + 1) cap') hg'g
    have hb3 := (AA.out.2.grown hgr' (by simp; omega) (fun x hx => (World.ownsRow.lt AA.out.1 x hx).1)).setCell (p := ⟨g, 1602, none⟩) hbg (.slice (some ⟨g', 0, none⟩) (nn + 1) cap')
    have KB := hide (show ∀ k, k < w.heap.size → k ≠ g → ov.ownBlock ≠ some k → (w2.setCell ⟨g, 1602, none⟩ (.slice (some ⟨g', 0, none⟩) (nn + 1) cap')).heap[k]? = w.heap[k]? from fun k h1 h2 h3 => by
      rw [Below.heap_setCell _ _ _ _ h2]
      exact (hgr'.block k (by simp; omega) (fun e => h3 e.symm)).trans (KA.out k h1))
    have KC := hide (show ∀ k, (Value.slice (some ⟨g', 0, none⟩) (nn + 1) cap').ownBlock = some k → ov.ownBlock = some k ∨ w.heap.size ≤ k from fun k hk => by
      obtain rfl : g' = k := by simpa [Value.ownBlock] using hk
      rcases hat' with h | h
      · exact .inl h
      · exact .inr (by omega))
    obtain ⟨l2, hl2⟩ : ∃ x, x = 256 * l % 4294967296 := ⟨_, rfl⟩
    have a1 : bits .and .u64 ((l : Int) * 256) 4294967295 = (l2 : Int) := by
      have h := and64 (256 * l) (by omega)
      rw [show ((256 * l : Nat) : Int) = (l : Int) * 256 by omega] at h
      rw [h, hl2]
    have HLZ := hide hl2
    clear hl2 hown' hgr' hat' hlt' c20 f20 r2 AA ra ca0 ca1 c0 c1 f0 hr ho m1 m2
    generalize w2.setCell ⟨g, 1602, none⟩ (.slice (some ⟨g', 0, none⟩) (nn + 1) cap') = W3 at *
    have d1 := (cd_cells r3).2.1
    have e1 := r3.frozen 1601
    go_wp2_with fail
    go_end0
    refine ⟨rfl, ⟨_, ?_, ?_, hg'g, KC.out⟩, hb3.setCell (p := ⟨g, 1601, none⟩) hbg _, fun k h1 h2 h3 => by rw [Below.heap_setCell _ _ _ _ h2]; exact KB.out k h1 h2 h3⟩
    · rw [(low_shift low).2, ← HT.out.1, ← HLZ.out]
      exact (cd_set r3).2.1 l2
    · rw [(low_shift low).1, ← HT.out.1, ← HT.out.2.1]
      refine (ho3.far (g := g) (k := 1601) hg'g).congr (fun j hj => ?_)
      rw [byN_snoc nn _ b j hj]
theorem imp_shift (base g size low nn : Nat) (ch : Nat → Nat) (w : World) (hnb : nn ≤ 100000) (hbg : base ≤ g) (hcod : CodP w base g size ch low nn) :
    Calls Tryz.prog 89 #[.pointer (some ⟨g, 0, none⟩)] w fun e w' => e = .returned (.tuple #[]) ∧ CodP w' base g size ch (256 * low) (nn + 1) ∧ Below base w w' := by
  obtain ⟨ov, hr, ho, hd1⟩ := hcod
  exact (imp_shiftK base g size low nn ch ov w hnb hbg hr ho hd1).mono fun e w' ⟨h1, ⟨ov', h2, h3, h4, _⟩, h6, _⟩ => ⟨h1, ⟨ov', h2, h3, h4⟩, h6⟩
end Go.Proofs.YtconcnndghmdfaaGreatDoor
namespace Go.Proofs.YtconcnndghmdfaaGreatDoor
open Go.RowKit
theorem add_carry {low b n : Nat} (h : low + b < 4294967296 * 256 ^ n) (hc : 4294967296 ≤ low % 4294967296 + b) (hb : b ≤ 4294967295) : 0 < n ∧ (low + b) / 4294967296 = low / 4294967296 + 1 ∧ low / 4294967296 + 1 < 256 ^ n ∧ (low + b) % 4294967296 = (low % 4294967296 + b) % 4294967296 := by
  have h2 : (low + b) / 4294967296 = low / 4294967296 + 1 := by omega
  have h3 : low / 4294967296 + 1 < 256 ^ n := by
    rw [← h2]
    exact (Nat.div_lt_iff_lt_mul (by decide)).2 (by rw [Nat.mul_comm]; exact h)
  refine ⟨?_, h2, h3, by omega⟩
  rcases Nat.eq_zero_or_pos n with h0 | h0
  · subst h0; rw [Nat.pow_zero] at h3; omega
  · exact h0
set_option maxRecDepth 100000 in
set_option maxHeartbeats 800000 in
theorem imp_addK (base g size low n b : Nat) (ch : Nat → Nat) (w : World) (hn2 : n ≤ 100000) (hb : b ≤ 4294967295) (hfit : low + b < 4294967296 * 256 ^ n) (hbg : base ≤ g) (ov : Value) (hr : w.rowIs g 112 1603 (cdF size ch (low % 4294967296) ov)) (ho : ownB w base ov n (byN n (low / 4294967296))) (hd1 : ov.ownBlock ≠ some g) :
    Calls Tryz.prog 117 #[.pointer (some ⟨g, 0, none⟩), .int .u64 (b : Int)] w fun e w' => e = .returned (.tuple #[]) ∧ (w'.rowIs g 112 1603 (cdF size ch ((low + b) % 4294967296) ov) ∧ ownB w' base ov n (byN n ((low + b) / 4294967296))) ∧ Below base w w' ∧ ∀ k, k < w.heap.size → k ≠ g → ov.ownBlock ≠ some k → w'.heap[k]? = w.heap[k]? := by
  obtain ⟨l, hl⟩ : ∃ l, l = low % 4294967296 := ⟨_, rfl⟩
  rw [← hl] at hr
  have c1 := (cd_cells hr).2.1
  have f1 := hr.frozen 1601
  obtain ⟨m, hm⟩ : ∃ m, m = l + b := ⟨_, rfl⟩
  have k1 : (l : Int) + (b : Int) = (m : Int) := by omega
  have k2 : IntKind.u64.wrap ((l : Int) + (b : Int)) = (m : Int) := by rw [IntKind.wrap_u64]; omega
  have k3 : IntKind.u64.wrap (m : Int) = (m : Int) := by rw [IntKind.wrap_u64]; omega
  have hm3 : (m : Int) ≤ 8589934592 := by omega
  have R1 := (cd_set hr).2.1 m
  have O1 := ho.far (g := g) (k := 1601) (x := .int .u64 (m : Int)) hd1
  have B1 := (Below.refl base w).setCell (p := ⟨g, 1601, none⟩) hbg (.int .u64 (m : Int))
  have K1 : ∀ v k, k < w.heap.size → k ≠ g → (w.setCell ⟨g, 1601, none⟩ v).heap[k]? = w.heap[k]? := fun v k _ hk => Below.heap_setCell _ _ _ _ hk
  have d1 := (cd_cells R1).2.1
  have e1 := R1.frozen 1601
  have KK := hide K1
  clear K1
  by_cases hc : 4294967296 ≤ m
  · have hc' : (4294967295 : Int) < (m : Int) := by omega
    obtain ⟨q1, q2, q3, q4⟩ := add_carry hfit (show 4294967296 ≤ low % 4294967296 + b by omega) hb
    obtain ⟨go, cap, rfl, hgo, _⟩ := ho.form q1
    have hne : go ≠ g := fun e => hd1 (by rw [e]; rfl)
    obtain ⟨m2, hm2⟩ : ∃ x, x = m % 4294967296 := ⟨_, rfl⟩
    have a1 : bits .and .u64 (m : Int) 4294967295 = (m2 : Int) := by rw [and64 m (by omega), hm2]
    have R2 := (cd_set R1).2.1 m2
    have O2 := O1.far (g := g) (k := 1601) (x := .int .u64 (m2 : Int)) hd1
    have B2 := B1.setCell (p := ⟨g, 1601, none⟩) hbg (.int .u64 (m2 : Int))
    have HL := hide (show (low + b) % 4294967296 = m2 by rw [q4, ← hl, ← hm, hm2])
    have HV := hide q2
    have H := hide (And.intro R2 (And.intro O2 B2))
    clear hm hm2 hl R2 O2 B2 q4 q2 R1 O1 B1 hr ho
    go_enter Tryz.func117, Tryz.ntmps117
    go_wp2_with fail
    refine (imp_carry base g go n cap m2 size (low / 4294967296) ch _ q1 hn2 q3 H.out.1 H.out.2.1 hne).mono ?_
    rintro e w3 ⟨rfl, ho3, hg3⟩
    go_wp2_with fail
    go_end0
    refine ⟨rfl, ⟨?_, ?_⟩, ?_, fun k h1 h2 h3 => ?_⟩
    · rw [HL.out]
      exact H.out.1.of_block (hg3.block g H.out.1.lt (by simpa using fun e => hne e.symm))
    · rw [HV.out]; exact ho3
    · exact H.out.2.2.trans (grownBy_below hg3 hgo (Nat.le_trans hbg (Nat.le_of_lt H.out.1.lt)))
    · refine (hg3.block k (by simpa [World.setCell] using h1) (fun e => h3 (by rw [e]; rfl))).trans ?_
      rw [Below.heap_setCell _ _ _ _ h2]; exact KK.out _ k h1 h2
  · have hc' : ¬ (4294967295 : Int) < (m : Int) := by omega
    have HL := hide (show (low + b) % 4294967296 = m by omega)
    have HV := hide (show (low + b) / 4294967296 = low / 4294967296 by omega)
    have H := hide (And.intro R1 (And.intro O1 B1))
    clear hm hl R1 O1 B1 hr ho
    go_enter Tryz.func117, Tryz.ntmps117
    go_wp2_with fail
    go_end0
    exact ⟨rfl, ⟨by rw [HL.out]; exact H.out.1, by rw [HV.out]; exact H.out.2.1⟩, H.out.2.2, fun k h1 h2 _ => KK.out _ k h1 h2⟩
end Go.Proofs.YtconcnndghmdfaaGreatDoor

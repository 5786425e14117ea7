/- The walk over the model's DiskNew. -/
import Derived.Test.YtipeelkmmjgehabDskG
import Derived.Test.YtipeelkmmjgehabOwnConv
namespace Go.Proofs.Ytipeelkmmjgehab
open Go Go.RowKit
/-- A sector of zeros. -/
def blankS : ByteArray := ⟨(List.replicate 64 (0 : UInt8)).toArray⟩
/-- How many sectors a new disk has. -/
def newN (s : Int) : Nat := if s ≤ 620 then s.toNat else 0
set_option maxRecDepth 100000 in
set_option maxHeartbeats 1600000 in
theorem spec_diskNew (s : Int) (w : World) :
    Calls Try.prog 61 #[.int .i64 s] w fun e w' => ∃ o, e = .returned o ∧ (∀ A X, dskV w' o w.heap.size w'.heap.size (newN s) (sC fun _ => blankS) 0 (wF A X)) ∧ Below w.heap.size w w' := by
  obtain ⟨is, his, hzs0, hzs1, hzs2⟩ := info_parts Try.infoStr
  have z0 : Below w.heap.size w ((w.alloc (.cells #[.slice none 0 0, .slice none 0 0] 26)).alloc (.cells #[.slice none 0 0, .slice none 0 0] 26)) := ((Below.refl _ w).alloc (Nat.le_refl _) _).alloc (by simp) _
  have z1 : ((w.alloc (.cells #[.slice none 0 0, .slice none 0 0] 26)).alloc (.cells #[.slice none 0 0, .slice none 0 0] 26)).heap[w.heap.size]? = some (.cells #[.slice none 0 0, .slice none 0 0] 26) := (Below.heap_alloc _ _ _ (by simp)).trans (heap_alloc_new _ _)
  have z2 : ((w.alloc (.cells #[.slice none 0 0, .slice none 0 0] 26)).alloc (.cells #[.slice none 0 0, .slice none 0 0] 26)).heap[w.heap.size + 1]? = some (.cells #[.slice none 0 0, .slice none 0 0] 26) := by have := heap_alloc_new (w.alloc (.cells #[.slice none 0 0, .slice none 0 0] 26)) (.cells #[.slice none 0 0, .slice none 0 0] 26); rwa [World.size_alloc] at this
  have ZZ := hide (And.intro z0 (And.intro z1 z2))
  clear z0 z1 z2
  by_cases h : 620 < s
  · have hE : newN s = 0 := if_neg (by omega)
    rw [hE]
    clear hE
    go_enter Try.func61, Try.ntmps61
    go_wp2_with fail
    obtain ⟨z0, z1, z2⟩ := ZZ.out
    exact bodyPost_ret (results_cell_row Try.results61 _ _ w.heap.size 26 #[.slice none 0 0, .slice none 0 0] (0, 0) _ rfl z1 Try.underlying26 rfl (by kernel_rfl)) rfl ⟨_, rfl, fun A X => ⟨_, _, rfl, ⟨none, 0, rfl, Nat.le_refl _, .inl rfl⟩, ⟨none, 0, rfl, Nat.le_refl _, .inl rfl⟩, (fun k hk => by cases hk), (fun k hk => by cases hk), (fun k hk => by cases hk)⟩, z0⟩
  · have h' : s ≤ 620 := by omega
    have hE : newN s = s.toNat := if_pos h'
    rw [hE]
    clear hE
    obtain ⟨n, hn⟩ : ∃ n, n = s.toNat := ⟨_, rfl⟩
    rw [← hn]
    have hn6 : n ≤ 620 := by omega
    have hlts : ∀ k : Nat, (k : Int) < s ↔ k < n := fun k => by omega
    have HL := hide hlts
    have hmk : ∀ w : World, (Instr.makeSlice 22 (.int .i64 64) (.int .i64 64)).run Try.prog w = .ok (.slice (some ⟨w.heap.size, 0, none⟩) 64 64) (w.alloc (.cells (madeCells #[.int .u8 0] 64) 5)) := run_make_row' (P := Try.prog) 22 5 (.int .u8 0) 1 Try.underlying22 (by kernel_rfl) rfl .i64 .i64 64 (by omega) (by omega)
    have hcv := own_conv (P := Try.prog) (w := ((w.alloc (.cells #[.slice none 0 0, .slice none 0 0] 26)).alloc (.cells #[.slice none 0 0, .slice none 0 0] 26)).alloc (.cells (madeCells #[.int .u8 0] 64) 5)) (base := ((w.alloc (.cells #[.slice none 0 0, .slice none 0 0] 26)).alloc (.cells #[.slice none 0 0, .slice none 0 0] 26)).heap.size) (e := 5) (v := .slice (some ⟨((w.alloc (.cells #[.slice none 0 0, .slice none 0 0] 26)).alloc (.cells #[.slice none 0 0, .slice none 0 0] 26)).heap.size, 0, none⟩) 64 64) (l := List.replicate 64 (0 : UInt8)) (by
      have h := World.ownsRow_lit (e := 5) (size := 1) (base := ((w.alloc (.cells #[.slice none 0 0, .slice none 0 0] 26)).alloc (.cells #[.slice none 0 0, .slice none 0 0] 26)).heap.size) ((w.alloc (.cells #[.slice none 0 0, .slice none 0 0] 26)).alloc (.cells #[.slice none 0 0, .slice none 0 0] 26)) (madeCells #[.int .u8 0] 64) 64 (Nat.le_refl _) (by unfold maxLen; omega) (by rw [size_madeCells])
      rw [made_bytes] at h
      rw [List.length_replicate]; exact h) Try.underlying22 Try.underlying5 Try.underlying9
    obtain ⟨X0, hX0⟩ : ∃ X : ByteArray, X = blankS := ⟨_, rfl⟩
    have hXb : (⟨(List.replicate 64 (0 : UInt8)).toArray⟩ : ByteArray) = X0 := hX0.symm
    rw [hXb] at hcv
    rw [show ((w.alloc (.cells #[.slice none 0 0, .slice none 0 0] 26)).alloc (.cells #[.slice none 0 0, .slice none 0 0] 26)).heap.size = w.heap.size + 1 + 1 by simp] at hcv
    have HX0 := hide hX0
    clear hX0 hXb hn hlts h
    go_enter Try.func61, Try.ntmps61
    go_wp2_with fail
    clear hmk hcv
    obtain ⟨z0, z1, z2⟩ := ZZ.out
    have y0 : Below w.heap.size w (((w.alloc (.cells #[.slice none 0 0, .slice none 0 0] 26)).alloc (.cells #[.slice none 0 0, .slice none 0 0] 26)).alloc (.cells (madeCells #[.int .u8 0] 64) 5)) := z0.alloc z0.size _
    have y1 : (((w.alloc (.cells #[.slice none 0 0, .slice none 0 0] 26)).alloc (.cells #[.slice none 0 0, .slice none 0 0] 26)).alloc (.cells (madeCells #[.int .u8 0] 64) 5)).heap[w.heap.size]? = some (.cells #[.slice none 0 0, .slice none 0 0] 26) := (Below.heap_alloc _ _ _ (by simp; omega)).trans z1
    have y2 : (((w.alloc (.cells #[.slice none 0 0, .slice none 0 0] 26)).alloc (.cells #[.slice none 0 0, .slice none 0 0] 26)).alloc (.cells (madeCells #[.int .u8 0] 64) 5)).heap[w.heap.size + 1]? = some (.cells #[.slice none 0 0, .slice none 0 0] 26) := (Below.heap_alloc _ _ _ (by simp)).trans z2
    have y3 : (((w.alloc (.cells #[.slice none 0 0, .slice none 0 0] 26)).alloc (.cells #[.slice none 0 0, .slice none 0 0] 26)).alloc (.cells (madeCells #[.int .u8 0] 64) 5)).heap.size = w.heap.size + 3 := by simp
    generalize ((w.alloc (.cells #[.slice none 0 0, .slice none 0 0] 26)).alloc (.cells #[.slice none 0 0, .slice none 0 0] 26)).alloc (.cells (madeCells #[.int .u8 0] 64) 5) = W3 at *
    have Y := hide (And.intro y0 (And.intro y1 y2))
    clear z0 z1 z2 y0 y1 y2 ZZ
    go_loopw [5] (fun i wx => ∃ (k : Nat) (a : Option Addr) (c : Nat), k ≤ n ∧ i = .int .i64 k ∧ Hid (wx.ownsRow (w.heap.size + 3) 9 1 (.slice a k c) k (sL (fun _ => X0) k)) ∧ Hid (wx.heap[w.heap.size]? = some (.cells #[.slice none 0 0, .slice none 0 0] 26) ∧ wx.heap[w.heap.size + 1]? = some (.cells #[.slice a k c, .slice none 0 0] 26) ∧ Below w.heap.size w wx) ∧ w.heap.size + 3 ≤ wx.heap.size) (fun i _ => n - (intOf i).toNat)
    case atStart => exact ⟨0, none, 0, Nat.zero_le _, rfl, World.ownsRow_nil _ _ _ _, ⟨Y.out.2.1, Y.out.2.2, Y.out.1⟩, by omega⟩
    case round =>
      obtain ⟨k, a, c, hk, rfl, hown, hst, hsz⟩ := hrel
      have c0 : wr.cell? ⟨w.heap.size + 1, 0, none⟩ = some (.slice a k c) := by simp [World.cell?, hst.out.2.1]
      have c1 : wr.cell? ⟨w.heap.size + 1, 1, none⟩ = some (.slice none 0 0) := by simp [World.cell?, hst.out.2.1]
      by_cases hlt : k < n
      · have hlt' : (k : Int) < s := (HL.out k).2 hlt
        have hlt2 : decide ((k : Int) < s) = true := decide_eq_true hlt'
        go_wp2_with (at_builtin; refine wpList_append_any _ rfl _ _ 23 rfl (w.heap.size + 3) 9 is (.string ⟨#[]⟩) 1 16 Try.underlying23 his hzs0 hzs1 hzs2 rfl (by decide) (.slice a k c) k _ rfl (hown.out.alloc _) (some ⟨wr.heap.size, 0, none⟩) 1 1 [.string X0] rfl rfl (.inr ⟨_, rfl, one_cell _ _ _⟩) (by intro u hu; simp at hu; subst hu; rfl) (by unfold maxLen; omega) (by omega) (by simp; omega) ?_)
        intro v1 w1 o1 g1 t1
        obtain ⟨a1, k1, ea⟩ := own_slice o1
        subst ea
        have nb : ∀ b, b < w.heap.size + 3 → some b ≠ (Value.slice a k c).ownBlock := fun b h1 h2 => by have := (hown.out.lt b h2.symm).1; omega
        have r0 : w1.heap[w.heap.size]? = some (.cells #[.slice none 0 0, .slice none 0 0] 26) := ((g1.block w.heap.size (by simp; omega) (nb _ (by omega))).trans (Below.heap_alloc _ _ _ (by omega))).trans hst.out.1
        have r1 : w1.heap[w.heap.size + 1]? = some (.cells #[.slice a k c, .slice none 0 0] 26) := ((g1.block (w.heap.size + 1) (by simp; omega) (nb _ (by omega))).trans (Below.heap_alloc _ _ _ (by omega))).trans hst.out.2.1
        have bw : Below w.heap.size w w1 := (hst.out.2.2.alloc hst.out.2.2.size _).grown g1 (by simp; omega) (fun k hk => by have := (hown.out.lt k hk).1; omega)
        have d0 : w1.cell? ⟨w.heap.size + 1, 0, none⟩ = some (.slice a k c) := by simp [World.cell?, r1]
        have f0 : w1.frozen? ⟨w.heap.size + 1, 0, none⟩ = false := by simp [World.frozen?, r1]
        have hs1 : wr.heap.size + 1 ≤ w1.heap.size := by have := g1.size; simpa using this
        have R1 := hide (show (w1.setCell ⟨w.heap.size + 1, 0, none⟩ (.slice a1 (k + 1) k1)).ownsRow (w.heap.size + 3) 9 1 (.slice a1 (k + 1) k1) (k + 1) (sL (fun _ => X0) (k + 1)) from own_of_block (by
          have e : sL (fun _ => X0) (k + 1) = sL (fun _ => X0) k ++ [.string X0] := by simp [sL, List.range_succ, sC]
          rw [e]; exact o1) (fun b hb => set1_o _ _ _ _ _ (by have := (o1.lt b hb).1; omega)))
        have R2 := hide (show (w1.setCell ⟨w.heap.size + 1, 0, none⟩ (.slice a1 (k + 1) k1)).heap[w.heap.size]? = some (.cells #[.slice none 0 0, .slice none 0 0] 26) ∧ (w1.setCell ⟨w.heap.size + 1, 0, none⟩ (.slice a1 (k + 1) k1)).heap[w.heap.size + 1]? = some (.cells #[.slice a1 (k + 1) k1, .slice none 0 0] 26) ∧ Below w.heap.size w (w1.setCell ⟨w.heap.size + 1, 0, none⟩ (.slice a1 (k + 1) k1)) from ⟨(set1_o _ _ _ _ _ (by omega)).trans r0, by simp [World.setCell, Array.getElem?_modify, r1], below_set bw _ 0 (by omega) _⟩)
        have R3 : w.heap.size + 3 ≤ (w1.setCell ⟨w.heap.size + 1, 0, none⟩ (.slice a1 (k + 1) k1)).heap.size := by simp [World.setCell]; omega
        clear o1 g1 t1 hown hst r0 r1 bw c0 c1 nb
        go_wp2_with fail
        go_roundw
        case rel => exact ⟨k + 1, a1, k1, by omega, by go_num, R1, R2, R3⟩
        case measure => simp [intOf]; omega
      · have hlt' : ¬ (k : Int) < s := fun h => hlt ((HL.out k).1 h)
        have hlt2 : decide ((k : Int) < s) = false := decide_eq_false hlt'
        have hkn : k = n := by omega
        subst hkn
        have b0 : wr.cell? ⟨w.heap.size, 0, none⟩ = some (.slice none 0 0) := by simp [World.cell?, hst.out.1]
        have b1 : wr.cell? ⟨w.heap.size, 1, none⟩ = some (.slice none 0 0) := by simp [World.cell?, hst.out.1]
        have f0 : wr.frozen? ⟨w.heap.size, 0, none⟩ = false := by simp [World.frozen?, hst.out.1]
        have f1 : wr.frozen? ⟨w.heap.size, 1, none⟩ = false := by simp [World.frozen?, hst.out.1]
        go_wp2_with fail
        have u1 : ((wr.setCell ⟨w.heap.size, 0, none⟩ (.slice a k c)).setCell ⟨w.heap.size, 1, none⟩ (.slice none 0 0)).heap[w.heap.size]? = some (.cells #[.slice a k c, .slice none 0 0] 26) := by simp [World.setCell, Array.getElem?_modify, hst.out.1]
        have u2 : ((wr.setCell ⟨w.heap.size, 0, none⟩ (.slice a k c)).setCell ⟨w.heap.size, 1, none⟩ (.slice none 0 0)).heap.size = wr.heap.size := by simp [World.setCell]
        have n1 : ∀ b, (Value.slice a k c).ownBlock = some b → b ≠ w.heap.size := fun b hb => by have := (hown.out.lt b hb).1; omega
        have u4 : valM 1 ((wr.setCell ⟨w.heap.size, 0, none⟩ (.slice a k c)).setCell ⟨w.heap.size, 1, none⟩ (.slice none 0 0)) (.slice a k c) k (sC fun _ => blankS) := by
          rw [← HX0.out]; exact ((own_val1 hown.out).set1 _ _ _ n1).set1 _ _ _ n1
        have u6 : Below w.heap.size w ((wr.setCell ⟨w.heap.size, 0, none⟩ (.slice a k c)).setCell ⟨w.heap.size, 1, none⟩ (.slice none 0 0)) := below_set (below_set hst.out.2.2 _ 0 (Nat.le_refl _) _) _ 1 (Nat.le_refl _) _
        generalize ((wr.setCell ⟨w.heap.size, 0, none⟩ (.slice a k c)).setCell ⟨w.heap.size, 1, none⟩ (.slice none 0 0)) = w9 at *
        exact bodyPost_ret (results_cell_row Try.results61 _ _ w.heap.size 26 #[.slice a k c, .slice none 0 0] (0, 0) _ rfl u1 Try.underlying26 rfl (by kernel_rfl)) rfl ⟨_, rfl, fun A X => ⟨_, _, rfl, u4, ⟨none, 0, rfl, Nat.le_refl _, .inl rfl⟩, (fun b hb => by have := hown.out.lt b hb; omega), (fun b hb => by cases hb), (fun b hb e => by cases e)⟩, u6⟩
end Go.Proofs.Ytipeelkmmjgehab

/- The walk over the program's copied (written by mkdkc.py). -/
import Derived.Test.YtipeelkmmjgehabDskC
import Derived.Test.YtipeelkmmjgehabDskV
import Derived.Test.YtipeelkmmjgehabDkJ
import Derived.Test.YtipeelkmmjgehabTill
namespace Go.Proofs.Ytipeelkmmjgehab
open Go Go.RowKit
theorem wL_more (A : Nat → Int) (X : Nat → ByteArray) (n : Nat) : wL A X (n + 1) = wL A X n ++ [.int .i64 (A n), .string (X n)] := by
  unfold wL
  rw [show (n + 1) * 2 = n * 2 + 1 + 1 by omega, List.range_succ, List.range_succ, List.map_append, List.map_append, List.append_assoc]
  have h1 : n * 2 / 2 = n := by omega
  have h2 : (n * 2 + 1) / 2 = n := by omega
  have h3 : (n * 2 + 1) % 2 = 1 := by omega
  simp [wF, cWr, h1, h2, h3]
theorem sL_snoc (S : Nat → ByteArray) (k : Nat) : sL S (k + 1) = sL S k ++ [.string (S k)] := by simp [sL, List.range_succ, sC]
set_option maxRecDepth 100000 in
set_option maxHeartbeats 3200000 in
theorem imp_copiedO (v : Value) (nS : Nat) (S : Nat → ByteArray) (nC : Nat) (A : Nat → Int) (X : Nat → ByteArray) (w : World) (hS : nS ≤ 1048576) (hC : nC ≤ 1048576) (hSs : ∀ j, j < nS → (S j).size ≤ 1048576) (hXs : ∀ j, j < nC → (X j).size ≤ 1048576) (h : dskI w w.heap.size v nS S nC A X) :
    Calls Try.prog 40 #[v] w fun e w' => ∃ sv cv, e = .returned (.agg #[sv, cv]) ∧ w'.ownsRow w.heap.size 9 1 sv nS (sL S nS) ∧ w'.ownsRow w.heap.size 70 2 cv nC (wL A X nC) ∧ apartV sv cv ∧ Below w.heap.size w w' := by
  obtain ⟨is, his, hzs0, hzs1, hzs2⟩ := info_parts Try.infoStr
  obtain ⟨iw, hiw, hzw0, hzw1, hzw2⟩ := info_parts Try.infoWr
  obtain ⟨sv, cv, rfl, ⟨sa, sk, rfl, hsk, hs⟩, ⟨ca, ck, rfl, hck, hc⟩⟩ := h
  have HS := hide hs
  have HC := hide hc
  have HZ := hide (And.intro hSs hXs)
  clear hs hc hSs hXs
  have hsk' : (nS : Int) ≤ (sk : Int) := by omega
  have hck' : (nC : Int) ≤ (ck : Int) := by omega
  have q0 : Below w.heap.size w (((w.alloc (.cells #[.slice sa nS sk, .slice ca nC ck] 26)).alloc (.cells #[.slice none 0 0, .slice none 0 0] 26)).alloc (.cells #[.slice none 0 0, .slice none 0 0] 26)) := (((Below.refl _ w).alloc (Nat.le_refl _) _).alloc (by simp) _).alloc (by simp; omega) _
  have q1 : (((w.alloc (.cells #[.slice sa nS sk, .slice ca nC ck] 26)).alloc (.cells #[.slice none 0 0, .slice none 0 0] 26)).alloc (.cells #[.slice none 0 0, .slice none 0 0] 26)).heap[w.heap.size]? = some (.cells #[.slice sa nS sk, .slice ca nC ck] 26) := ((Below.heap_alloc _ _ _ (by simp; omega)).trans (Below.heap_alloc _ _ _ (by simp))).trans (heap_alloc_new _ _)
  have q2 : (((w.alloc (.cells #[.slice sa nS sk, .slice ca nC ck] 26)).alloc (.cells #[.slice none 0 0, .slice none 0 0] 26)).alloc (.cells #[.slice none 0 0, .slice none 0 0] 26)).heap[w.heap.size + 1]? = some (.cells #[.slice none 0 0, .slice none 0 0] 26) := (Below.heap_alloc _ _ _ (by simp)).trans (by have := heap_alloc_new (w.alloc (.cells #[.slice sa nS sk, .slice ca nC ck] 26)) (.cells #[.slice none 0 0, .slice none 0 0] 26); rwa [World.size_alloc] at this)
  have q3 : (((w.alloc (.cells #[.slice sa nS sk, .slice ca nC ck] 26)).alloc (.cells #[.slice none 0 0, .slice none 0 0] 26)).alloc (.cells #[.slice none 0 0, .slice none 0 0] 26)).heap[w.heap.size + 2]? = some (.cells #[.slice none 0 0, .slice none 0 0] 26) := by have := heap_alloc_new ((w.alloc (.cells #[.slice sa nS sk, .slice ca nC ck] 26)).alloc (.cells #[.slice none 0 0, .slice none 0 0] 26)) (.cells #[.slice none 0 0, .slice none 0 0] 26); rwa [World.size_alloc, World.size_alloc] at this
  have qs : (((w.alloc (.cells #[.slice sa nS sk, .slice ca nC ck] 26)).alloc (.cells #[.slice none 0 0, .slice none 0 0] 26)).alloc (.cells #[.slice none 0 0, .slice none 0 0] 26)).heap.size = w.heap.size + 3 := by simp
  have Q := hide (And.intro q1 (And.intro q2 (And.intro q3 q0)))
  clear q0 q1 q2 q3
  go_enter Try.func40, Try.ntmps40
  go_wp2_with fail
  generalize (((w.alloc (.cells #[.slice sa nS sk, .slice ca nC ck] 26)).alloc (.cells #[.slice none 0 0, .slice none 0 0] 26)).alloc (.cells #[.slice none 0 0, .slice none 0 0] 26)) = W3_ at *
  go_loopw [11] (fun i wx => ∃ (k : Nat) (a : Option Addr) (c : Nat), k ≤ nS ∧ i = .int .i64 k ∧ Hid (wx.ownsRow (w.heap.size + 3) 9 1 (.slice a k c) k (sL S k)) ∧ Hid (wx.heap[w.heap.size]? = W3_.heap[w.heap.size]? ∧ wx.heap[w.heap.size + 1]? = some (.cells #[.slice none 0 0, .slice none 0 0] 26) ∧ wx.heap[w.heap.size + 2]? = some (.cells #[.slice a k c, .slice none 0 0] 26) ∧ Below w.heap.size w wx) ∧ w.heap.size + 3 ≤ wx.heap.size) (fun i _ => nS - (intOf i).toNat)
  case atStart => exact ⟨0, none, 0, Nat.zero_le _, rfl, World.ownsRow_nil _ _ _ _, ⟨rfl, Q.out.2.1, Q.out.2.2.1, Q.out.2.2.2⟩, by omega⟩
  case round =>
    obtain ⟨k, sa2, sk2, hk, rfl, hown, hst, hsz⟩ := hrel
    by_cases hlt : k < nS
    · have hlt' : (k : Int) < (nS : Int) := by omega
      obtain h00 | ⟨r, o, rfl, hr, hcells⟩ := HS.out
      · omega
      obtain ⟨x, hx⟩ : ∃ x, x = S k := ⟨_, rfl⟩
      have y : wr.cell? ⟨r, o + k, none⟩ = some (.string x) := by rw [hx]; exact (hst.out.2.2.2.cell (p := ⟨r, o + k, none⟩) hr).trans (hcells k hlt)
      have hxs : x.size ≤ 1048576 := by rw [hx]; exact HZ.out.1 k hlt
      have HX := hide hx
      clear hcells hx
      go_wp2_with fail
      have SA : ∀ u : World, Below wr.heap.size wr u → u.cell? ⟨w.heap.size + 2, 0, none⟩ = some (.slice sa2 k sk2) := fun u hu => by
        have hb := (hu.block (w.heap.size + 2) (by omega)).trans hst.out.2.2.1
        simp [World.cell?, hb]
      have b0 : Below wr.heap.size wr wr.drew := (Below.refl _ _).drew
      refine wp_region_till (S := fun u => u.cell? ⟨w.heap.size + 2, 0, none⟩ = some (.slice sa2 k sk2)) 8 (by kernel_rfl) (SA _ b0) (fun hHeld => ?_)
      refine takeT (i := 0) [1, 6, 8] (v := .pointer (some ⟨w.heap.size + 2, 0, none⟩)) (some 15) rfl rfl (by kernel_rfl) (by kernel_rfl) (by kernel_rfl) (by kernel_rfl) (fun _ _ _ h => h) (Or.inl ⟨by rfl, fun w hSw => by go_simp⟩) hHeld ?_
      simp only [Act.put, List.setIfInBounds_toArray, List.set_cons_zero, List.set_cons_succ]
      refine takeT (i := 1) [6, 8] (v := .slice sa2 k sk2) (some 16) rfl rfl (by kernel_rfl) (by kernel_rfl) (by kernel_rfl) (by kernel_rfl) (fun _ _ _ h => h) (Or.inl ⟨by rfl, fun w hSw => by go_simp⟩) hHeld ?_
      simp only [Act.put, List.setIfInBounds_toArray, List.set_cons_zero, List.set_cons_succ]
      refine takeT (i := 2) [3, 4, 5, 6, 8] (v := .string x) (some 17) rfl rfl (by kernel_rfl) (by kernel_rfl) (by kernel_rfl) (by kernel_rfl) (fun _ _ _ h => h) (Or.inl ⟨by rfl, fun w hSw => by go_simp⟩) hHeld ?_
      simp only [Act.put, List.setIfInBounds_toArray, List.set_cons_zero, List.set_cons_succ]
      generalize hWd : wr.drew = W at *
      have hW0 := b0.size
      refine oneT (i := 3) (by kernel_rfl) rfl (fun KK hK => ?_)
      go_simp
      have b1 : Below wr.heap.size wr (W.alloc (.cells #[.string x] 9)) := b0.alloc b0.size _
      have l1 : (W.alloc (.cells #[.string x] 9)).cell? ⟨W.heap.size, 0, none⟩ = some (.string x) := by go_simp
      generalize hg1 : W.alloc (.cells #[.string x] 9) = W1 at *
      have hW1 := b1.size
      refine hK.out _ _ (SA _ b1) (fun hHeld => ?_)
      clear hK KK
      refine oneT (i := 4) (by kernel_rfl) rfl (fun KK hK => ?_)
      go_simp
      refine (imp_join1 x W.heap.size W1 l1 hxs).mono ?_
      rintro e w2 ⟨rfl, hb2⟩
      have b2 := b1.trans (hb2.mono hW1)
      have hW2 := b2.size
      go_wp2_with fail
      refine hK.out _ _ (SA _ b2) (fun hHeld => ?_)
      clear hK KK hb2 l1
      refine oneT (i := 5) (by kernel_rfl) rfl (fun KK hK => ?_)
      go_simp
      have b3 : Below wr.heap.size wr (w2.alloc (.cells #[.string x] 9)) := b2.alloc b2.size _
      have nw : ∀ j u, [Value.string x][j]? = some u → (w2.alloc (.cells #[.string x] 9)).cell? ((⟨w2.heap.size, 0, none⟩ : Addr).add j) = some u := one_cell _ _ _
      generalize hg3 : w2.alloc (.cells #[.string x] 9) = W3 at *
      have hW3 := b3.size
      refine hK.out _ _ (SA _ b3) (fun hHeld => ?_)
      clear hK KK
      refine oneT (i := 6) (by kernel_rfl) rfl (fun KK hK => ?_)
      have o3 := own_of_block hown.out (fun g hg => b3.block g (hown.out.lt g hg).2)
      refine step_append_any W3 (some 21) rfl rfl (.tmp 16) (.tmp 20) 23 rfl (w.heap.size + 3) 9 is (.string ⟨#[]⟩) 1 16 Try.underlying23 his hzs0 hzs1 hzs2 rfl (by decide) (.slice sa2 k sk2) k _ rfl o3 (some ⟨w2.heap.size, 0, none⟩) 1 1 [.string x] rfl rfl (.inr ⟨_, rfl, nw⟩) (by intro u hu; simp at hu; subst hu; rfl) (by unfold maxLen; omega) (by omega) (by omega) ?_
      intro v1 w1 o1 g1 t1
      obtain ⟨a1, c1, ea⟩ := own_slice o1
      subst ea
      have nb : ∀ b, b < w.heap.size + 3 → some b ≠ (Value.slice sa2 k sk2).ownBlock := fun b h1 h2 => by have := (hown.out.lt b h2.symm).1; omega
      have r0 := ((g1.block w.heap.size (by omega) (nb _ (by omega))).trans (b3.block w.heap.size (by omega))).trans hst.out.1
      have r1 := ((g1.block (w.heap.size + 1) (by omega) (nb _ (by omega))).trans (b3.block (w.heap.size + 1) (by omega))).trans hst.out.2.1
      have r2 := ((g1.block (w.heap.size + 2) (by omega) (nb _ (by omega))).trans (b3.block (w.heap.size + 2) (by omega))).trans hst.out.2.2.1
      have bw : Below w.heap.size w w1 := (hst.out.2.2.2.trans (b3.mono (by omega))).grown g1 (by omega) (fun k hk => by have := (hown.out.lt k hk).1; omega)
      have d0 : w1.cell? ⟨w.heap.size + 2, 0, none⟩ = some (.slice sa2 k sk2) := by simp [World.cell?, r2]
      have f0 : w1.frozen? ⟨w.heap.size + 2, 0, none⟩ = false := by simp [World.frozen?, r2]
      have hs1 : W3.heap.size ≤ w1.heap.size := g1.size
      simp only [Act.put, List.setIfInBounds_toArray, List.set_cons_zero, List.set_cons_succ]
      refine hK.out _ _ d0 (fun hHeld => ?_)
      clear hK KK
      refine takeT (i := 7) [8] (v := .pointer (some ⟨w.heap.size + 2, 0, none⟩)) (some 22) rfl rfl (by kernel_rfl) (by kernel_rfl) (by kernel_rfl) (by kernel_rfl) (fun _ _ _ h => h) (Or.inl ⟨by rfl, fun w hSw => by go_simp⟩) hHeld ?_
      simp only [Act.put, List.setIfInBounds_toArray, List.set_cons_zero, List.set_cons_succ]
      refine lastT (by kernel_rfl) rfl (fun KK hK => ?_)
      go_simp
      have R1 := hide (show (w1.setCell ⟨w.heap.size + 2, 0, none⟩ (.slice a1 (k + 1) c1)).ownsRow (w.heap.size + 3) 9 1 (.slice a1 (k + 1) c1) (k + 1) (sL S (k + 1)) from own_of_block (by rw [sL_snoc, ← HX.out]; exact o1) (fun b hb => set1_o _ _ _ _ _ (by have := (o1.lt b hb).1; omega)))
      have R2 := hide (show (w1.setCell ⟨w.heap.size + 2, 0, none⟩ (.slice a1 (k + 1) c1)).heap[w.heap.size]? = W3_.heap[w.heap.size]? ∧ (w1.setCell ⟨w.heap.size + 2, 0, none⟩ (.slice a1 (k + 1) c1)).heap[w.heap.size + 1]? = some (.cells #[.slice none 0 0, .slice none 0 0] 26) ∧ (w1.setCell ⟨w.heap.size + 2, 0, none⟩ (.slice a1 (k + 1) c1)).heap[w.heap.size + 2]? = some (.cells #[.slice a1 (k + 1) c1, .slice none 0 0] 26) ∧ Below w.heap.size w (w1.setCell ⟨w.heap.size + 2, 0, none⟩ (.slice a1 (k + 1) c1)) from ⟨(set1_o _ _ _ _ _ (by omega)).trans r0, (set1_o _ _ _ _ _ (by omega)).trans r1, by simp [World.setCell, Array.getElem?_modify, r2], below_set bw _ 0 (by omega) _⟩)
      have R3 : w.heap.size + 3 ≤ (w1.setCell ⟨w.heap.size + 2, 0, none⟩ (.slice a1 (k + 1) c1)).heap.size := by simp [World.setCell]; omega
      clear r0 r1 r2 bw o1 g1 t1 nb hst hown o3 nw
      refine hK.out _ _ ?_
      clear hK KK
      refine wpAnyT_done (by kernel_rfl) ?_ _
      go_wp2_with fail
      go_roundw
      case rel => exact ⟨k + 1, a1, c1, by omega, by go_num, R1, R2, R3⟩
      case measure => simp [intOf]; omega
    · have hlt' : ¬ (k : Int) < (nS : Int) := by omega
      have hkn : nS = k := by omega
      subst hkn
      have e0 := hst.out.1.trans Q.out.1
      have e1 : wr.cell? ⟨w.heap.size, 1, none⟩ = some (.slice ca nC ck) := by simp [World.cell?, e0]
      clear e0
      clear hlt hlt'
      go_wp2_with fail
      have H1 := hown
      have H2 := hst
      have hsz2 := hsz
      clear hown hst hsz e1
      go_loopw [27] (fun i wx => ∃ (k : Nat) (a : Option Addr) (c : Nat), k ≤ nC ∧ i = .int .i64 k ∧ Hid (wx.ownsRow (w.heap.size + 3) 70 2 (.slice a k c) k (wL A X k)) ∧ Hid (wx.ownsRow (w.heap.size + 3) 9 1 (.slice sa2 nS sk2) nS (sL S nS)) ∧ Hid (apartV (.slice sa2 nS sk2) (.slice a k c)) ∧ Hid (wx.heap[w.heap.size]? = W3_.heap[w.heap.size]? ∧ wx.heap[w.heap.size + 1]? = some (.cells #[.slice none 0 0, .slice none 0 0] 26) ∧ wx.heap[w.heap.size + 2]? = some (.cells #[.slice sa2 nS sk2, .slice a k c] 26) ∧ Below w.heap.size w wx) ∧ w.heap.size + 3 ≤ wx.heap.size) (fun i _ => nC - (intOf i).toNat)
      case atStart => exact ⟨0, none, 0, Nat.zero_le _, rfl, World.ownsRow_nil _ _ _ _, H1, (fun b _ e => by cases e), H2, hsz2⟩
      case round =>
        clear H1 H2 hsz2
        obtain ⟨k, a, c, hk, rfl, hown, hO, hap, hst, hsz⟩ := hrel
        by_cases hlt : k < nC
        · have hlt' : (k : Int) < (nC : Int) := by omega
          obtain h00 | ⟨r, o, rfl, hr, hcells⟩ := HC.out
          · omega
          obtain ⟨y, hy⟩ : ∃ y, y = A k := ⟨_, rfl⟩
          obtain ⟨x, hx⟩ : ∃ x, x = X k := ⟨_, rfl⟩
          obtain ⟨q, hq⟩ : ∃ q, q = o + 2 * k := ⟨_, rfl⟩
          have y0 : wr.cell? ⟨r, q, none⟩ = some (.int .i64 y) := by rw [hq, hy]; exact (hst.out.2.2.2.cell (p := ⟨r, o + 2 * k, none⟩) hr).trans (hcells k hlt 0 (by omega))
          have y1 : wr.cell? ⟨r, q + 1, none⟩ = some (.string x) := by rw [hq, hx]; exact (hst.out.2.2.2.cell (p := ⟨r, o + 2 * k + 1, none⟩) hr).trans (hcells k hlt 1 (by omega))
          have n1 : o + 2 * k = q := hq.symm
          have n2 : o + k * 2 = q := by omega
          have hxs : x.size ≤ 1048576 := by rw [hx]; exact HZ.out.2 k hlt
          have HX := hide (And.intro hy hx)
          clear hcells hx hy hq
          go_wp2_with fail
          clear y0 y1 n1 n2
          have hbW : Below wr.heap.size wr (wr.alloc (.cells #[.int .i64 y, .string x] 70)) := (Below.refl _ _).alloc (Nat.le_refl _) _
          have hWn : (wr.alloc (.cells #[.int .i64 y, .string x] 70)).heap[wr.heap.size]? = some (.cells #[.int .i64 y, .string x] 70) := heap_alloc_new _ _
          have hWr : wr.heap.size ≤ (wr.alloc (.cells #[.int .i64 y, .string x] 70)).heap.size := hbW.size
          have hWr1 : wr.heap.size < (wr.alloc (.cells #[.int .i64 y, .string x] 70)).heap.size := by simp
          generalize wr.alloc (.cells #[.int .i64 y, .string x] 70) = Wr at *
          have SA : ∀ u : World, Below Wr.heap.size Wr u → u.cell? ⟨w.heap.size + 2, 1, none⟩ = some (.slice a k c) ∧ u.cell? ⟨wr.heap.size, 0, none⟩ = some (.int .i64 y) ∧ u.cell? ⟨wr.heap.size, 1, none⟩ = some (.string x) := fun u hu => by
            have hb := (hu.block (w.heap.size + 2) (by omega)).trans ((hbW.block (w.heap.size + 2) (by omega)).trans hst.out.2.2.1)
            have hb2 := (hu.block wr.heap.size hWr1).trans hWn
            exact ⟨by simp [World.cell?, hb], by simp [World.cell?, hb2], by simp [World.cell?, hb2]⟩
          have b0 : Below Wr.heap.size Wr Wr.drew := (Below.refl _ _).drew
          refine wp_region_till (S := fun u => u.cell? ⟨w.heap.size + 2, 1, none⟩ = some (.slice a k c) ∧ u.cell? ⟨wr.heap.size, 0, none⟩ = some (.int .i64 y) ∧ u.cell? ⟨wr.heap.size, 1, none⟩ = some (.string x)) 12 (by kernel_rfl) (SA _ b0) (fun hHeld => ?_)
          refine takeT (i := 0) [1, 10, 12] (v := .pointer (some ⟨w.heap.size + 2, 1, none⟩)) (some 31) rfl rfl (by kernel_rfl) (by kernel_rfl) (by kernel_rfl) (by kernel_rfl) (fun _ _ _ h => h) (Or.inl ⟨by rfl, fun w hSw => by go_simp⟩) hHeld ?_
          simp only [Act.put, List.setIfInBounds_toArray, List.set_cons_zero, List.set_cons_succ]
          refine takeT (i := 1) [10, 12] (v := .slice a k c) (some 32) rfl rfl (by kernel_rfl) (by kernel_rfl) (by kernel_rfl) (by kernel_rfl) (fun _ _ _ h => h) (Or.inl ⟨by rfl, fun w hSw => by obtain ⟨s0, s1, s2⟩ := hSw; go_simp⟩) hHeld ?_
          simp only [Act.put, List.setIfInBounds_toArray, List.set_cons_zero, List.set_cons_succ]
          refine takeT (i := 2) [3, 8, 9, 10, 12] (v := .pointer (some ⟨wr.heap.size, 0, none⟩)) (some 33) rfl rfl (by kernel_rfl) (by kernel_rfl) (by kernel_rfl) (by kernel_rfl) (fun _ _ _ h => h) (Or.inl ⟨by rfl, fun w hSw => by go_simp⟩) hHeld ?_
          simp only [Act.put, List.setIfInBounds_toArray, List.set_cons_zero, List.set_cons_succ]
          refine takeT (i := 3) [8, 9, 10, 12] (v := .int .i64 y) (some 34) rfl rfl (by kernel_rfl) (by kernel_rfl) (by kernel_rfl) (by kernel_rfl) (fun _ _ _ h => h) (Or.inl ⟨by rfl, fun w hSw => by obtain ⟨s0, s1, s2⟩ := hSw; go_simp⟩) hHeld ?_
          simp only [Act.put, List.setIfInBounds_toArray, List.set_cons_zero, List.set_cons_succ]
          refine takeT (i := 4) [5, 6, 7, 8, 9, 10, 12] (v := .pointer (some ⟨wr.heap.size, 1, none⟩)) (some 35) rfl rfl (by kernel_rfl) (by kernel_rfl) (by kernel_rfl) (by kernel_rfl) (fun _ _ _ h => h) (Or.inl ⟨by rfl, fun w hSw => by go_simp⟩) hHeld ?_
          simp only [Act.put, List.setIfInBounds_toArray, List.set_cons_zero, List.set_cons_succ]
          refine takeT (i := 5) [6, 7, 8, 9, 10, 12] (v := .string x) (some 36) rfl rfl (by kernel_rfl) (by kernel_rfl) (by kernel_rfl) (by kernel_rfl) (fun _ _ _ h => h) (Or.inl ⟨by rfl, fun w hSw => by obtain ⟨s0, s1, s2⟩ := hSw; go_simp⟩) hHeld ?_
          simp only [Act.put, List.setIfInBounds_toArray, List.set_cons_zero, List.set_cons_succ]
          generalize hWd : Wr.drew = W at *
          have hW0 := b0.size
          refine oneT (i := 6) (by kernel_rfl) rfl (fun KK hK => ?_)
          go_simp
          have b1 : Below Wr.heap.size Wr (W.alloc (.cells #[.string x] 9)) := b0.alloc b0.size _
          have l1 : (W.alloc (.cells #[.string x] 9)).cell? ⟨W.heap.size, 0, none⟩ = some (.string x) := by go_simp
          generalize hg1 : W.alloc (.cells #[.string x] 9) = W1 at *
          have hW1 := b1.size
          refine hK.out _ _ (SA _ b1) (fun hHeld => ?_)
          clear hK KK
          refine oneT (i := 7) (by kernel_rfl) rfl (fun KK hK => ?_)
          go_simp
          refine (imp_join1 x W.heap.size W1 l1 hxs).mono ?_
          rintro e w2 ⟨rfl, hb2⟩
          have b2 := b1.trans (hb2.mono hW1)
          have hW2 := b2.size
          go_wp2_with fail
          refine hK.out _ _ (SA _ b2) (fun hHeld => ?_)
          clear hK KK hb2 l1
          refine takeT (i := 8) [9, 10, 12] (v := .agg #[.int .i64 y, .string x]) (some 39) rfl rfl (by kernel_rfl) (by kernel_rfl) (by kernel_rfl) (by kernel_rfl) (fun _ _ _ h => h) (Or.inl ⟨by rfl, fun w hSw => by go_simp⟩) hHeld ?_
          simp only [Act.put, List.setIfInBounds_toArray, List.set_cons_zero, List.set_cons_succ]
          refine oneT (i := 9) (by kernel_rfl) rfl (fun KK hK => ?_)
          go_simp
          have b3 : Below Wr.heap.size Wr (w2.alloc (.cells #[.int .i64 y, .string x] 70)) := b2.alloc b2.size _
          have nw : ∀ j u, [Value.int .i64 y, Value.string x][j]? = some u → (w2.alloc (.cells #[.int .i64 y, .string x] 70)).cell? ((⟨w2.heap.size, 0, none⟩ : Addr).add j) = some u := World.news_of_block (heap_alloc_new w2 _)
          generalize hg3 : w2.alloc (.cells #[.int .i64 y, .string x] 70) = W3 at *
          have hW3 := b3.size
          refine hK.out _ _ (SA _ b3) (fun hHeld => ?_)
          clear hK KK
          refine oneT (i := 10) (by kernel_rfl) rfl (fun KK hK => ?_)
          have o3 := own_of_block hown.out (fun g hg => (b3.block g (Nat.lt_of_lt_of_le (hown.out.lt g hg).2 hWr)).trans (hbW.block g (hown.out.lt g hg).2))
          have O3 := own_of_block hO.out (fun g hg => (b3.block g (Nat.lt_of_lt_of_le (hO.out.lt g hg).2 hWr)).trans (hbW.block g (hO.out.lt g hg).2))
          refine step_append_any W3 (some 41) rfl rfl (.tmp 32) (.tmp 40) 24 rfl (w.heap.size + 3) 70 iw (.agg #[.int .i64 0, .string ⟨#[]⟩]) 2 24 Try.underlying24 hiw hzw0 hzw1 hzw2 rfl (by decide) (.slice a k c) k _ rfl o3 (some ⟨w2.heap.size, 0, none⟩) 1 1 [.int .i64 y, .string x] rfl rfl (.inr ⟨_, rfl, nw⟩) (by intro u hu; simp at hu; rcases hu with rfl | rfl <;> rfl) (by unfold maxLen; omega) (by omega) (by omega) ?_
          intro v1 w1 o1 g1 t1
          obtain ⟨a1, c1, ea⟩ := own_slice o1
          subst ea
          have nb : ∀ b, b < w.heap.size + 3 → some b ≠ (Value.slice a k c).ownBlock := fun b h1 h2 => by have := (hown.out.lt b h2.symm).1; omega
          have q : ∀ b, b < w.heap.size + 3 → w1.heap[b]? = wr.heap[b]? := fun b hb => (g1.block b (by omega) (nb _ hb)).trans ((b3.block b (by omega)).trans (hbW.block b (by omega)))
          have r0 := (q w.heap.size (by omega)).trans hst.out.1
          have r1 := (q (w.heap.size + 1) (by omega)).trans hst.out.2.1
          have r2 := (q (w.heap.size + 2) (by omega)).trans hst.out.2.2.1
          have bw : Below w.heap.size w w1 := (hst.out.2.2.2.trans ((hbW.mono (by omega)).trans (b3.mono (by omega)))).grown g1 (by omega) (fun k hk => by have := (hown.out.lt k hk).1; omega)
          have d0 : w1.cell? ⟨w.heap.size + 2, 1, none⟩ = some (.slice a k c) := by simp [World.cell?, r2]
          have f0 : w1.frozen? ⟨w.heap.size + 2, 1, none⟩ = false := by simp [World.frozen?, r2]
          have hs1 : W3.heap.size ≤ w1.heap.size := g1.size
          have e9 : w1.heap[wr.heap.size]? = some (.cells #[.int .i64 y, .string x] 70) := (g1.block wr.heap.size (by omega) (fun e => by have := (hown.out.lt wr.heap.size e.symm).2; omega)).trans ((b3.block wr.heap.size (by omega)).trans hWn)
          have S9 : w1.cell? ⟨w.heap.size + 2, 1, none⟩ = some (.slice a k c) ∧ w1.cell? ⟨wr.heap.size, 0, none⟩ = some (.int .i64 y) ∧ w1.cell? ⟨wr.heap.size, 1, none⟩ = some (.string x) := ⟨d0, by simp [World.cell?, e9], by simp [World.cell?, e9]⟩
          have AP : apartV (.slice sa2 nS sk2) (.slice a1 (k + 1) c1) := fun b hb e => by
            rcases t1 b e with h | h
            · exact hap.out b hb h
            · have := (O3.lt b hb).2; omega
          simp only [Act.put, List.setIfInBounds_toArray, List.set_cons_zero, List.set_cons_succ]
          refine hK.out _ _ S9 (fun hHeld => ?_)
          clear hK KK
          refine takeT (i := 11) [12] (v := .pointer (some ⟨w.heap.size + 2, 1, none⟩)) (some 42) rfl rfl (by kernel_rfl) (by kernel_rfl) (by kernel_rfl) (by kernel_rfl) (fun _ _ _ h => h) (Or.inl ⟨by rfl, fun w hSw => by go_simp⟩) hHeld ?_
          simp only [Act.put, List.setIfInBounds_toArray, List.set_cons_zero, List.set_cons_succ]
          refine lastT (by kernel_rfl) rfl (fun KK hK => ?_)
          go_simp
          have R1 := hide (show (w1.setCell ⟨w.heap.size + 2, 1, none⟩ (.slice a1 (k + 1) c1)).ownsRow (w.heap.size + 3) 70 2 (.slice a1 (k + 1) c1) (k + 1) (wL A X (k + 1)) from own_of_block (by rw [wL_more, ← HX.out.1, ← HX.out.2]; exact o1) (fun b hb => set1_o _ _ _ _ _ (by have := (o1.lt b hb).1; omega)))
          have R4 := hide (show (w1.setCell ⟨w.heap.size + 2, 1, none⟩ (.slice a1 (k + 1) c1)).ownsRow (w.heap.size + 3) 9 1 (.slice sa2 nS sk2) nS (sL S nS) from own_of_block O3 (fun b hb => (set1_o _ _ _ _ _ (by have := (O3.lt b hb).1; omega)).trans (g1.block b (O3.lt b hb).2 (fun e => hap.out b hb e.symm))))
          have R2 := hide (show (w1.setCell ⟨w.heap.size + 2, 1, none⟩ (.slice a1 (k + 1) c1)).heap[w.heap.size]? = W3_.heap[w.heap.size]? ∧ (w1.setCell ⟨w.heap.size + 2, 1, none⟩ (.slice a1 (k + 1) c1)).heap[w.heap.size + 1]? = some (.cells #[.slice none 0 0, .slice none 0 0] 26) ∧ (w1.setCell ⟨w.heap.size + 2, 1, none⟩ (.slice a1 (k + 1) c1)).heap[w.heap.size + 2]? = some (.cells #[.slice sa2 nS sk2, .slice a1 (k + 1) c1] 26) ∧ Below w.heap.size w (w1.setCell ⟨w.heap.size + 2, 1, none⟩ (.slice a1 (k + 1) c1)) from ⟨(set1_o _ _ _ _ _ (by omega)).trans r0, (set1_o _ _ _ _ _ (by omega)).trans r1, by simp [World.setCell, Array.getElem?_modify, r2], below_set bw _ 1 (by omega) _⟩)
          have R3 : w.heap.size + 3 ≤ (w1.setCell ⟨w.heap.size + 2, 1, none⟩ (.slice a1 (k + 1) c1)).heap.size := by simp [World.setCell]; omega
          have R5 := hide AP
          clear r0 r1 r2 bw o1 g1 t1 nb hst hown hO o3 O3 nw hap AP q e9 S9
          refine hK.out _ _ ?_
          clear hK KK
          refine wpAnyT_done (by kernel_rfl) ?_ _
          go_wp2_with fail
          go_roundw
          case rel => exact ⟨k + 1, a1, c1, by omega, by go_num, R1, R4, R5, R2, R3⟩
          case measure => simp [intOf]; omega
        · have hlt' : ¬ (k : Int) < (nC : Int) := by omega
          have hkn : k = nC := by omega
          subst hkn
          have b0 : wr.cell? ⟨w.heap.size + 2, 0, none⟩ = some (.slice sa2 nS sk2) := by simp [World.cell?, hst.out.2.2.1]
          have b1 : wr.cell? ⟨w.heap.size + 2, 1, none⟩ = some (.slice a k c) := by simp [World.cell?, hst.out.2.2.1]
          have l0 : wr.cell? ⟨w.heap.size + 1, 0, none⟩ = some (.slice none 0 0) := by simp [World.cell?, hst.out.2.1]
          have l1 : wr.cell? ⟨w.heap.size + 1, 1, none⟩ = some (.slice none 0 0) := by simp [World.cell?, hst.out.2.1]
          have f0 : wr.frozen? ⟨w.heap.size + 1, 0, none⟩ = false := by simp [World.frozen?, hst.out.2.1]
          have f1 : wr.frozen? ⟨w.heap.size + 1, 1, none⟩ = false := by simp [World.frozen?, hst.out.2.1]
          go_wp2_with fail
          have u1 : ((wr.setCell ⟨w.heap.size + 1, 0, none⟩ (.slice sa2 nS sk2)).setCell ⟨w.heap.size + 1, 1, none⟩ (.slice a k c)).heap[w.heap.size + 1]? = some (.cells #[.slice sa2 nS sk2, .slice a k c] 26) := by simp [World.setCell, Array.getElem?_modify, hst.out.2.1]
          have u7 : ∀ g, g ≠ w.heap.size + 1 → ((wr.setCell ⟨w.heap.size + 1, 0, none⟩ (.slice sa2 nS sk2)).setCell ⟨w.heap.size + 1, 1, none⟩ (.slice a k c)).heap[g]? = wr.heap[g]? := fun g hg => (set1_o _ _ _ _ _ hg).trans (set1_o _ _ _ _ _ hg)
          have u4 := own_base (own_of_block hO.out (w' := ((wr.setCell ⟨w.heap.size + 1, 0, none⟩ (.slice sa2 nS sk2)).setCell ⟨w.heap.size + 1, 1, none⟩ (.slice a k c))) (fun b hb => u7 b (by have := (hO.out.lt b hb).1; omega))) (show w.heap.size ≤ w.heap.size + 3 by omega)
          have u5 := own_base (own_of_block hown.out (w' := ((wr.setCell ⟨w.heap.size + 1, 0, none⟩ (.slice sa2 nS sk2)).setCell ⟨w.heap.size + 1, 1, none⟩ (.slice a k c))) (fun b hb => u7 b (by have := (hown.out.lt b hb).1; omega))) (show w.heap.size ≤ w.heap.size + 3 by omega)
          have u6 : Below w.heap.size w ((wr.setCell ⟨w.heap.size + 1, 0, none⟩ (.slice sa2 nS sk2)).setCell ⟨w.heap.size + 1, 1, none⟩ (.slice a k c)) := below_set (below_set hst.out.2.2.2 _ 0 (by omega) _) _ 1 (by omega) _
          generalize ((wr.setCell ⟨w.heap.size + 1, 0, none⟩ (.slice sa2 nS sk2)).setCell ⟨w.heap.size + 1, 1, none⟩ (.slice a k c)) = w9 at *
          exact bodyPost_ret (results_cell_row Try.results40 _ _ (w.heap.size + 1) 26 #[.slice sa2 nS sk2, .slice a k c] (0, 0) _ rfl u1 Try.underlying26 rfl (by kernel_rfl)) rfl ⟨_, _, rfl, u4, u5, hap.out, u6⟩
theorem imp_copied (v : Value) (nS : Nat) (S : Nat → ByteArray) (nC : Nat) (A : Nat → Int) (X : Nat → ByteArray) (w : World) (hS : nS ≤ 1048576) (hC : nC ≤ 1048576) (hSs : ∀ j, j < nS → (S j).size ≤ 1048576) (hXs : ∀ j, j < nC → (X j).size ≤ 1048576) (h : dskI w w.heap.size v nS S nC A X) :
    Calls Try.prog 40 #[v] w fun e w' => ∃ o, e = .returned o ∧ dskV w' o w.heap.size w'.heap.size nS (sC S) nC (wF A X) ∧ Below w.heap.size w w' :=
  (imp_copiedO v nS S nC A X w hS hC hSs hXs h).mono fun _ _ ⟨sv, cv, h1, h2, h3, h4, h5⟩ => ⟨_, h1, ⟨sv, cv, rfl, own_val1 h2, own_val2 h3, fun k hk => h2.lt k hk, fun k hk => h3.lt k hk, fun k hk e => h4 k hk e⟩, h5⟩
end Go.Proofs.Ytipeelkmmjgehab

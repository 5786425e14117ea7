/- The walk over the program's DiskNew (written by mkdkn.py). -/
import Derived.Test.YtghbioaggjfkbaaDkC
import Derived.Test.YtghbioaggjfkbaaDskN
import Derived.Test.YtghbioaggjfkbaaSecI
namespace Go.Proofs.Ytghbioaggjfkbaa
open Go Go.RowKit
theorem secS_blank : secS ⟨#[]⟩ = blankS := by
  have e : secD ⟨#[]⟩ = List.replicate 64 (0 : UInt8) := by decide
  unfold secS blankS
  rw [e]
set_option maxRecDepth 100000 in
set_option maxHeartbeats 1600000 in
theorem imp_diskNew (s : Int) (w : World) :
    Calls Try.prog 19 #[.int .i64 s] w fun e w' => ∃ o, e = .returned o ∧ (∀ A X, dskV w' o w.heap.size w'.heap.size (newN s) (sC fun _ => blankS) 0 (wF A X)) ∧ Below w.heap.size w w' := by
  obtain ⟨is, his, hzs0, hzs1, hzs2⟩ := info_parts Try.infoStr
  have y0 : Below w.heap.size w (w.alloc (.cells #[.slice none 0 0, .slice none 0 0] 26)) := (Below.refl _ w).alloc (Nat.le_refl _) _
  have y1 : (w.alloc (.cells #[.slice none 0 0, .slice none 0 0] 26)).heap[w.heap.size]? = some (.cells #[.slice none 0 0, .slice none 0 0] 26) := heap_alloc_new _ _
  have z0 : Below w.heap.size w ((w.alloc (.cells #[.slice none 0 0, .slice none 0 0] 26)).alloc (.cells #[.slice none 0 0, .slice none 0 0] 26)) := ((Below.refl _ w).alloc (Nat.le_refl _) _).alloc (by simp) _
  have z1 : ((w.alloc (.cells #[.slice none 0 0, .slice none 0 0] 26)).alloc (.cells #[.slice none 0 0, .slice none 0 0] 26)).heap[w.heap.size]? = some (.cells #[.slice none 0 0, .slice none 0 0] 26) := (Below.heap_alloc _ _ _ (by simp)).trans (heap_alloc_new _ _)
  have z2 : ((w.alloc (.cells #[.slice none 0 0, .slice none 0 0] 26)).alloc (.cells #[.slice none 0 0, .slice none 0 0] 26)).heap[w.heap.size + 1]? = some (.cells #[.slice none 0 0, .slice none 0 0] 26) := by have := heap_alloc_new (w.alloc (.cells #[.slice none 0 0, .slice none 0 0] 26)) (.cells #[.slice none 0 0, .slice none 0 0] 26); rwa [World.size_alloc] at this
  have qs : ((w.alloc (.cells #[.slice none 0 0, .slice none 0 0] 26)).alloc (.cells #[.slice none 0 0, .slice none 0 0] 26)).heap.size = w.heap.size + 2 := by simp
  have YY := hide (And.intro y0 y1)
  have ZZ := hide (And.intro z1 (And.intro z2 z0))
  clear y0 y1 z0 z1 z2
  by_cases h0 : s < 0
  · have d0 : decide (s < (0 : Int)) = true := decide_eq_true h0
    have hE : newN s = 0 := by unfold newN; rw [if_pos (by omega)]; omega
    rw [hE]
    clear hE h0 qs
    go_enter Try.func19, Try.ntmps19
    go_wp2_with fail
    obtain ⟨y0, y1⟩ := YY.out
    exact bodyPost_ret (results_cell_row Try.results19 _ _ w.heap.size 26 #[.slice none 0 0, .slice none 0 0] (0, 0) _ rfl y1 Try.underlying26 rfl (by kernel_rfl)) rfl ⟨_, rfl, fun A X => ⟨_, _, rfl, ⟨none, 0, rfl, Nat.le_refl _, .inl rfl⟩, ⟨none, 0, rfl, Nat.le_refl _, .inl rfl⟩, (fun k hk => by cases hk), (fun k hk => by cases hk), (fun k hk => by cases hk)⟩, y0⟩
  by_cases h1 : 620 < s
  · have d0 : decide (s < (0 : Int)) = false := decide_eq_false h0
    have d1 : decide ((620 : Int) < s) = true := decide_eq_true h1
    have hE : newN s = 0 := by unfold newN; rw [if_neg (by omega)]
    rw [hE]
    clear hE h0 h1 qs
    go_enter Try.func19, Try.ntmps19
    go_wp2_with fail
    obtain ⟨y0, y1⟩ := YY.out
    exact bodyPost_ret (results_cell_row Try.results19 _ _ w.heap.size 26 #[.slice none 0 0, .slice none 0 0] (0, 0) _ rfl y1 Try.underlying26 rfl (by kernel_rfl)) rfl ⟨_, rfl, fun A X => ⟨_, _, rfl, ⟨none, 0, rfl, Nat.le_refl _, .inl rfl⟩, ⟨none, 0, rfl, Nat.le_refl _, .inl rfl⟩, (fun k hk => by cases hk), (fun k hk => by cases hk), (fun k hk => by cases hk)⟩, y0⟩
  obtain ⟨n, rfl⟩ : ∃ n : Nat, s = (n : Int) := ⟨s.toNat, by omega⟩
  have d0 : decide ((n : Int) < (0 : Int)) = false := decide_eq_false h0
  have d1 : decide ((620 : Int) < (n : Int)) = false := decide_eq_false h1
  have hn6 : n ≤ 620 := by omega
  have hE : newN (n : Int) = n := by unfold newN; rw [if_pos (by omega)]; omega
  rw [hE]
  obtain ⟨x, hx⟩ : ∃ x, x = blankS := ⟨_, rfl⟩
  have HX := hide (show secS ⟨#[]⟩ = x by rw [secS_blank, hx])
  have HX2 := hide hx
  clear hx hE h0 h1
  go_enter Try.func19, Try.ntmps19
  go_wp2_with fail
  generalize ((w.alloc (.cells #[.slice none 0 0, .slice none 0 0] 26)).alloc (.cells #[.slice none 0 0, .slice none 0 0] 26)) = W2 at *
  go_loopw [12] (fun i wx => ∃ (k : Nat) (a : Option Addr) (c : Nat), k ≤ n ∧ i = .int .i64 k ∧ Hid (wx.ownsRow (w.heap.size + 2) 9 1 (.slice a k c) k (sL (fun _ => x) k)) ∧ Hid (wx.heap[w.heap.size]? = some (.cells #[.slice none 0 0, .slice none 0 0] 26) ∧ wx.heap[w.heap.size + 1]? = some (.cells #[.slice a k c, .slice none 0 0] 26) ∧ Below w.heap.size w wx) ∧ w.heap.size + 2 ≤ wx.heap.size) (fun i _ => n - (intOf i).toNat)
  case atStart => exact ⟨0, none, 0, Nat.zero_le _, rfl, World.ownsRow_nil _ _ _ _, ZZ, by omega⟩
  case round =>
    obtain ⟨k, a, c, hk, rfl, hown, hst, hsz⟩ := hrel
    by_cases hlt : k < n
    · have hlt' : (k : Int) < (n : Int) := by omega
      go_wp2_with fail
      have SA : ∀ u : World, Below wr.heap.size wr u → u.cell? ⟨w.heap.size + 1, 0, none⟩ = some (.slice a k c) := fun u hu => by
        have hb := (hu.block (w.heap.size + 1) (by omega)).trans hst.out.2.1
        simp [World.cell?, hb]
      refine wp_region_till (S := fun u => u.cell? ⟨w.heap.size + 1, 0, none⟩ = some (.slice a k c)) 7 (by kernel_rfl) (SA _ (Below.refl _ _).drew) (fun hHeld => ?_)
      refine takeT (i := 0) [1, 5, 7] (v := .pointer (some ⟨w.heap.size + 1, 0, none⟩)) (some 14) rfl rfl (by kernel_rfl) (by kernel_rfl) (by kernel_rfl) (by kernel_rfl) (fun _ _ _ h => h) (Or.inl ⟨by rfl, fun w hSw => by go_simp⟩) hHeld ?_
      simp only [Act.put, List.setIfInBounds_toArray, List.set_cons_zero, List.set_cons_succ]
      refine takeT (i := 1) [5, 7] (v := .slice a k c) (some 15) rfl rfl (by kernel_rfl) (by kernel_rfl) (by kernel_rfl) (by kernel_rfl) (fun _ _ _ h => h) (Or.inl ⟨by rfl, fun w hSw => by go_simp⟩) hHeld ?_
      simp only [Act.put, List.setIfInBounds_toArray, List.set_cons_zero, List.set_cons_succ]
      refine takeT (i := 2) [3, 4, 5, 7] (v := secV ⟨#[]⟩) (some 16) rfl rfl (by kernel_rfl) (by kernel_rfl) (by kernel_rfl) (by kernel_rfl) (fun _ _ _ h => h) (Or.inl ⟨by rfl, fun w hSw => by go_simp; rfl⟩) hHeld ?_
      simp only [Act.put, List.setIfInBounds_toArray, List.set_cons_zero, List.set_cons_succ]
      refine oneT (i := 3) (by kernel_rfl) rfl (fun KK hK => ?_)
      go_simp
      refine (imp_secText ⟨#[]⟩ _).mono ?_
      rintro e w2 ⟨rfl, hb2⟩
      have b2 : Below wr.heap.size wr w2 := (Below.refl _ _).drew.trans hb2
      have hW2 := b2.size
      rw [HX.out]
      go_wp2_with fail
      refine hK.out _ _ (SA _ b2) (fun hHeld => ?_)
      clear hK KK hb2
      refine oneT (i := 4) (by kernel_rfl) rfl (fun KK hK => ?_)
      go_simp
      have b3 : Below wr.heap.size wr (w2.alloc (.cells #[.string x] 9)) := b2.alloc b2.size _
      have nw : ∀ j u, [Value.string x][j]? = some u → (w2.alloc (.cells #[.string x] 9)).cell? ((⟨w2.heap.size, 0, none⟩ : Addr).add j) = some u := one_cell _ _ _
      generalize hg3 : w2.alloc (.cells #[.string x] 9) = W3 at *
      have hW3 := b3.size
      refine hK.out _ _ (SA _ b3) (fun hHeld => ?_)
      clear hK KK
      refine oneT (i := 5) (by kernel_rfl) rfl (fun KK hK => ?_)
      have o3 := own_of_block hown.out (fun g hg => b3.block g (hown.out.lt g hg).2)
      refine step_append_any W3 (some 19) rfl rfl (.tmp 15) (.tmp 18) 23 rfl (w.heap.size + 2) 9 is (.string ⟨#[]⟩) 1 16 Try.underlying23 his hzs0 hzs1 hzs2 rfl (by decide) (.slice a k c) k _ rfl o3 (some ⟨w2.heap.size, 0, none⟩) 1 1 [.string x] rfl rfl (.inr ⟨_, rfl, nw⟩) (by intro u hu; simp at hu; subst hu; rfl) (by unfold maxLen; omega) (by omega) (by omega) ?_
      intro v1 w1 o1 g1 t1
      obtain ⟨a1, c1, ea⟩ := own_slice o1
      subst ea
      have nb : ∀ b, b < w.heap.size + 2 → some b ≠ (Value.slice a k c).ownBlock := fun b h1 h2 => by have := (hown.out.lt b h2.symm).1; omega
      have r0 := ((g1.block w.heap.size (by omega) (nb _ (by omega))).trans (b3.block w.heap.size (by omega))).trans hst.out.1
      have r1 := ((g1.block (w.heap.size + 1) (by omega) (nb _ (by omega))).trans (b3.block (w.heap.size + 1) (by omega))).trans hst.out.2.1
      have bw : Below w.heap.size w w1 := (hst.out.2.2.trans (b3.mono (by omega))).grown g1 (by omega) (fun k hk => by have := (hown.out.lt k hk).1; omega)
      have d0 : w1.cell? ⟨w.heap.size + 1, 0, none⟩ = some (.slice a k c) := by simp [World.cell?, r1]
      have f0 : w1.frozen? ⟨w.heap.size + 1, 0, none⟩ = false := by simp [World.frozen?, r1]
      have hs1 : W3.heap.size ≤ w1.heap.size := g1.size
      simp only [Act.put, List.setIfInBounds_toArray, List.set_cons_zero, List.set_cons_succ]
      refine hK.out _ _ d0 (fun hHeld => ?_)
      clear hK KK
      refine takeT (i := 6) [7] (v := .pointer (some ⟨w.heap.size + 1, 0, none⟩)) (some 20) rfl rfl (by kernel_rfl) (by kernel_rfl) (by kernel_rfl) (by kernel_rfl) (fun _ _ _ h => h) (Or.inl ⟨by rfl, fun w hSw => by go_simp⟩) hHeld ?_
      simp only [Act.put, List.setIfInBounds_toArray, List.set_cons_zero, List.set_cons_succ]
      refine lastT (by kernel_rfl) rfl (fun KK hK => ?_)
      go_simp
      have R1 := hide (show (w1.setCell ⟨w.heap.size + 1, 0, none⟩ (.slice a1 (k + 1) c1)).ownsRow (w.heap.size + 2) 9 1 (.slice a1 (k + 1) c1) (k + 1) (sL (fun _ => x) (k + 1)) from own_of_block (by rw [sL_snoc]; exact o1) (fun b hb => set1_o _ _ _ _ _ (by have := (o1.lt b hb).1; omega)))
      have R2 := hide (show (w1.setCell ⟨w.heap.size + 1, 0, none⟩ (.slice a1 (k + 1) c1)).heap[w.heap.size]? = some (.cells #[.slice none 0 0, .slice none 0 0] 26) ∧ (w1.setCell ⟨w.heap.size + 1, 0, none⟩ (.slice a1 (k + 1) c1)).heap[w.heap.size + 1]? = some (.cells #[.slice a1 (k + 1) c1, .slice none 0 0] 26) ∧ Below w.heap.size w (w1.setCell ⟨w.heap.size + 1, 0, none⟩ (.slice a1 (k + 1) c1)) from ⟨(set1_o _ _ _ _ _ (by omega)).trans r0, by simp [World.setCell, Array.getElem?_modify, r1], below_set bw _ 0 (by omega) _⟩)
      have R3 : w.heap.size + 2 ≤ (w1.setCell ⟨w.heap.size + 1, 0, none⟩ (.slice a1 (k + 1) c1)).heap.size := by simp [World.setCell]; omega
      clear r0 r1 bw o1 g1 t1 nb hst hown o3 nw
      refine hK.out _ _ ?_
      clear hK KK
      refine wpAnyT_done (by kernel_rfl) ?_ _
      go_wp2_with fail
      go_roundw
      case rel => exact ⟨k + 1, a1, c1, by omega, by go_num, R1, R2, R3⟩
      case measure => simp [intOf]; omega
    · have hlt' : ¬ (k : Int) < (n : Int) := by omega
      have hkn : n = k := by omega
      subst hkn
      have b0 : wr.cell? ⟨w.heap.size + 1, 0, none⟩ = some (.slice a n c) := by simp [World.cell?, hst.out.2.1]
      have b1 : wr.cell? ⟨w.heap.size + 1, 1, none⟩ = some (.slice none 0 0) := by simp [World.cell?, hst.out.2.1]
      have l0 : wr.cell? ⟨w.heap.size, 0, none⟩ = some (.slice none 0 0) := by simp [World.cell?, hst.out.1]
      have l1 : wr.cell? ⟨w.heap.size, 1, none⟩ = some (.slice none 0 0) := by simp [World.cell?, hst.out.1]
      have f0 : wr.frozen? ⟨w.heap.size, 0, none⟩ = false := by simp [World.frozen?, hst.out.1]
      have f1 : wr.frozen? ⟨w.heap.size, 1, none⟩ = false := by simp [World.frozen?, hst.out.1]
      go_wp2_with fail
      have u1 : ((wr.setCell ⟨w.heap.size, 0, none⟩ (.slice a n c)).setCell ⟨w.heap.size, 1, none⟩ (.slice none 0 0)).heap[w.heap.size]? = some (.cells #[.slice a n c, .slice none 0 0] 26) := by simp [World.setCell, Array.getElem?_modify, hst.out.1]
      have n1 : ∀ b, (Value.slice a n c).ownBlock = some b → b ≠ w.heap.size := fun b hb => by have := (hown.out.lt b hb).1; omega
      have u2 : ((wr.setCell ⟨w.heap.size, 0, none⟩ (.slice a n c)).setCell ⟨w.heap.size, 1, none⟩ (.slice none 0 0)).heap.size = wr.heap.size := by simp [World.setCell]
      have u4 : valM 1 ((wr.setCell ⟨w.heap.size, 0, none⟩ (.slice a n c)).setCell ⟨w.heap.size, 1, none⟩ (.slice none 0 0)) (.slice a n c) n (sC fun _ => blankS) := by rw [← HX2.out]; exact ((own_val1 hown.out).set1 _ _ _ n1).set1 _ _ _ n1
      have u6 : Below w.heap.size w ((wr.setCell ⟨w.heap.size, 0, none⟩ (.slice a n c)).setCell ⟨w.heap.size, 1, none⟩ (.slice none 0 0)) := below_set (below_set hst.out.2.2 _ 0 (Nat.le_refl _) _) _ 1 (Nat.le_refl _) _
      generalize ((wr.setCell ⟨w.heap.size, 0, none⟩ (.slice a n c)).setCell ⟨w.heap.size, 1, none⟩ (.slice none 0 0)) = w9 at *
      exact bodyPost_ret (results_cell_row Try.results19 _ _ w.heap.size 26 #[.slice a n c, .slice none 0 0] (0, 0) _ rfl u1 Try.underlying26 rfl (by kernel_rfl)) rfl ⟨_, rfl, fun A X => ⟨_, _, rfl, u4, ⟨none, 0, rfl, Nat.le_refl _, .inl rfl⟩, (fun b hb => by have := hown.out.lt b hb; omega), (fun b hb => by cases hb), (fun b hb e => by cases e)⟩, u6⟩
end Go.Proofs.Ytghbioaggjfkbaa

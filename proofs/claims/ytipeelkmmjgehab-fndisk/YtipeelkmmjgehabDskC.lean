/- The walk over the model's l08Copy (written by mkcopy.py). -/
import Derived.Test.YtipeelkmmjgehabDskR
import Derived.Test.YtipeelkmmjgehabAppAny
import Derived.Test.YtipeelkmmjgehabHeldOne
namespace Go.Proofs.Ytipeelkmmjgehab
open Go Go.RowKit
/-- The cells of n texts, of n writes. -/
def sL (S : Nat → ByteArray) (n : Nat) : List Value := (List.range n).map (sC S)
def wL (A : Nat → Int) (X : Nat → ByteArray) (n : Nat) : List Value := (List.range (n * 2)).map (wF A X)
theorem sL_len (S : Nat → ByteArray) (n : Nat) : (sL S n).length = n * 1 := by simp [sL]
theorem wL_len (A : Nat → Int) (X : Nat → ByteArray) (n : Nat) : (wL A X n).length = n * 2 := by simp [wL]
theorem sL_at (S : Nat → ByteArray) (n j : Nat) (h : j < n * 1) : (sL S n)[j]? = some (sC S j) := by simp [sL, show j < n by omega]
theorem wL_at (A : Nat → Int) (X : Nat → ByteArray) (n j : Nat) (h : j < n * 2) : (wL A X n)[j]? = some (wF A X j) := by simp [wL, h]
theorem sL_one (S : Nat → ByteArray) (n : Nat) : ∀ u ∈ sL S n, u.oneCell' = true := by
  intro u hu
  obtain ⟨j, _, rfl⟩ := List.mem_map.1 hu
  rfl
theorem wL_one (A : Nat → Int) (X : Nat → ByteArray) (n : Nat) : ∀ u ∈ wL A X n, u.oneCell' = true := by
  intro u hu
  obtain ⟨j, _, rfl⟩ := List.mem_map.1 hu
  unfold wF cWr
  split <;> rfl
theorem own_val1 {w : World} {base e n : Nat} {v : Value} {S : Nat → ByteArray} (h : w.ownsRow base e 1 v n (sL S n)) : valM 1 w v n (sC S) := valM.of_own h (fun j hj => sL_at S n j hj)
theorem own_val2 {w : World} {base e n : Nat} {v : Value} {A : Nat → Int} {X : Nat → ByteArray} (h : w.ownsRow base e 2 v n (wL A X n)) : valM 2 w v n (wF A X) := valM.of_own h (fun j hj => wL_at A X n j hj)
theorem own_slice {w : World} {base e size n : Nat} {v : Value} {xs : List Value} (h : w.ownsRow base e size v n xs) : ∃ a c, v = .slice a n c := by
  rcases h.2 with ⟨h1, h2⟩ | ⟨g, c, _, h1, _⟩
  · exact ⟨none, 0, by rw [h1, h2]⟩
  · exact ⟨_, c, h1⟩
theorem addr_add (r o j : Nat) : (⟨r, o, none⟩ : Addr).add j = ⟨r, o + j, none⟩ := by
  unfold Addr.add
  split
  · rename_i h; rw [h]; rfl
  · rfl
theorem strI.news {w : World} {B : Nat} {sa : Option Addr} {n sk : Nat} {S : Nat → ByteArray} (h : strI w B (.slice sa n sk) n S) : n = 0 ∨ ∃ ad, sa = some ad ∧ ∀ j u, (sL S n)[j]? = some u → w.cell? (ad.add j) = some u := by
  obtain ⟨a, cap, e, _, h⟩ := h
  cases e
  refine h.imp id (fun ⟨r, o, ea, _, hc⟩ => ⟨_, ea, fun j u hu => ?_⟩)
  have hj : j < (sL S n).length := (List.getElem?_eq_some_iff.1 hu).1
  rw [sL_len] at hj
  rw [sL_at S n j hj] at hu
  cases hu
  have := hc j (by omega)
  rw [addr_add]; exact this
theorem sliI.news {w : World} {B : Nat} {ca : Option Addr} {n ck : Nat} {A : Nat → Int} {X : Nat → ByteArray} (h : sliI 2 w B (.slice ca n ck) n (cWr A X)) : n = 0 ∨ ∃ ad, ca = some ad ∧ ∀ j u, (wL A X n)[j]? = some u → w.cell? (ad.add j) = some u := by
  obtain ⟨a, cap, e, _, h⟩ := h
  cases e
  refine h.imp id (fun ⟨r, o, ea, _, hc⟩ => ⟨_, ea, fun j u hu => ?_⟩)
  have hj : j < (wL A X n).length := (List.getElem?_eq_some_iff.1 hu).1
  rw [wL_len] at hj
  rw [wL_at A X n j hj] at hu
  cases hu
  have := hc (j / 2) (by omega) (j % 2) (by omega)
  rw [show o + 2 * (j / 2) + j % 2 = o + j by omega] at this
  rw [addr_add]; exact this
/-- The blocks of two values differ. -/
theorem own_base {w : World} {b c e s n : Nat} {v : Value} {xs : List Value} (h : w.ownsRow b e s v n xs) (hc : c ≤ b) : w.ownsRow c e s v n xs :=
  ⟨h.1, h.2.imp id (fun ⟨g, cap, cur, h1, h2, h3⟩ => ⟨g, cap, cur, h1, Nat.le_trans hc h2, h3⟩)⟩
def apartV (u v : Value) : Prop := ∀ k, u.ownBlock = some k → v.ownBlock ≠ some k
set_option maxRecDepth 100000 in
set_option maxHeartbeats 1600000 in
theorem spec_copyO (v : Value) (nS : Nat) (S : Nat → ByteArray) (nC : Nat) (A : Nat → Int) (X : Nat → ByteArray) (w : World) (hS : nS ≤ 1048576) (hC : nC ≤ 1048576) (h : dskI w w.heap.size v nS S nC A X) :
    Calls Try.prog 57 #[v] w fun e w' => ∃ sv cv, e = .returned (.agg #[sv, cv]) ∧ w'.ownsRow w.heap.size 9 1 sv nS (sL S nS) ∧ w'.ownsRow w.heap.size 70 2 cv nC (wL A X nC) ∧ apartV sv cv ∧ Below w.heap.size w w' := by
  obtain ⟨is, his, hzs0, hzs1, hzs2⟩ := info_parts Try.infoStr
  obtain ⟨iw, hiw, hzw0, hzw1, hzw2⟩ := info_parts Try.infoWr
  obtain ⟨sv, cv, rfl, hs, hc⟩ := h
  obtain ⟨sa, sk, e1⟩ : ∃ a c, sv = .slice a nS c := by obtain ⟨a, c, e, _⟩ := hs; exact ⟨a, c, e⟩
  obtain ⟨ca, ck, e2⟩ : ∃ a c, cv = .slice a nC c := by obtain ⟨a, c, e, _⟩ := hc; exact ⟨a, c, e⟩
  subst e1 e2
  have HS := hide hs
  have HC := hide hc
  clear hs hc
  go_enter Try.func57, Try.ntmps57
  go_wp2_with fail
  have q0 : Below w.heap.size w ((w.alloc (.cells #[.slice sa nS sk, .slice ca nC ck] 26)).alloc (.cells #[.slice none 0 0, .slice none 0 0] 26)) := ((Below.refl _ w).alloc (Nat.le_refl _) _).alloc (by simp) _
  have qs : ((w.alloc (.cells #[.slice sa nS sk, .slice ca nC ck] 26)).alloc (.cells #[.slice none 0 0, .slice none 0 0] 26)).heap.size = w.heap.size + 2 := by simp
  have q1 : ((w.alloc (.cells #[.slice sa nS sk, .slice ca nC ck] 26)).alloc (.cells #[.slice none 0 0, .slice none 0 0] 26)).heap[w.heap.size]? = some (.cells #[.slice sa nS sk, .slice ca nC ck] 26) := (Below.heap_alloc _ _ _ (by simp)).trans (heap_alloc_new _ _)
  have q2 : ((w.alloc (.cells #[.slice sa nS sk, .slice ca nC ck] 26)).alloc (.cells #[.slice none 0 0, .slice none 0 0] 26)).heap[w.heap.size + 1]? = some (.cells #[.slice none 0 0, .slice none 0 0] 26) := by have := heap_alloc_new (w.alloc (.cells #[.slice sa nS sk, .slice ca nC ck] 26)) (.cells #[.slice none 0 0, .slice none 0 0] 26); rwa [World.size_alloc] at this
  generalize ((w.alloc (.cells #[.slice sa nS sk, .slice ca nC ck] 26)).alloc (.cells #[.slice none 0 0, .slice none 0 0] 26)) = W2 at *
  have SA : ∀ u : World, Below W2.heap.size W2 u → u.cell? ⟨w.heap.size, 0, none⟩ = some (.slice sa nS sk) ∧ u.cell? ⟨w.heap.size, 1, none⟩ = some (.slice ca nC ck) := fun u hu => by
    have hb := (hu.block w.heap.size (by omega)).trans q1
    exact ⟨by simp [World.cell?, hb], by simp [World.cell?, hb]⟩
  have NS : ∀ u : World, Below W2.heap.size W2 u → nS = 0 ∨ ∃ ad, sa = some ad ∧ ∀ j x, (sL S nS)[j]? = some x → u.cell? (ad.add j) = some x := fun u hu => ((HS.out.below q0).below (hu.mono (by omega))).news
  have NC : ∀ u : World, Below W2.heap.size W2 u → nC = 0 ∨ ∃ ad, ca = some ad ∧ ∀ j x, (wL A X nC)[j]? = some x → u.cell? (ad.add j) = some x := fun u hu => ((HC.out.below q0).below (hu.mono (by omega))).news
  have B0 : Below W2.heap.size W2 W2.drew := (Below.refl _ _).drew
  refine wp_region_held_drew (S := fun u => u.cell? ⟨w.heap.size, 0, none⟩ = some (.slice sa nS sk) ∧ u.cell? ⟨w.heap.size, 1, none⟩ = some (.slice ca nC ck)) (by kernel_rfl) (SA _ B0) (fun hHeld => ?_)
  refine takeD (i := 1) (v := .pointer (some ⟨w.heap.size, 0, none⟩)) (some 4) rfl rfl (by kernel_rfl) (by kernel_rfl) (by kernel_rfl) (fun _ _ _ h => h) (Or.inl ⟨by rfl, fun w hSw => by go_simp⟩) hHeld ?_
  simp only [Act.put, List.setIfInBounds_toArray, List.set_cons_zero, List.set_cons_succ]
  refine takeD (i := 2) (v := .slice sa nS sk) (some 5) rfl rfl (by kernel_rfl) (by kernel_rfl) (by kernel_rfl) (fun _ _ _ h => h) (Or.inl ⟨by rfl, fun w hSw => by obtain ⟨s0, s1⟩ := hSw; go_simp⟩) hHeld ?_
  simp only [Act.put, List.setIfInBounds_toArray, List.set_cons_zero, List.set_cons_succ]
  refine takeD (i := 5) (v := .pointer (some ⟨w.heap.size, 1, none⟩)) (some 8) rfl rfl (by kernel_rfl) (by kernel_rfl) (by kernel_rfl) (fun _ _ _ h => h) (Or.inl ⟨by rfl, fun w hSw => by go_simp⟩) hHeld ?_
  simp only [Act.put, List.setIfInBounds_toArray, List.set_cons_zero, List.set_cons_succ]
  refine takeD (i := 6) (v := .slice ca nC ck) (some 9) rfl rfl (by kernel_rfl) (by kernel_rfl) (by kernel_rfl) (fun _ _ _ h => h) (Or.inl ⟨by rfl, fun w hSw => by obtain ⟨s0, s1⟩ := hSw; go_simp⟩) hHeld ?_
  simp only [Act.put, List.setIfInBounds_toArray, List.set_cons_zero, List.set_cons_succ]
  generalize hWd : W2.drew = W at *
  have hW2 : W2.heap.size ≤ W.heap.size := B0.size
  refine wpAnyH_ready (rs := [0, 4]) (by kernel_rfl) (by simp) ?_
  refine AllReadyH.cons rfl (fun KK hK => ?_) (AllReadyH.cons rfl (fun KK hK => ?_) AllReadyH.nil)
  · go_simp
    have B1 : Below W2.heap.size W2 (W.alloc (.cells #[] 9)) := B0.alloc B0.size _
    have o1 : (W.alloc (.cells #[] 9)).ownsRow W2.heap.size 9 1 (.slice (some ⟨W.heap.size, 0, none⟩) 0 0) 0 [] := by
      have h := World.ownsRow_made (e := 9) (size := 1) (base := W2.heap.size) W #[] 0 B0.size (by decide) (by simp)
      simpa using h
    generalize hg1 : W.alloc (.cells #[] 9) = W1_ at *
    have hz1 : W.heap.size < W1_.heap.size := by rw [← hg1]; simp
    refine hK.out _ _ (SA _ B1) (fun hHeld => ?_)
    clear hK KK
    refine wpAnyH_ready (rs := [3, 4]) (by kernel_rfl) (by simp) ?_
    refine AllReadyH.cons rfl (fun KK hK => ?_) (AllReadyH.cons rfl (fun KK hK => ?_) AllReadyH.nil)
    · refine step_append_any W1_ (some 6) rfl rfl (.tmp 3) (.tmp 5) 23 rfl W2.heap.size 9 is (.string ⟨#[]⟩) 1 16 Try.underlying23 his hzs0 hzs1 hzs2 rfl (by decide) (.slice (some ⟨W.heap.size, 0, none⟩) 0 0) 0 [] rfl o1 sa nS sk (sL S nS) rfl (sL_len S nS) (NS _ B1) (sL_one S nS) (by unfold maxLen; omega) (by omega) B1.size ?_
      intro v2 W2_ o2 g2 t2
      rw [Nat.zero_add, List.nil_append] at o2
      have B2 : Below W2.heap.size W2 W2_ := B1.grown g2 B1.size (fun k hk => (o1.lt k hk).1)
      simp only [Act.put, List.setIfInBounds_toArray, List.set_cons_zero, List.set_cons_succ]
      refine hK.out _ _ (SA _ B2) (fun hHeld => ?_)
      clear hK KK
      refine wpAnyH_ready (rs := [4]) (by kernel_rfl) (by simp) ?_
      refine AllReadyH.cons rfl (fun KK hK => ?_) AllReadyH.nil
      · go_simp
        have B3 : Below W2.heap.size W2 (W2_.alloc (.cells #[] 70)) := B2.alloc B2.size _
        have o3 : (W2_.alloc (.cells #[] 70)).ownsRow W2.heap.size 70 2 (.slice (some ⟨W2_.heap.size, 0, none⟩) 0 0) 0 [] := by
          have h := World.ownsRow_made (e := 70) (size := 2) (base := W2.heap.size) W2_ #[] 0 B2.size (by decide) (by simp)
          simpa using h
        have k3 : apartV v2 (.slice (some ⟨W2_.heap.size, 0, none⟩) 0 0) := fun k hk e => by have := (o2.lt k hk).2; have e2 : W2_.heap.size = k := (by cases e; rfl); omega
        have p3 := o2.alloc (.cells #[] 70)
        generalize hg3 : W2_.alloc (.cells #[] 70) = W3_ at *
        have hz3 : W2_.heap.size < W3_.heap.size := by rw [← hg3]; simp
        refine hK.out _ _ (SA _ B3) (fun hHeld => ?_)
        clear hK KK
        refine wpAnyH_ready (rs := [7]) (by kernel_rfl) (by simp) ?_
        refine AllReadyH.cons rfl (fun KK hK => ?_) AllReadyH.nil
        · refine step_append_any W3_ (some 10) rfl rfl (.tmp 7) (.tmp 9) 24 rfl W2.heap.size 70 iw (.agg #[.int .i64 0, .string ⟨#[]⟩]) 2 24 Try.underlying24 hiw hzw0 hzw1 hzw2 rfl (by decide) (.slice (some ⟨W2_.heap.size, 0, none⟩) 0 0) 0 [] rfl o3 ca nC ck (wL A X nC) rfl (wL_len A X nC) (NC _ B3) (wL_one A X nC) (by unfold maxLen; omega) (by omega) B3.size ?_
          intro v4 W4_ o4 g4 t4
          rw [Nat.zero_add, List.nil_append] at o4
          have B4 : Below W2.heap.size W2 W4_ := B3.grown g4 B3.size (fun k hk => (o3.lt k hk).1)
          have p4 := own_of_block p3 (fun k hk => g4.block k (p3.lt k hk).2 (fun e => (fun k hk e => k3 k hk e) k hk e.symm))
          have k4 : apartV v2 v4 := fun k hk e => by
            rcases t4 k e with h | h
            · exact (fun k hk e => k3 k hk e) k hk h
            · have := (p3.lt k hk).2; omega
          simp only [Act.put, List.setIfInBounds_toArray, List.set_cons_zero, List.set_cons_succ]
          refine hK.out _ _ (SA _ B4) (fun hHeld => ?_)
          clear hK KK
          obtain ⟨aa, ka, ea⟩ := own_slice p4
          obtain ⟨ab, kb, eb⟩ := own_slice o4
          have AP : apartV v2 v4 := (fun k hk e => k4 k hk e)
          rw [ea] at p4 AP
          rw [eb] at o4 AP
          rw [ea, eb]
          refine takeD (i := 8) (v := .agg #[.slice aa nS ka, .slice ab nC kb]) (some 11) rfl rfl (by kernel_rfl) (by kernel_rfl) (by kernel_rfl) (fun _ _ _ h => h) (Or.inl ⟨by rfl, fun w hSw => by go_simp⟩) hHeld ?_
          simp only [Act.put, List.setIfInBounds_toArray, List.set_cons_zero, List.set_cons_succ]
          refine wpAnyH_ready (rs := [9]) (by kernel_rfl) (by simp) ?_
          refine AllReadyH.cons rfl (fun KK hK => ?_) AllReadyH.nil
          have r1 := (B4.block (w.heap.size + 1) (by omega)).trans q2
          have l0 : W4_.cell? ⟨w.heap.size + 1, 0, none⟩ = some (.slice none 0 0) := by simp [World.cell?, r1]
          have f0 : W4_.frozen? ⟨w.heap.size + 1, 0, none⟩ = false := by simp [World.frozen?, r1]
          have l1 : W4_.cell? ⟨w.heap.size + 1, 1, none⟩ = some (.slice none 0 0) := by simp [World.cell?, r1]
          have f1 : W4_.frozen? ⟨w.heap.size + 1, 1, none⟩ = false := by simp [World.frozen?, r1]
          have u1 : ((W4_.setCell ⟨w.heap.size + 1, 0, none⟩ (.slice aa nS ka)).setCell ⟨w.heap.size + 1, 1, none⟩ (.slice ab nC kb)).heap[w.heap.size + 1]? = some (.cells #[.slice aa nS ka, .slice ab nC kb] 26) := by simp [World.setCell, Array.getElem?_modify, r1]
          have u2 : ((W4_.setCell ⟨w.heap.size + 1, 0, none⟩ (.slice aa nS ka)).setCell ⟨w.heap.size + 1, 1, none⟩ (.slice ab nC kb)).heap.size = W4_.heap.size := by simp [World.setCell]
          have n1 : ∀ k, (Value.slice aa nS ka).ownBlock = some k → k ≠ w.heap.size + 1 := fun k hk => by have := (p4.lt k hk).1; omega
          have n2 : ∀ k, (Value.slice ab nC kb).ownBlock = some k → k ≠ w.heap.size + 1 := fun k hk => by have := (o4.lt k hk).1; omega
          have u7 : ∀ g, g ≠ w.heap.size + 1 → ((W4_.setCell ⟨w.heap.size + 1, 0, none⟩ (.slice aa nS ka)).setCell ⟨w.heap.size + 1, 1, none⟩ (.slice ab nC kb)).heap[g]? = W4_.heap[g]? := fun g hg => (set1_o _ _ _ _ _ hg).trans (set1_o _ _ _ _ _ hg)
          have u4 := own_base (own_of_block p4 (w' := ((W4_.setCell ⟨w.heap.size + 1, 0, none⟩ (.slice aa nS ka)).setCell ⟨w.heap.size + 1, 1, none⟩ (.slice ab nC kb))) (fun k hk => u7 k (n1 k hk))) (show w.heap.size ≤ W2.heap.size by omega)
          have u5 := own_base (own_of_block o4 (w' := ((W4_.setCell ⟨w.heap.size + 1, 0, none⟩ (.slice aa nS ka)).setCell ⟨w.heap.size + 1, 1, none⟩ (.slice ab nC kb))) (fun k hk => u7 k (n2 k hk))) (show w.heap.size ≤ W2.heap.size by omega)
          have u6 : Below w.heap.size w ((W4_.setCell ⟨w.heap.size + 1, 0, none⟩ (.slice aa nS ka)).setCell ⟨w.heap.size + 1, 1, none⟩ (.slice ab nC kb)) := below_set (below_set (q0.trans (B4.mono (by omega))) _ 0 (by omega) _) _ 1 (by omega) _
          have S9 : ((W4_.setCell ⟨w.heap.size + 1, 0, none⟩ (.slice aa nS ka)).setCell ⟨w.heap.size + 1, 1, none⟩ (.slice ab nC kb)).cell? ⟨w.heap.size, 0, none⟩ = some (.slice sa nS sk) ∧ ((W4_.setCell ⟨w.heap.size + 1, 0, none⟩ (.slice aa nS ka)).setCell ⟨w.heap.size + 1, 1, none⟩ (.slice ab nC kb)).cell? ⟨w.heap.size, 1, none⟩ = some (.slice ca nC ck) := ⟨(World.cell?_of_block (w := W4_) (a := ⟨w.heap.size, 0, none⟩) (u7 _ (by show w.heap.size ≠ _; omega))).trans hHeld.1, (World.cell?_of_block (w := W4_) (a := ⟨w.heap.size, 1, none⟩) (u7 _ (by show w.heap.size ≠ _; omega))).trans hHeld.2⟩
          go_simp
          generalize ((W4_.setCell ⟨w.heap.size + 1, 0, none⟩ (.slice aa nS ka)).setCell ⟨w.heap.size + 1, 1, none⟩ (.slice ab nC kb)) = w9 at *
          refine hK.out _ _ S9 (fun hHeld => ?_)
          clear hK KK
          refine wpAnyH_done (by kernel_rfl) ?_ _
          have U := hide (And.intro u1 (And.intro u4 (And.intro u5 u6)))
          go_wp2_with fail
          obtain ⟨u1, u4, u5, u6⟩ := U.out
          exact bodyPost_ret (results_cell_row Try.results57 _ _ (w.heap.size + 1) 26 #[.slice aa nS ka, .slice ab nC kb] (0, 0) _ rfl u1 Try.underlying26 rfl (by kernel_rfl)) rfl ⟨_, _, rfl, u4, u5, AP, u6⟩
    · go_simp
      have B2 : Below W2.heap.size W2 (W1_.alloc (.cells #[] 70)) := B1.alloc B1.size _
      have o2 : (W1_.alloc (.cells #[] 70)).ownsRow W2.heap.size 70 2 (.slice (some ⟨W1_.heap.size, 0, none⟩) 0 0) 0 [] := by
        have h := World.ownsRow_made (e := 70) (size := 2) (base := W2.heap.size) W1_ #[] 0 B1.size (by decide) (by simp)
        simpa using h
      have k2 : apartV (.slice (some ⟨W.heap.size, 0, none⟩) 0 0) (.slice (some ⟨W1_.heap.size, 0, none⟩) 0 0) := fun k hk e => by have := (o1.lt k hk).2; have e2 : W1_.heap.size = k := (by cases e; rfl); omega
      have p2 := o1.alloc (.cells #[] 70)
      generalize hg2 : W1_.alloc (.cells #[] 70) = W2_ at *
      have hz2 : W1_.heap.size < W2_.heap.size := by rw [← hg2]; simp
      refine hK.out _ _ (SA _ B2) (fun hHeld => ?_)
      clear hK KK
      refine wpAnyH_ready (rs := [3]) (by kernel_rfl) (by simp) ?_
      refine AllReadyH.cons rfl (fun KK hK => ?_) AllReadyH.nil
      · refine step_append_any W2_ (some 6) rfl rfl (.tmp 3) (.tmp 5) 23 rfl W2.heap.size 9 is (.string ⟨#[]⟩) 1 16 Try.underlying23 his hzs0 hzs1 hzs2 rfl (by decide) (.slice (some ⟨W.heap.size, 0, none⟩) 0 0) 0 [] rfl p2 sa nS sk (sL S nS) rfl (sL_len S nS) (NS _ B2) (sL_one S nS) (by unfold maxLen; omega) (by omega) B2.size ?_
        intro v3 W3_ o3 g3 t3
        rw [Nat.zero_add, List.nil_append] at o3
        have B3 : Below W2.heap.size W2 W3_ := B2.grown g3 B2.size (fun k hk => (p2.lt k hk).1)
        have p3 := own_of_block o2 (fun k hk => g3.block k (o2.lt k hk).2 (fun e => (fun k hk e => k2 k e hk) k hk e.symm))
        have k3 : apartV (.slice (some ⟨W1_.heap.size, 0, none⟩) 0 0) v3 := fun k hk e => by
          rcases t3 k e with h | h
          · exact (fun k hk e => k2 k e hk) k hk h
          · have := (o2.lt k hk).2; omega
        simp only [Act.put, List.setIfInBounds_toArray, List.set_cons_zero, List.set_cons_succ]
        refine hK.out _ _ (SA _ B3) (fun hHeld => ?_)
        clear hK KK
        refine wpAnyH_ready (rs := [7]) (by kernel_rfl) (by simp) ?_
        refine AllReadyH.cons rfl (fun KK hK => ?_) AllReadyH.nil
        · refine step_append_any W3_ (some 10) rfl rfl (.tmp 7) (.tmp 9) 24 rfl W2.heap.size 70 iw (.agg #[.int .i64 0, .string ⟨#[]⟩]) 2 24 Try.underlying24 hiw hzw0 hzw1 hzw2 rfl (by decide) (.slice (some ⟨W1_.heap.size, 0, none⟩) 0 0) 0 [] rfl p3 ca nC ck (wL A X nC) rfl (wL_len A X nC) (NC _ B3) (wL_one A X nC) (by unfold maxLen; omega) (by omega) B3.size ?_
          intro v4 W4_ o4 g4 t4
          rw [Nat.zero_add, List.nil_append] at o4
          have B4 : Below W2.heap.size W2 W4_ := B3.grown g4 B3.size (fun k hk => (p3.lt k hk).1)
          have p4 := own_of_block o3 (fun k hk => g4.block k (o3.lt k hk).2 (fun e => (fun k hk e => k3 k e hk) k hk e.symm))
          have k4 : apartV v3 v4 := fun k hk e => by
            rcases t4 k e with h | h
            · exact (fun k hk e => k3 k e hk) k hk h
            · have := (o3.lt k hk).2; omega
          simp only [Act.put, List.setIfInBounds_toArray, List.set_cons_zero, List.set_cons_succ]
          refine hK.out _ _ (SA _ B4) (fun hHeld => ?_)
          clear hK KK
          obtain ⟨aa, ka, ea⟩ := own_slice p4
          obtain ⟨ab, kb, eb⟩ := own_slice o4
          have AP : apartV v3 v4 := (fun k hk e => k4 k hk e)
          rw [ea] at p4 AP
          rw [eb] at o4 AP
          rw [ea, eb]
          refine takeD (i := 8) (v := .agg #[.slice aa nS ka, .slice ab nC kb]) (some 11) rfl rfl (by kernel_rfl) (by kernel_rfl) (by kernel_rfl) (fun _ _ _ h => h) (Or.inl ⟨by rfl, fun w hSw => by go_simp⟩) hHeld ?_
          simp only [Act.put, List.setIfInBounds_toArray, List.set_cons_zero, List.set_cons_succ]
          refine wpAnyH_ready (rs := [9]) (by kernel_rfl) (by simp) ?_
          refine AllReadyH.cons rfl (fun KK hK => ?_) AllReadyH.nil
          have r1 := (B4.block (w.heap.size + 1) (by omega)).trans q2
          have l0 : W4_.cell? ⟨w.heap.size + 1, 0, none⟩ = some (.slice none 0 0) := by simp [World.cell?, r1]
          have f0 : W4_.frozen? ⟨w.heap.size + 1, 0, none⟩ = false := by simp [World.frozen?, r1]
          have l1 : W4_.cell? ⟨w.heap.size + 1, 1, none⟩ = some (.slice none 0 0) := by simp [World.cell?, r1]
          have f1 : W4_.frozen? ⟨w.heap.size + 1, 1, none⟩ = false := by simp [World.frozen?, r1]
          have u1 : ((W4_.setCell ⟨w.heap.size + 1, 0, none⟩ (.slice aa nS ka)).setCell ⟨w.heap.size + 1, 1, none⟩ (.slice ab nC kb)).heap[w.heap.size + 1]? = some (.cells #[.slice aa nS ka, .slice ab nC kb] 26) := by simp [World.setCell, Array.getElem?_modify, r1]
          have u2 : ((W4_.setCell ⟨w.heap.size + 1, 0, none⟩ (.slice aa nS ka)).setCell ⟨w.heap.size + 1, 1, none⟩ (.slice ab nC kb)).heap.size = W4_.heap.size := by simp [World.setCell]
          have n1 : ∀ k, (Value.slice aa nS ka).ownBlock = some k → k ≠ w.heap.size + 1 := fun k hk => by have := (p4.lt k hk).1; omega
          have n2 : ∀ k, (Value.slice ab nC kb).ownBlock = some k → k ≠ w.heap.size + 1 := fun k hk => by have := (o4.lt k hk).1; omega
          have u7 : ∀ g, g ≠ w.heap.size + 1 → ((W4_.setCell ⟨w.heap.size + 1, 0, none⟩ (.slice aa nS ka)).setCell ⟨w.heap.size + 1, 1, none⟩ (.slice ab nC kb)).heap[g]? = W4_.heap[g]? := fun g hg => (set1_o _ _ _ _ _ hg).trans (set1_o _ _ _ _ _ hg)
          have u4 := own_base (own_of_block p4 (w' := ((W4_.setCell ⟨w.heap.size + 1, 0, none⟩ (.slice aa nS ka)).setCell ⟨w.heap.size + 1, 1, none⟩ (.slice ab nC kb))) (fun k hk => u7 k (n1 k hk))) (show w.heap.size ≤ W2.heap.size by omega)
          have u5 := own_base (own_of_block o4 (w' := ((W4_.setCell ⟨w.heap.size + 1, 0, none⟩ (.slice aa nS ka)).setCell ⟨w.heap.size + 1, 1, none⟩ (.slice ab nC kb))) (fun k hk => u7 k (n2 k hk))) (show w.heap.size ≤ W2.heap.size by omega)
          have u6 : Below w.heap.size w ((W4_.setCell ⟨w.heap.size + 1, 0, none⟩ (.slice aa nS ka)).setCell ⟨w.heap.size + 1, 1, none⟩ (.slice ab nC kb)) := below_set (below_set (q0.trans (B4.mono (by omega))) _ 0 (by omega) _) _ 1 (by omega) _
          have S9 : ((W4_.setCell ⟨w.heap.size + 1, 0, none⟩ (.slice aa nS ka)).setCell ⟨w.heap.size + 1, 1, none⟩ (.slice ab nC kb)).cell? ⟨w.heap.size, 0, none⟩ = some (.slice sa nS sk) ∧ ((W4_.setCell ⟨w.heap.size + 1, 0, none⟩ (.slice aa nS ka)).setCell ⟨w.heap.size + 1, 1, none⟩ (.slice ab nC kb)).cell? ⟨w.heap.size, 1, none⟩ = some (.slice ca nC ck) := ⟨(World.cell?_of_block (w := W4_) (a := ⟨w.heap.size, 0, none⟩) (u7 _ (by show w.heap.size ≠ _; omega))).trans hHeld.1, (World.cell?_of_block (w := W4_) (a := ⟨w.heap.size, 1, none⟩) (u7 _ (by show w.heap.size ≠ _; omega))).trans hHeld.2⟩
          go_simp
          generalize ((W4_.setCell ⟨w.heap.size + 1, 0, none⟩ (.slice aa nS ka)).setCell ⟨w.heap.size + 1, 1, none⟩ (.slice ab nC kb)) = w9 at *
          refine hK.out _ _ S9 (fun hHeld => ?_)
          clear hK KK
          refine wpAnyH_done (by kernel_rfl) ?_ _
          have U := hide (And.intro u1 (And.intro u4 (And.intro u5 u6)))
          go_wp2_with fail
          obtain ⟨u1, u4, u5, u6⟩ := U.out
          exact bodyPost_ret (results_cell_row Try.results57 _ _ (w.heap.size + 1) 26 #[.slice aa nS ka, .slice ab nC kb] (0, 0) _ rfl u1 Try.underlying26 rfl (by kernel_rfl)) rfl ⟨_, _, rfl, u4, u5, AP, u6⟩
  · go_simp
    have B1 : Below W2.heap.size W2 (W.alloc (.cells #[] 70)) := B0.alloc B0.size _
    have o1 : (W.alloc (.cells #[] 70)).ownsRow W2.heap.size 70 2 (.slice (some ⟨W.heap.size, 0, none⟩) 0 0) 0 [] := by
      have h := World.ownsRow_made (e := 70) (size := 2) (base := W2.heap.size) W #[] 0 B0.size (by decide) (by simp)
      simpa using h
    generalize hg1 : W.alloc (.cells #[] 70) = W1_ at *
    have hz1 : W.heap.size < W1_.heap.size := by rw [← hg1]; simp
    refine hK.out _ _ (SA _ B1) (fun hHeld => ?_)
    clear hK KK
    refine wpAnyH_ready (rs := [0]) (by kernel_rfl) (by simp) ?_
    refine AllReadyH.cons rfl (fun KK hK => ?_) AllReadyH.nil
    · go_simp
      have B2 : Below W2.heap.size W2 (W1_.alloc (.cells #[] 9)) := B1.alloc B1.size _
      have o2 : (W1_.alloc (.cells #[] 9)).ownsRow W2.heap.size 9 1 (.slice (some ⟨W1_.heap.size, 0, none⟩) 0 0) 0 [] := by
        have h := World.ownsRow_made (e := 9) (size := 1) (base := W2.heap.size) W1_ #[] 0 B1.size (by decide) (by simp)
        simpa using h
      have k2 : apartV (.slice (some ⟨W.heap.size, 0, none⟩) 0 0) (.slice (some ⟨W1_.heap.size, 0, none⟩) 0 0) := fun k hk e => by have := (o1.lt k hk).2; have e2 : W1_.heap.size = k := (by cases e; rfl); omega
      have p2 := o1.alloc (.cells #[] 9)
      generalize hg2 : W1_.alloc (.cells #[] 9) = W2_ at *
      have hz2 : W1_.heap.size < W2_.heap.size := by rw [← hg2]; simp
      refine hK.out _ _ (SA _ B2) (fun hHeld => ?_)
      clear hK KK
      refine wpAnyH_ready (rs := [3]) (by kernel_rfl) (by simp) ?_
      refine AllReadyH.cons rfl (fun KK hK => ?_) AllReadyH.nil
      · refine step_append_any W2_ (some 6) rfl rfl (.tmp 3) (.tmp 5) 23 rfl W2.heap.size 9 is (.string ⟨#[]⟩) 1 16 Try.underlying23 his hzs0 hzs1 hzs2 rfl (by decide) (.slice (some ⟨W1_.heap.size, 0, none⟩) 0 0) 0 [] rfl o2 sa nS sk (sL S nS) rfl (sL_len S nS) (NS _ B2) (sL_one S nS) (by unfold maxLen; omega) (by omega) B2.size ?_
        intro v3 W3_ o3 g3 t3
        rw [Nat.zero_add, List.nil_append] at o3
        have B3 : Below W2.heap.size W2 W3_ := B2.grown g3 B2.size (fun k hk => (o2.lt k hk).1)
        have p3 := own_of_block p2 (fun k hk => g3.block k (p2.lt k hk).2 (fun e => (fun k hk e => k2 k hk e) k hk e.symm))
        have k3 : apartV (.slice (some ⟨W.heap.size, 0, none⟩) 0 0) v3 := fun k hk e => by
          rcases t3 k e with h | h
          · exact (fun k hk e => k2 k hk e) k hk h
          · have := (p2.lt k hk).2; omega
        simp only [Act.put, List.setIfInBounds_toArray, List.set_cons_zero, List.set_cons_succ]
        refine hK.out _ _ (SA _ B3) (fun hHeld => ?_)
        clear hK KK
        refine wpAnyH_ready (rs := [7]) (by kernel_rfl) (by simp) ?_
        refine AllReadyH.cons rfl (fun KK hK => ?_) AllReadyH.nil
        · refine step_append_any W3_ (some 10) rfl rfl (.tmp 7) (.tmp 9) 24 rfl W2.heap.size 70 iw (.agg #[.int .i64 0, .string ⟨#[]⟩]) 2 24 Try.underlying24 hiw hzw0 hzw1 hzw2 rfl (by decide) (.slice (some ⟨W.heap.size, 0, none⟩) 0 0) 0 [] rfl p3 ca nC ck (wL A X nC) rfl (wL_len A X nC) (NC _ B3) (wL_one A X nC) (by unfold maxLen; omega) (by omega) B3.size ?_
          intro v4 W4_ o4 g4 t4
          rw [Nat.zero_add, List.nil_append] at o4
          have B4 : Below W2.heap.size W2 W4_ := B3.grown g4 B3.size (fun k hk => (p3.lt k hk).1)
          have p4 := own_of_block o3 (fun k hk => g4.block k (o3.lt k hk).2 (fun e => (fun k hk e => k3 k e hk) k hk e.symm))
          have k4 : apartV v3 v4 := fun k hk e => by
            rcases t4 k e with h | h
            · exact (fun k hk e => k3 k e hk) k hk h
            · have := (o3.lt k hk).2; omega
          simp only [Act.put, List.setIfInBounds_toArray, List.set_cons_zero, List.set_cons_succ]
          refine hK.out _ _ (SA _ B4) (fun hHeld => ?_)
          clear hK KK
          obtain ⟨aa, ka, ea⟩ := own_slice p4
          obtain ⟨ab, kb, eb⟩ := own_slice o4
          have AP : apartV v3 v4 := (fun k hk e => k4 k hk e)
          rw [ea] at p4 AP
          rw [eb] at o4 AP
          rw [ea, eb]
          refine takeD (i := 8) (v := .agg #[.slice aa nS ka, .slice ab nC kb]) (some 11) rfl rfl (by kernel_rfl) (by kernel_rfl) (by kernel_rfl) (fun _ _ _ h => h) (Or.inl ⟨by rfl, fun w hSw => by go_simp⟩) hHeld ?_
          simp only [Act.put, List.setIfInBounds_toArray, List.set_cons_zero, List.set_cons_succ]
          refine wpAnyH_ready (rs := [9]) (by kernel_rfl) (by simp) ?_
          refine AllReadyH.cons rfl (fun KK hK => ?_) AllReadyH.nil
          have r1 := (B4.block (w.heap.size + 1) (by omega)).trans q2
          have l0 : W4_.cell? ⟨w.heap.size + 1, 0, none⟩ = some (.slice none 0 0) := by simp [World.cell?, r1]
          have f0 : W4_.frozen? ⟨w.heap.size + 1, 0, none⟩ = false := by simp [World.frozen?, r1]
          have l1 : W4_.cell? ⟨w.heap.size + 1, 1, none⟩ = some (.slice none 0 0) := by simp [World.cell?, r1]
          have f1 : W4_.frozen? ⟨w.heap.size + 1, 1, none⟩ = false := by simp [World.frozen?, r1]
          have u1 : ((W4_.setCell ⟨w.heap.size + 1, 0, none⟩ (.slice aa nS ka)).setCell ⟨w.heap.size + 1, 1, none⟩ (.slice ab nC kb)).heap[w.heap.size + 1]? = some (.cells #[.slice aa nS ka, .slice ab nC kb] 26) := by simp [World.setCell, Array.getElem?_modify, r1]
          have u2 : ((W4_.setCell ⟨w.heap.size + 1, 0, none⟩ (.slice aa nS ka)).setCell ⟨w.heap.size + 1, 1, none⟩ (.slice ab nC kb)).heap.size = W4_.heap.size := by simp [World.setCell]
          have n1 : ∀ k, (Value.slice aa nS ka).ownBlock = some k → k ≠ w.heap.size + 1 := fun k hk => by have := (p4.lt k hk).1; omega
          have n2 : ∀ k, (Value.slice ab nC kb).ownBlock = some k → k ≠ w.heap.size + 1 := fun k hk => by have := (o4.lt k hk).1; omega
          have u7 : ∀ g, g ≠ w.heap.size + 1 → ((W4_.setCell ⟨w.heap.size + 1, 0, none⟩ (.slice aa nS ka)).setCell ⟨w.heap.size + 1, 1, none⟩ (.slice ab nC kb)).heap[g]? = W4_.heap[g]? := fun g hg => (set1_o _ _ _ _ _ hg).trans (set1_o _ _ _ _ _ hg)
          have u4 := own_base (own_of_block p4 (w' := ((W4_.setCell ⟨w.heap.size + 1, 0, none⟩ (.slice aa nS ka)).setCell ⟨w.heap.size + 1, 1, none⟩ (.slice ab nC kb))) (fun k hk => u7 k (n1 k hk))) (show w.heap.size ≤ W2.heap.size by omega)
          have u5 := own_base (own_of_block o4 (w' := ((W4_.setCell ⟨w.heap.size + 1, 0, none⟩ (.slice aa nS ka)).setCell ⟨w.heap.size + 1, 1, none⟩ (.slice ab nC kb))) (fun k hk => u7 k (n2 k hk))) (show w.heap.size ≤ W2.heap.size by omega)
          have u6 : Below w.heap.size w ((W4_.setCell ⟨w.heap.size + 1, 0, none⟩ (.slice aa nS ka)).setCell ⟨w.heap.size + 1, 1, none⟩ (.slice ab nC kb)) := below_set (below_set (q0.trans (B4.mono (by omega))) _ 0 (by omega) _) _ 1 (by omega) _
          have S9 : ((W4_.setCell ⟨w.heap.size + 1, 0, none⟩ (.slice aa nS ka)).setCell ⟨w.heap.size + 1, 1, none⟩ (.slice ab nC kb)).cell? ⟨w.heap.size, 0, none⟩ = some (.slice sa nS sk) ∧ ((W4_.setCell ⟨w.heap.size + 1, 0, none⟩ (.slice aa nS ka)).setCell ⟨w.heap.size + 1, 1, none⟩ (.slice ab nC kb)).cell? ⟨w.heap.size, 1, none⟩ = some (.slice ca nC ck) := ⟨(World.cell?_of_block (w := W4_) (a := ⟨w.heap.size, 0, none⟩) (u7 _ (by show w.heap.size ≠ _; omega))).trans hHeld.1, (World.cell?_of_block (w := W4_) (a := ⟨w.heap.size, 1, none⟩) (u7 _ (by show w.heap.size ≠ _; omega))).trans hHeld.2⟩
          go_simp
          generalize ((W4_.setCell ⟨w.heap.size + 1, 0, none⟩ (.slice aa nS ka)).setCell ⟨w.heap.size + 1, 1, none⟩ (.slice ab nC kb)) = w9 at *
          refine hK.out _ _ S9 (fun hHeld => ?_)
          clear hK KK
          refine wpAnyH_done (by kernel_rfl) ?_ _
          have U := hide (And.intro u1 (And.intro u4 (And.intro u5 u6)))
          go_wp2_with fail
          obtain ⟨u1, u4, u5, u6⟩ := U.out
          exact bodyPost_ret (results_cell_row Try.results57 _ _ (w.heap.size + 1) 26 #[.slice aa nS ka, .slice ab nC kb] (0, 0) _ rfl u1 Try.underlying26 rfl (by kernel_rfl)) rfl ⟨_, _, rfl, u4, u5, AP, u6⟩
theorem spec_copy (v : Value) (nS : Nat) (S : Nat → ByteArray) (nC : Nat) (A : Nat → Int) (X : Nat → ByteArray) (w : World) (hS : nS ≤ 1048576) (hC : nC ≤ 1048576) (h : dskI w w.heap.size v nS S nC A X) :
    Calls Try.prog 57 #[v] w fun e w' => ∃ o, e = .returned o ∧ dskV w' o w.heap.size w'.heap.size nS (sC S) nC (wF A X) ∧ Below w.heap.size w w' :=
  (spec_copyO v nS S nC A X w hS hC h).mono fun _ _ ⟨sv, cv, h1, h2, h3, h4, h5⟩ => ⟨_, h1, ⟨sv, cv, rfl, own_val1 h2, own_val2 h3, fun k hk => h2.lt k hk, fun k hk => h3.lt k hk, fun k hk e => h4 k hk e⟩, h5⟩
end Go.Proofs.Ytipeelkmmjgehab

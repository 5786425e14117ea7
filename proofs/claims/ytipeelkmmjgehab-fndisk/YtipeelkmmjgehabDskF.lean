/- The walk over the model's l08Flush (written by mkflush.py). -/
import Derived.Test.YtipeelkmmjgehabDskC
namespace Go.Proofs.Ytipeelkmmjgehab
open Go Go.RowKit
/-- Sectors behind the first k writes, of those that kp keeps. -/
def flS (S : Nat → ByteArray) (A : Nat → Int) (X : Nat → ByteArray) (kp : Nat → Bool) : Nat → Nat → ByteArray
  | 0, j => S j
  | k + 1, j => if kp k = true ∧ (j : Int) = A k then X k else flS S A X kp k j
/-- Truth values in memory, below B. -/
def booI (w : World) (B : Nat) (v : Value) (n : Nat) (K : Nat → Bool) : Prop :=
  ∃ a cap, v = .slice a n cap ∧ n ≤ cap ∧ (n = 0 ∨ ∃ r o, a = some ⟨r, o, none⟩ ∧ r < B ∧ ∀ j, j < n → w.cell? ⟨r, o + j, none⟩ = some (.bool (K j)))
theorem booI.below {w w' : World} {B : Nat} {v : Value} {n : Nat} {K : Nat → Bool} (h : booI w B v n K) (hb : Below B w w') : booI w' B v n K := by
  obtain ⟨a, cap, rfl, hc, h | ⟨r, o, rfl, hr, hcell⟩⟩ := h
  · exact ⟨a, cap, rfl, hc, .inl h⟩
  · exact ⟨_, cap, rfl, hc, .inr ⟨r, o, rfl, hr, fun j hj => (hb.cell (p := ⟨r, o + j, none⟩) hr).trans (hcell j hj)⟩⟩
theorem valM.rc {m : Nat} {w : World} {g n cap : Nat} {f : Nat → Value} (h : valM m w (.slice (some ⟨g, 0, none⟩) n cap) n f) (hn : n ≠ 0) : rc w g (n * m) f := by
  obtain ⟨ao, c, e, _, h | ⟨r, ea, hr, hc⟩⟩ := h
  · exact absurd h hn
  · cases e
    cases ea
    exact ⟨hr, hc⟩
set_option maxRecDepth 100000 in
set_option maxHeartbeats 1600000 in
theorem spec_flushO (v kv : Value) (nS : Nat) (S : Nat → ByteArray) (nC : Nat) (A : Nat → Int) (X : Nat → ByteArray) (nK : Nat) (Kf : Nat → Bool) (al : Bool) (w : World) (hok : dskOk nS S nC A X) (hK : nK ≤ 1048576) (h : dskI w w.heap.size v nS S nC A X) (hk : booI w w.heap.size kv nK Kf)
    (kp : Nat → Bool) (hkp : ∀ j, kp j = (al || (decide (j < nK) && Kf j))) :
    Calls Try.prog 58 #[v, kv, .bool al] w fun e w' => ∃ sv, e = .returned (.agg #[sv, .slice none 0 0]) ∧ w'.ownsRow w.heap.size 9 1 sv nS (sL (flS S A X kp nC) nS) ∧ Below w.heap.size w w' := by
  obtain ⟨is, his, hzs0, hzs1, hzs2⟩ := info_parts Try.infoStr
  obtain ⟨ok1, ok2, ok3, ok4⟩ := hok
  obtain ⟨sv, cv, rfl, hs, hc⟩ := h
  obtain ⟨sa, sk, e1⟩ : ∃ a c, sv = .slice a nS c := by obtain ⟨a, c, e, _⟩ := hs; exact ⟨a, c, e⟩
  obtain ⟨ca, ck, e2⟩ : ∃ a c, cv = .slice a nC c := by obtain ⟨a, c, e, _⟩ := hc; exact ⟨a, c, e⟩
  subst e1 e2
  obtain ⟨ka, kk, rfl, hkk, hkc⟩ := hk
  have hck' : (nC : Int) ≤ (ck : Int) := by obtain ⟨_, _, e, hl, _⟩ := hc; cases e; omega
  have hkk' : (nK : Int) ≤ (kk : Int) := by omega
  have HS := hide hs
  have HC := hide hc
  have HKC := hide hkc
  have HKP := hide hkp
  have HOK := hide ok4
  clear hs hc hkc hkp ok4 ok3
  go_enter Try.func58, Try.ntmps58
  have q0 : Below w.heap.size w ((w.alloc (.cells #[.slice sa nS sk, .slice ca nC ck] 26)).alloc (.cells #[.slice none 0 0, .slice none 0 0] 26)) := ((Below.refl _ w).alloc (Nat.le_refl _) _).alloc (by simp) _
  have qs : ((w.alloc (.cells #[.slice sa nS sk, .slice ca nC ck] 26)).alloc (.cells #[.slice none 0 0, .slice none 0 0] 26)).heap.size = w.heap.size + 2 := by simp
  have q1 : ((w.alloc (.cells #[.slice sa nS sk, .slice ca nC ck] 26)).alloc (.cells #[.slice none 0 0, .slice none 0 0] 26)).heap[w.heap.size]? = some (.cells #[.slice sa nS sk, .slice ca nC ck] 26) := (Below.heap_alloc _ _ _ (by simp)).trans (heap_alloc_new _ _)
  have q2 : ((w.alloc (.cells #[.slice sa nS sk, .slice ca nC ck] 26)).alloc (.cells #[.slice none 0 0, .slice none 0 0] 26)).heap[w.heap.size + 1]? = some (.cells #[.slice none 0 0, .slice none 0 0] 26) := by have := heap_alloc_new (w.alloc (.cells #[.slice sa nS sk, .slice ca nC ck] 26)) (.cells #[.slice none 0 0, .slice none 0 0] 26); rwa [World.size_alloc] at this
  have o0 : (((w.alloc (.cells #[.slice sa nS sk, .slice ca nC ck] 26)).alloc (.cells #[.slice none 0 0, .slice none 0 0] 26)).alloc (.cells #[] 9)).ownsRow ((w.alloc (.cells #[.slice sa nS sk, .slice ca nC ck] 26)).alloc (.cells #[.slice none 0 0, .slice none 0 0] 26)).heap.size 9 1 (.slice (some ⟨((w.alloc (.cells #[.slice sa nS sk, .slice ca nC ck] 26)).alloc (.cells #[.slice none 0 0, .slice none 0 0] 26)).heap.size, 0, none⟩) 0 0) 0 [] := by
    have h := World.ownsRow_made (e := 9) (size := 1) (base := ((w.alloc (.cells #[.slice sa nS sk, .slice ca nC ck] 26)).alloc (.cells #[.slice none 0 0, .slice none 0 0] 26)).heap.size) ((w.alloc (.cells #[.slice sa nS sk, .slice ca nC ck] 26)).alloc (.cells #[.slice none 0 0, .slice none 0 0] 26)) #[] 0 (Nat.le_refl _) (by decide) (by simp)
    simpa using h
  have NS : nS = 0 ∨ ∃ ad, sa = some ad ∧ ∀ j x, (sL S nS)[j]? = some x → (((w.alloc (.cells #[.slice sa nS sk, .slice ca nC ck] 26)).alloc (.cells #[.slice none 0 0, .slice none 0 0] 26)).alloc (.cells #[] 9)).cell? (ad.add j) = some x := ((HS.out.below q0).below ((Below.refl _ _).alloc (by omega) _)).news
  rw [qs] at o0
  have Q := hide (And.intro q0 (And.intro q1 q2))
  have QS := hide qs
  have O0 := hide o0
  have NN := hide NS
  clear q0 q1 q2 qs o0 NS
  go_wp2_with (at_builtin; refine wpList_append_any _ rfl _ _ 23 rfl (w.heap.size + 2) 9 is (.string ⟨#[]⟩) 1 16 Try.underlying23 his hzs0 hzs1 hzs2 rfl (by decide) (.slice (some ⟨w.heap.size + 2, 0, none⟩) 0 0) 0 [] rfl O0.out sa nS sk (sL S nS) rfl (sL_len S nS) NN.out (sL_one S nS) (by unfold maxLen; omega) (by omega) (by simp) ?_)
  intro v1 w1 o1 g1 t1
  obtain ⟨a0, c0, ea⟩ := own_slice o1
  subst ea
  obtain ⟨q0, q1, q2⟩ := Q.out
  have b1 : Below (w.heap.size + 2) ((w.alloc (.cells #[.slice sa nS sk, .slice ca nC ck] 26)).alloc (.cells #[.slice none 0 0, .slice none 0 0] 26)) w1 := ((Below.refl _ _).alloc (by have := QS.out; omega) (.cells #[] 9)).grown g1 (by simp) (fun k hk => by cases hk; exact Nat.le_refl _)
  have r1 := (b1.block w.heap.size (by omega)).trans q1
  have r2 := (b1.block (w.heap.size + 1) (by omega)).trans q2
  have hs1 : w.heap.size + 3 ≤ w1.heap.size := by have := g1.size; simp at this; omega
  have bw1 : Below w.heap.size w w1 := q0.trans (b1.mono (by omega))
  have n0 : ∀ k, (Value.slice a0 nS c0).ownBlock = some k → w.heap.size + 2 ≤ k ∧ k < w1.heap.size := fun k hk => o1.lt k hk
  have v0 : w1.ownsRow (w.heap.size + 2) 9 1 (.slice a0 nS c0) nS (sL S nS) := by simpa using o1
  have U := hide (And.intro r1 (And.intro r2 (And.intro bw1 (And.intro n0 v0))))
  clear g1 t1 o1 r1 r2 bw1 n0 v0 q0 q1 q2 b1 Q QS O0 NN
  go_wp2_with fail
  obtain ⟨r1, r2, bw1, n0, v0⟩ := U.out
  have y0 : (w1.alloc (.cells #[.slice a0 nS c0, .slice none 0 0] 26)).heap[w1.heap.size]? = some (.cells #[.slice a0 nS c0, .slice none 0 0] 26) := heap_alloc_new _ _
  have y1 : (w1.alloc (.cells #[.slice a0 nS c0, .slice none 0 0] 26)).heap[w.heap.size]? = some (.cells #[.slice sa nS sk, .slice ca nC ck] 26) := (Below.heap_alloc _ _ _ (by omega)).trans r1
  have y2 : (w1.alloc (.cells #[.slice a0 nS c0, .slice none 0 0] 26)).heap[w.heap.size + 1]? = some (.cells #[.slice none 0 0, .slice none 0 0] 26) := (Below.heap_alloc _ _ _ (by omega)).trans r2
  have y3 : Below w.heap.size w (w1.alloc (.cells #[.slice a0 nS c0, .slice none 0 0] 26)) := bw1.alloc bw1.size _
  have y4 : (w1.alloc (.cells #[.slice a0 nS c0, .slice none 0 0] 26)).ownsRow (w.heap.size + 2) 9 1 (.slice a0 nS c0) nS (sL S nS) := v0.alloc _
  have y5 : (w1.alloc (.cells #[.slice a0 nS c0, .slice none 0 0] 26)).heap.size = w1.heap.size + 1 := by simp
  generalize w1.alloc (.cells #[.slice a0 nS c0, .slice none 0 0] 26) = W5 at *
  obtain ⟨b2, hb2⟩ : ∃ b2, b2 = w1.heap.size := ⟨_, rfl⟩
  rw [← hb2] at y0 y5 n0 ⊢
  have V0 := hide y4
  have Y := hide (And.intro y0 (And.intro y1 (And.intro y2 (And.intro y3 n0))))
  have hb2' : w.heap.size + 3 ≤ b2 := by omega
  clear y0 y1 y2 y3 y4 n0 r1 r2 bw1 v0 U hb2 hs1
  go_loopw [8] (fun i wx => ∃ k : Nat, k ≤ nC ∧ i = .int .i64 k ∧ Hid (wx.ownsRow (w.heap.size + 2) 9 1 (.slice a0 nS c0) nS (sL (flS S A X kp k) nS)) ∧ Hid (W5.grownBy wx (Value.slice a0 nS c0).ownBlock)) (fun i _ => nC - (intOf i).toNat)
  case atStart => exact ⟨0, Nat.zero_le _, rfl, V0, ⟨rfl, rfl, rfl, Nat.le_refl _, fun _ _ _ => rfl⟩⟩
  case round =>
    clear V0
    obtain ⟨k, hk, rfl, ho, hg⟩ := hrel
    have hv := hide (own_val1 ho.out)
    have cf : ∀ b i, b < W5.heap.size → some b ≠ (Value.slice a0 nS c0).ownBlock → wr.cell? ⟨b, i, none⟩ = W5.cell? ⟨b, i, none⟩ := fun b i h1 h2 => hg.out.cell_far ⟨b, i, none⟩ h1 h2
    have nb : ∀ b, b < w.heap.size + 2 ∨ b = b2 → some b ≠ (Value.slice a0 nS c0).ownBlock := fun b h1 h2 => by have := Y.out.2.2.2.2 b h2.symm; omega
    have e20 : wr.cell? ⟨b2, 0, none⟩ = some (.slice a0 nS c0) := (cf b2 0 (by omega) (nb b2 (.inr rfl))).trans (by simp [World.cell?, Y.out.1])
    have e01 : wr.cell? ⟨w.heap.size, 1, none⟩ = some (.slice ca nC ck) := (cf w.heap.size 1 (by omega) (nb _ (.inl (by omega)))).trans (by simp [World.cell?, Y.out.2.1])
    have hfar : ∀ r i, r < w.heap.size → wr.cell? ⟨r, i, none⟩ = w.cell? ⟨r, i, none⟩ := fun r i hr => (cf r i (by omega) (nb r (.inl (by omega)))).trans (Y.out.2.2.2.1.cell (p := ⟨r, i, none⟩) hr)
    have CF := hide (And.intro hfar (And.intro cf nb))
    clear hfar cf nb
    by_cases hlt : k < nC
    · have hlt' : (k : Int) < (nC : Int) := by omega
      obtain ⟨a, ha⟩ : ∃ a, a = A k := ⟨_, rfl⟩
      obtain ⟨oa1, oa2, oa3⟩ := HOK.out k hlt
      rw [← ha] at oa1 oa2
      obtain ⟨an, rfl⟩ : ∃ an : Nat, a = (an : Int) := ⟨a.toNat, by omega⟩
      have han : an < nS := by omega
      have han' : (an : Int) < (nS : Int) := oa2
      obtain ⟨x, hx⟩ : ∃ x, x = X k := ⟨_, rfl⟩
      obtain ⟨r, o, eca, hr, hcells⟩ : ∃ r o, ca = some ⟨r, o, none⟩ ∧ r < w.heap.size ∧ ∀ j, j < nC → ∀ i, i < 2 → w.cell? ⟨r, o + 2 * j + i, none⟩ = some (cWr A X j i) := by
        obtain ⟨_, _, e, _, h⟩ := HC.out
        cases e
        rcases h with h | h
        · omega
        · exact h
      subst eca
      obtain ⟨q, hq⟩ : ∃ q, q = o + 2 * k := ⟨_, rfl⟩
      have d0 : wr.cell? ⟨r, q, none⟩ = some (.int .i64 (an : Int)) := by rw [hq, ha]; exact (CF.out.1 r _ hr).trans (hcells k hlt 0 (by omega))
      have d1 : wr.cell? ⟨r, q + 1, none⟩ = some (.string x) := by rw [hq, hx]; exact (CF.out.1 r _ hr).trans (hcells k hlt 1 (by omega))
      have n1 : o + 2 * k = q := hq.symm
      have n2 : o + k * 2 = q := by omega
      obtain ⟨g, eg⟩ : ∃ g, a0 = some ⟨g, 0, none⟩ := by
        obtain ⟨_, _, e, _, h⟩ := hv.out
        cases e
        rcases h with h | ⟨g, h, _⟩
        · omega
        · exact ⟨g, h⟩
      subst eg
      have HA := hide (And.intro ha hx)
      have hnS : nS ≠ 0 := by omega
      have hrc := hide (hv.out.rc hnS)
      have hgn : w.heap.size + 2 ≤ g ∧ g < b2 := Y.out.2.2.2.2 g rfl
      have hc0 : (nS : Int) ≤ (c0 : Int) := by obtain ⟨_, _, e, hl, _⟩ := hv.out; cases e; omega
      have R0 := hide (show kp k = false → wr.ownsRow (w.heap.size + 2) 9 1 (.slice (some ⟨g, 0, none⟩) nS c0) nS (sL (flS S A X kp (k + 1)) nS) from fun e => by
        have e2 : sL (flS S A X kp (k + 1)) nS = sL (flS S A X kp k) nS := by
          unfold sL
          apply List.map_congr_left
          intro j _
          show Value.string (if kp k = true ∧ (j : Int) = A k then X k else flS S A X kp k j) = Value.string (flS S A X kp k j)
          rw [if_neg (fun h => by rw [e] at h; cases h.1)]
        rw [e2]; exact ho.out)
      have R1 := hide (show kp k = true → (wr.setCell ⟨g, an, none⟩ (.string x)).ownsRow (w.heap.size + 2) 9 1 (.slice (some ⟨g, 0, none⟩) nS c0) nS (sL (flS S A X kp (k + 1)) nS) from fun e => by
        have e2 : sL (flS S A X kp (k + 1)) nS = (sL (flS S A X kp k) nS).set an (.string x) := by
          apply List.ext_getElem?
          intro j
          by_cases hj : j < nS
          · rw [sL_at _ _ _ (by omega)]
            show some (Value.string (if kp k = true ∧ (j : Int) = A k then X k else flS S A X kp k j)) = _
            by_cases ej : an = j
            · subst ej
              rw [List.getElem?_set_self (by rw [sL_len]; omega), if_pos ⟨e, HA.out.1⟩, HA.out.2]
            · rw [List.getElem?_set_ne ej, sL_at _ _ _ (by omega), if_neg (fun h => ej (by have := h.2; rw [← HA.out.1] at this; omega))]; rfl
          · rw [List.getElem?_eq_none (by rw [sL_len]; omega), List.getElem?_eq_none (by rw [List.length_set, sL_len]; omega)]
        rw [e2]; exact (ho.out.stored an (.string x)).1)
      have G1 := hide (show W5.grownBy (wr.setCell ⟨g, an, none⟩ (.string x)) (Value.slice (some ⟨g, 0, none⟩) nS c0).ownBlock from grownBy_set hg.out _)
      have ca1 := (hrc.out.at_ an (by omega)).1
      have fa1 := (hrc.out.at_ an (by omega)).2
      have dd : ∀ u : World, (∀ b, b ≠ g → u.heap[b]? = wr.heap[b]?) → u.cell? ⟨b2, 0, none⟩ = some (.slice (some ⟨g, 0, none⟩) nS c0) ∧ u.cell? ⟨w.heap.size, 1, none⟩ = some (.slice (some ⟨r, o, none⟩) nC ck) ∧ u.cell? ⟨r, q, none⟩ = some (.int .i64 (an : Int)) ∧ u.cell? ⟨r, q + 1, none⟩ = some (.string x) := fun u hu =>
        ⟨(World.cell?_of_block (w := wr) (a := ⟨b2, 0, none⟩) (hu _ (by show b2 ≠ _; omega))).trans e20, (World.cell?_of_block (w := wr) (a := ⟨w.heap.size, 1, none⟩) (hu _ (by show w.heap.size ≠ _; omega))).trans e01, (World.cell?_of_block (w := wr) (a := ⟨r, q, none⟩) (hu _ (by show r ≠ _; omega))).trans d0, (World.cell?_of_block (w := wr) (a := ⟨r, q + 1, none⟩) (hu _ (by show r ≠ _; omega))).trans d1⟩
      clear hcells hq ha hx HC hv ho hrc oa1 oa2 oa3
      cases al with
      | true =>
        have HE := hide (show kp k = true from by rw [HKP.out]; rfl)
        go_wp2_with fail
        refine wp_region_held_drew (S := fun u => u.cell? ⟨b2, 0, none⟩ = some (.slice (some ⟨g, 0, none⟩) nS c0) ∧ u.cell? ⟨w.heap.size, 1, none⟩ = some (.slice (some ⟨r, o, none⟩) nC ck) ∧ u.cell? ⟨r, q, none⟩ = some (.int .i64 (an : Int)) ∧ u.cell? ⟨r, q + 1, none⟩ = some (.string x)) (by kernel_rfl) (dd _ (fun _ _ => rfl)) (fun hHeld => ?_)
        refine takeD (i := 0) (v := .pointer (some ⟨b2, 0, none⟩)) (some 34) rfl rfl (by kernel_rfl) (by kernel_rfl) (by kernel_rfl) (fun _ _ _ h => h) (Or.inl ⟨by rfl, fun w hSw => by go_simp⟩) hHeld ?_
        simp only [Act.put, List.setIfInBounds_toArray, List.set_cons_zero, List.set_cons_succ]
        refine takeD (i := 1) (v := .slice (some ⟨g, 0, none⟩) nS c0) (some 35) rfl rfl (by kernel_rfl) (by kernel_rfl) (by kernel_rfl) (fun _ _ _ h => h) (Or.inl ⟨by rfl, fun w hSw => by obtain ⟨s0, s1, s2, s3⟩ := hSw; go_simp⟩) hHeld ?_
        simp only [Act.put, List.setIfInBounds_toArray, List.set_cons_zero, List.set_cons_succ]
        refine takeD (i := 2) (v := .pointer (some ⟨w.heap.size, 1, none⟩)) (some 36) rfl rfl (by kernel_rfl) (by kernel_rfl) (by kernel_rfl) (fun _ _ _ h => h) (Or.inl ⟨by rfl, fun w hSw => by go_simp⟩) hHeld ?_
        simp only [Act.put, List.setIfInBounds_toArray, List.set_cons_zero, List.set_cons_succ]
        refine takeD (i := 3) (v := .slice (some ⟨r, o, none⟩) nC ck) (some 37) rfl rfl (by kernel_rfl) (by kernel_rfl) (by kernel_rfl) (fun _ _ _ h => h) (Or.inl ⟨by rfl, fun w hSw => by obtain ⟨s0, s1, s2, s3⟩ := hSw; go_simp⟩) hHeld ?_
        simp only [Act.put, List.setIfInBounds_toArray, List.set_cons_zero, List.set_cons_succ]
        refine takeD (i := 4) (v := .int .i64 (k : Int)) (some 38) rfl rfl (by kernel_rfl) (by kernel_rfl) (by kernel_rfl) (fun _ _ _ h => h) (Or.inl ⟨by rfl, fun w hSw => by go_simp⟩) hHeld ?_
        simp only [Act.put, List.setIfInBounds_toArray, List.set_cons_zero, List.set_cons_succ]
        refine takeD (i := 5) (v := .pointer (some ⟨r, q, none⟩)) (some 39) rfl rfl (by kernel_rfl) (by kernel_rfl) (by kernel_rfl) (fun _ _ _ h => h) (Or.inl ⟨by rfl, fun w hSw => by go_simp⟩) hHeld ?_
        simp only [Act.put, List.setIfInBounds_toArray, List.set_cons_zero, List.set_cons_succ]
        refine takeD (i := 6) (v := .pointer (some ⟨r, q, none⟩)) (some 40) rfl rfl (by kernel_rfl) (by kernel_rfl) (by kernel_rfl) (fun _ _ _ h => h) (Or.inl ⟨by rfl, fun w hSw => by go_simp⟩) hHeld ?_
        simp only [Act.put, List.setIfInBounds_toArray, List.set_cons_zero, List.set_cons_succ]
        refine takeD (i := 7) (v := .int .i64 (an : Int)) (some 41) rfl rfl (by kernel_rfl) (by kernel_rfl) (by kernel_rfl) (fun _ _ _ h => h) (Or.inl ⟨by rfl, fun w hSw => by obtain ⟨s0, s1, s2, s3⟩ := hSw; go_simp⟩) hHeld ?_
        simp only [Act.put, List.setIfInBounds_toArray, List.set_cons_zero, List.set_cons_succ]
        refine takeD (i := 8) (v := .pointer (some ⟨w.heap.size, 1, none⟩)) (some 42) rfl rfl (by kernel_rfl) (by kernel_rfl) (by kernel_rfl) (fun _ _ _ h => h) (Or.inl ⟨by rfl, fun w hSw => by go_simp⟩) hHeld ?_
        simp only [Act.put, List.setIfInBounds_toArray, List.set_cons_zero, List.set_cons_succ]
        refine takeD (i := 9) (v := .slice (some ⟨r, o, none⟩) nC ck) (some 43) rfl rfl (by kernel_rfl) (by kernel_rfl) (by kernel_rfl) (fun _ _ _ h => h) (Or.inl ⟨by rfl, fun w hSw => by obtain ⟨s0, s1, s2, s3⟩ := hSw; go_simp⟩) hHeld ?_
        simp only [Act.put, List.setIfInBounds_toArray, List.set_cons_zero, List.set_cons_succ]
        refine takeD (i := 10) (v := .int .i64 (k : Int)) (some 44) rfl rfl (by kernel_rfl) (by kernel_rfl) (by kernel_rfl) (fun _ _ _ h => h) (Or.inl ⟨by rfl, fun w hSw => by go_simp⟩) hHeld ?_
        simp only [Act.put, List.setIfInBounds_toArray, List.set_cons_zero, List.set_cons_succ]
        refine takeD (i := 11) (v := .pointer (some ⟨r, q, none⟩)) (some 45) rfl rfl (by kernel_rfl) (by kernel_rfl) (by kernel_rfl) (fun _ _ _ h => h) (Or.inl ⟨by rfl, fun w hSw => by go_simp⟩) hHeld ?_
        simp only [Act.put, List.setIfInBounds_toArray, List.set_cons_zero, List.set_cons_succ]
        refine takeD (i := 12) (v := .pointer (some ⟨r, q + 1, none⟩)) (some 46) rfl rfl (by kernel_rfl) (by kernel_rfl) (by kernel_rfl) (fun _ _ _ h => h) (Or.inl ⟨by rfl, fun w hSw => by go_simp⟩) hHeld ?_
        simp only [Act.put, List.setIfInBounds_toArray, List.set_cons_zero, List.set_cons_succ]
        refine takeD (i := 13) (v := .string x) (some 47) rfl rfl (by kernel_rfl) (by kernel_rfl) (by kernel_rfl) (fun _ _ _ h => h) (Or.inl ⟨by rfl, fun w hSw => by obtain ⟨s0, s1, s2, s3⟩ := hSw; go_simp⟩) hHeld ?_
        simp only [Act.put, List.setIfInBounds_toArray, List.set_cons_zero, List.set_cons_succ]
        refine takeD (i := 14) (v := .pointer (some ⟨g, an, none⟩)) (some 48) rfl rfl (by kernel_rfl) (by kernel_rfl) (by kernel_rfl) (fun _ _ _ h => h) (Or.inl ⟨by rfl, fun w hSw => by go_simp⟩) hHeld ?_
        simp only [Act.put, List.setIfInBounds_toArray, List.set_cons_zero, List.set_cons_succ]
        refine wpAnyH_ready (rs := [15]) (by kernel_rfl) (by simp) ?_
        refine AllReadyH.cons rfl (fun KK hK => ?_) AllReadyH.nil
        have c9 : wr.drew.cell? ⟨g, an, none⟩ = some (sC (flS S A X kp k) an) := ca1
        have f9 : wr.drew.frozen? ⟨g, an, none⟩ = false := fa1
        go_simp
        refine hK.out _ _ (dd _ (fun b hb => set1_o _ _ _ _ _ hb)) (fun hHeld => ?_)
        clear hK KK c9 f9
        refine wpAnyH_done (by kernel_rfl) ?_ _
        have RV := hide ((R1.out HE.out).drew)
        have RG := hide (show W5.grownBy (wr.setCell ⟨g, an, none⟩ (.string x)).drew (Value.slice (some ⟨g, 0, none⟩) nS c0).ownBlock from ⟨G1.out.os, G1.out.tape, G1.out.output, G1.out.size, G1.out.block⟩)
        clear hHeld dd
        go_wp2_with fail
        go_roundw
        case rel => exact ⟨k + 1, by omega, by go_num, RV, RG⟩
        case measure => simp [intOf]; omega
      | false =>
        by_cases b4 : k < nK
        · have d4 : decide ((k : Int) < (nK : Int)) = true := decide_eq_true (by omega)
          have d4' : (k : Int) < (nK : Int) := by omega
          obtain ⟨rk, ok, eka, hrk, hkcells⟩ : ∃ r o, ka = some ⟨r, o, none⟩ ∧ r < w.heap.size ∧ ∀ j, j < nK → w.cell? ⟨r, o + j, none⟩ = some (.bool (Kf j)) := by
            rcases HKC.out with h | h
            · omega
            · exact h
          subst eka
          obtain ⟨bb, hbb⟩ : ∃ bb, bb = Kf k := ⟨_, rfl⟩
          have dk : wr.cell? ⟨rk, ok + k, none⟩ = some (.bool bb) := by rw [hbb]; exact (CF.out.1 rk _ hrk).trans (hkcells k b4)
          have HE := hide (show kp k = bb from by rw [HKP.out, hbb]; simp [b4])
          clear hkcells hbb HKC b4
          cases bb with
          | true =>
            go_wp2_with fail
            refine wp_region_held_drew (S := fun u => u.cell? ⟨b2, 0, none⟩ = some (.slice (some ⟨g, 0, none⟩) nS c0) ∧ u.cell? ⟨w.heap.size, 1, none⟩ = some (.slice (some ⟨r, o, none⟩) nC ck) ∧ u.cell? ⟨r, q, none⟩ = some (.int .i64 (an : Int)) ∧ u.cell? ⟨r, q + 1, none⟩ = some (.string x)) (by kernel_rfl) (dd _ (fun _ _ => rfl)) (fun hHeld => ?_)
            refine takeD (i := 0) (v := .pointer (some ⟨b2, 0, none⟩)) (some 34) rfl rfl (by kernel_rfl) (by kernel_rfl) (by kernel_rfl) (fun _ _ _ h => h) (Or.inl ⟨by rfl, fun w hSw => by go_simp⟩) hHeld ?_
            simp only [Act.put, List.setIfInBounds_toArray, List.set_cons_zero, List.set_cons_succ]
            refine takeD (i := 1) (v := .slice (some ⟨g, 0, none⟩) nS c0) (some 35) rfl rfl (by kernel_rfl) (by kernel_rfl) (by kernel_rfl) (fun _ _ _ h => h) (Or.inl ⟨by rfl, fun w hSw => by obtain ⟨s0, s1, s2, s3⟩ := hSw; go_simp⟩) hHeld ?_
            simp only [Act.put, List.setIfInBounds_toArray, List.set_cons_zero, List.set_cons_succ]
            refine takeD (i := 2) (v := .pointer (some ⟨w.heap.size, 1, none⟩)) (some 36) rfl rfl (by kernel_rfl) (by kernel_rfl) (by kernel_rfl) (fun _ _ _ h => h) (Or.inl ⟨by rfl, fun w hSw => by go_simp⟩) hHeld ?_
            simp only [Act.put, List.setIfInBounds_toArray, List.set_cons_zero, List.set_cons_succ]
            refine takeD (i := 3) (v := .slice (some ⟨r, o, none⟩) nC ck) (some 37) rfl rfl (by kernel_rfl) (by kernel_rfl) (by kernel_rfl) (fun _ _ _ h => h) (Or.inl ⟨by rfl, fun w hSw => by obtain ⟨s0, s1, s2, s3⟩ := hSw; go_simp⟩) hHeld ?_
            simp only [Act.put, List.setIfInBounds_toArray, List.set_cons_zero, List.set_cons_succ]
            refine takeD (i := 4) (v := .int .i64 (k : Int)) (some 38) rfl rfl (by kernel_rfl) (by kernel_rfl) (by kernel_rfl) (fun _ _ _ h => h) (Or.inl ⟨by rfl, fun w hSw => by go_simp⟩) hHeld ?_
            simp only [Act.put, List.setIfInBounds_toArray, List.set_cons_zero, List.set_cons_succ]
            refine takeD (i := 5) (v := .pointer (some ⟨r, q, none⟩)) (some 39) rfl rfl (by kernel_rfl) (by kernel_rfl) (by kernel_rfl) (fun _ _ _ h => h) (Or.inl ⟨by rfl, fun w hSw => by go_simp⟩) hHeld ?_
            simp only [Act.put, List.setIfInBounds_toArray, List.set_cons_zero, List.set_cons_succ]
            refine takeD (i := 6) (v := .pointer (some ⟨r, q, none⟩)) (some 40) rfl rfl (by kernel_rfl) (by kernel_rfl) (by kernel_rfl) (fun _ _ _ h => h) (Or.inl ⟨by rfl, fun w hSw => by go_simp⟩) hHeld ?_
            simp only [Act.put, List.setIfInBounds_toArray, List.set_cons_zero, List.set_cons_succ]
            refine takeD (i := 7) (v := .int .i64 (an : Int)) (some 41) rfl rfl (by kernel_rfl) (by kernel_rfl) (by kernel_rfl) (fun _ _ _ h => h) (Or.inl ⟨by rfl, fun w hSw => by obtain ⟨s0, s1, s2, s3⟩ := hSw; go_simp⟩) hHeld ?_
            simp only [Act.put, List.setIfInBounds_toArray, List.set_cons_zero, List.set_cons_succ]
            refine takeD (i := 8) (v := .pointer (some ⟨w.heap.size, 1, none⟩)) (some 42) rfl rfl (by kernel_rfl) (by kernel_rfl) (by kernel_rfl) (fun _ _ _ h => h) (Or.inl ⟨by rfl, fun w hSw => by go_simp⟩) hHeld ?_
            simp only [Act.put, List.setIfInBounds_toArray, List.set_cons_zero, List.set_cons_succ]
            refine takeD (i := 9) (v := .slice (some ⟨r, o, none⟩) nC ck) (some 43) rfl rfl (by kernel_rfl) (by kernel_rfl) (by kernel_rfl) (fun _ _ _ h => h) (Or.inl ⟨by rfl, fun w hSw => by obtain ⟨s0, s1, s2, s3⟩ := hSw; go_simp⟩) hHeld ?_
            simp only [Act.put, List.setIfInBounds_toArray, List.set_cons_zero, List.set_cons_succ]
            refine takeD (i := 10) (v := .int .i64 (k : Int)) (some 44) rfl rfl (by kernel_rfl) (by kernel_rfl) (by kernel_rfl) (fun _ _ _ h => h) (Or.inl ⟨by rfl, fun w hSw => by go_simp⟩) hHeld ?_
            simp only [Act.put, List.setIfInBounds_toArray, List.set_cons_zero, List.set_cons_succ]
            refine takeD (i := 11) (v := .pointer (some ⟨r, q, none⟩)) (some 45) rfl rfl (by kernel_rfl) (by kernel_rfl) (by kernel_rfl) (fun _ _ _ h => h) (Or.inl ⟨by rfl, fun w hSw => by go_simp⟩) hHeld ?_
            simp only [Act.put, List.setIfInBounds_toArray, List.set_cons_zero, List.set_cons_succ]
            refine takeD (i := 12) (v := .pointer (some ⟨r, q + 1, none⟩)) (some 46) rfl rfl (by kernel_rfl) (by kernel_rfl) (by kernel_rfl) (fun _ _ _ h => h) (Or.inl ⟨by rfl, fun w hSw => by go_simp⟩) hHeld ?_
            simp only [Act.put, List.setIfInBounds_toArray, List.set_cons_zero, List.set_cons_succ]
            refine takeD (i := 13) (v := .string x) (some 47) rfl rfl (by kernel_rfl) (by kernel_rfl) (by kernel_rfl) (fun _ _ _ h => h) (Or.inl ⟨by rfl, fun w hSw => by obtain ⟨s0, s1, s2, s3⟩ := hSw; go_simp⟩) hHeld ?_
            simp only [Act.put, List.setIfInBounds_toArray, List.set_cons_zero, List.set_cons_succ]
            refine takeD (i := 14) (v := .pointer (some ⟨g, an, none⟩)) (some 48) rfl rfl (by kernel_rfl) (by kernel_rfl) (by kernel_rfl) (fun _ _ _ h => h) (Or.inl ⟨by rfl, fun w hSw => by go_simp⟩) hHeld ?_
            simp only [Act.put, List.setIfInBounds_toArray, List.set_cons_zero, List.set_cons_succ]
            refine wpAnyH_ready (rs := [15]) (by kernel_rfl) (by simp) ?_
            refine AllReadyH.cons rfl (fun KK hK => ?_) AllReadyH.nil
            have c9 : wr.drew.cell? ⟨g, an, none⟩ = some (sC (flS S A X kp k) an) := ca1
            have f9 : wr.drew.frozen? ⟨g, an, none⟩ = false := fa1
            go_simp
            refine hK.out _ _ (dd _ (fun b hb => set1_o _ _ _ _ _ hb)) (fun hHeld => ?_)
            clear hK KK c9 f9
            refine wpAnyH_done (by kernel_rfl) ?_ _
            have RV := hide ((R1.out HE.out).drew)
            have RG := hide (show W5.grownBy (wr.setCell ⟨g, an, none⟩ (.string x)).drew (Value.slice (some ⟨g, 0, none⟩) nS c0).ownBlock from ⟨G1.out.os, G1.out.tape, G1.out.output, G1.out.size, G1.out.block⟩)
            clear hHeld dd
            go_wp2_with fail
            go_roundw
            case rel => exact ⟨k + 1, by omega, by go_num, RV, RG⟩
            case measure => simp [intOf]; omega
          | false =>
            go_wp2_with fail
            go_roundw
            case rel => exact ⟨k + 1, by omega, by go_num, hide (R0.out HE.out), hg⟩
            case measure => simp [intOf]; omega
        · have d4 : decide ((k : Int) < (nK : Int)) = false := decide_eq_false (by omega)
          have d4' : ¬ (k : Int) < (nK : Int) := by omega
          have HE := hide (show kp k = false from by rw [HKP.out]; simp [b4])
          clear b4
          go_wp2_with fail
          go_roundw
          case rel => exact ⟨k + 1, by omega, by go_num, hide (R0.out HE.out), hg⟩
          case measure => simp [intOf]; omega
    · have hlt' : ¬ (k : Int) < (nC : Int) := by omega
      have hkn : k = nC := by omega
      subst hkn
      have e21 : wr.cell? ⟨b2, 1, none⟩ = some (.slice none 0 0) := (CF.out.2.1 b2 1 (by omega) (CF.out.2.2 b2 (.inr rfl))).trans (by simp [World.cell?, Y.out.1])
      have r2 : wr.heap[w.heap.size + 1]? = some (.cells #[.slice none 0 0, .slice none 0 0] 26) := (hg.out.block (w.heap.size + 1) (by omega) (CF.out.2.2 _ (.inl (by omega)))).trans Y.out.2.2.1
      have c10 : wr.cell? ⟨w.heap.size + 1, 0, none⟩ = some (.slice none 0 0) := by simp [World.cell?, r2]
      have c11 : wr.cell? ⟨w.heap.size + 1, 1, none⟩ = some (.slice none 0 0) := by simp [World.cell?, r2]
      have f10 : wr.frozen? ⟨w.heap.size + 1, 0, none⟩ = false := by simp [World.frozen?, r2]
      have f11 : wr.frozen? ⟨w.heap.size + 1, 1, none⟩ = false := by simp [World.frozen?, r2]
      have HR2 := hide r2
      clear r2 hlt
      go_wp2_with fail
      have u1 : ((wr.setCell ⟨w.heap.size + 1, 0, none⟩ (.slice a0 nS c0)).setCell ⟨w.heap.size + 1, 1, none⟩ (.slice none 0 0)).heap[w.heap.size + 1]? = some (.cells #[.slice a0 nS c0, .slice none 0 0] 26) := by simp [World.setCell, Array.getElem?_modify, HR2.out]
      have u2 : ((wr.setCell ⟨w.heap.size + 1, 0, none⟩ (.slice a0 nS c0)).setCell ⟨w.heap.size + 1, 1, none⟩ (.slice none 0 0)).heap.size = wr.heap.size := by simp [World.setCell]
      have n1 : ∀ k, (Value.slice a0 nS c0).ownBlock = some k → k ≠ w.heap.size + 1 := fun k hk => by have := Y.out.2.2.2.2 k hk; omega
      have u4 := own_base (own_of_block ho.out (fun b hb => (set1_o ((wr.setCell ⟨w.heap.size + 1, 0, none⟩ (.slice a0 nS c0))) (w.heap.size + 1) 1 b (.slice none 0 0) (n1 b hb)).trans (set1_o wr (w.heap.size + 1) 0 b (.slice a0 nS c0) (n1 b hb)))) (show w.heap.size ≤ w.heap.size + 2 by omega)
      have bw : Below w.heap.size w wr := Y.out.2.2.2.1.grown hg.out (by have := Y.out.2.2.2.1.size; omega) (fun k hk => by have := Y.out.2.2.2.2 k hk; omega)
      have u6 : Below w.heap.size w ((wr.setCell ⟨w.heap.size + 1, 0, none⟩ (.slice a0 nS c0)).setCell ⟨w.heap.size + 1, 1, none⟩ (.slice none 0 0)) := below_set (below_set bw _ 0 (by omega) _) _ 1 (by omega) _
      have hgs := hg.out.size
      generalize ((wr.setCell ⟨w.heap.size + 1, 0, none⟩ (.slice a0 nS c0)).setCell ⟨w.heap.size + 1, 1, none⟩ (.slice none 0 0)) = w9 at *
      exact bodyPost_ret (results_cell_row Try.results58 _ _ (w.heap.size + 1) 26 #[.slice a0 nS c0, .slice none 0 0] (0, 0) _ rfl u1 Try.underlying26 rfl (by kernel_rfl)) rfl ⟨_, rfl, u4, u6⟩
theorem spec_flush (v kv : Value) (nS : Nat) (S : Nat → ByteArray) (nC : Nat) (A : Nat → Int) (X : Nat → ByteArray) (nK : Nat) (Kf : Nat → Bool) (al : Bool) (w : World) (hok : dskOk nS S nC A X) (hK : nK ≤ 1048576) (h : dskI w w.heap.size v nS S nC A X) (hk : booI w w.heap.size kv nK Kf)
    (kp : Nat → Bool) (hkp : ∀ j, kp j = (al || (decide (j < nK) && Kf j))) :
    Calls Try.prog 58 #[v, kv, .bool al] w fun e w' => ∃ o, e = .returned o ∧ dskV w' o w.heap.size w'.heap.size nS (sC (flS S A X kp nC)) 0 (wF A X) ∧ Below w.heap.size w w' :=
  (spec_flushO v kv nS S nC A X nK Kf al w hok hK h hk kp hkp).mono fun _ _ ⟨sv, h1, h2, h3⟩ => ⟨_, h1, ⟨sv, _, rfl, own_val1 h2, ⟨none, 0, rfl, Nat.le_refl _, .inl rfl⟩, fun k hk => h2.lt k hk, (fun k hk => by cases hk), (fun k hk e => by cases e)⟩, h3⟩
end Go.Proofs.Ytipeelkmmjgehab

/- The walks over the program's viewOf, has: a disk as it is read. -/
import Derived.Test.YtipeelkmmjgehabDkL
import Derived.Test.YtipeelkmmjgehabDkR
import Derived.Test.YtipeelkmmjgehabSecA
import Derived.Test.YtipeelkmmjgehabDskB
namespace Go.Proofs.Ytipeelkmmjgehab
open Go Go.RowKit
theorem flS_lat2 (S : Nat → ByteArray) (A : Nat → Int) (X : Nat → ByteArray) : ∀ n j, flS S A X (fun _ => true) n j = (latM A X n (j : Int)).getD (S j)
  | 0, _ => rfl
  | n + 1, j => by
    show (if true = true ∧ (j : Int) = A n then X n else flS S A X (fun _ => true) n j) = (if (j : Int) = A n then some (X n) else latM A X n j).getD (S j)
    by_cases e : (j : Int) = A n
    · rw [if_pos ⟨rfl, e⟩, if_pos e]; rfl
    · rw [if_neg (fun h => e h.2), if_neg e]; exact flS_lat2 S A X n j
/-- A disk as it is read: its sectors, and the writes of its cache. -/
def vwI (w : World) (B : Nat) (v : Value) (nS : Nat) (S : Nat → ByteArray) (nC : Nat) (M : Int → Option ByteArray) : Prop :=
  ∃ sa sk mb, v = .agg #[.slice sa nS sk, .map (some mb)] ∧ strI w B (.slice sa nS sk) nS S ∧ mb < B ∧ SecM Try.prog 2 w mb nC M
theorem vwI.below {w w' : World} {B : Nat} {v : Value} {nS : Nat} {S : Nat → ByteArray} {nC : Nat} {M : Int → Option ByteArray} (h : vwI w B v nS S nC M) (hb : Below B w w') : vwI w' B v nS S nC M := by
  obtain ⟨sa, sk, mb, rfl, h1, h2, h3⟩ := h
  exact ⟨sa, sk, mb, rfl, h1.below hb, h2, h3.blk (hb.block mb h2)⟩
theorem vwI.wide {w : World} {B C : Nat} {v : Value} {nS : Nat} {S : Nat → ByteArray} {nC : Nat} {M : Int → Option ByteArray} (h : vwI w B v nS S nC M) (hb : B ≤ C) : vwI w C v nS S nC M := by
  obtain ⟨sa, sk, mb, rfl, h1, h2, h3⟩ := h
  exact ⟨sa, sk, mb, rfl, h1.wide hb, Nat.lt_of_lt_of_le h2 hb, h3⟩
set_option maxRecDepth 100000 in
set_option maxHeartbeats 1600000 in
theorem imp_viewOf (v : Value) (nS : Nat) (S : Nat → ByteArray) (nC : Nat) (A : Nat → Int) (X : Nat → ByteArray) (w : World) (hok : dskOk nS S nC A X) (h : dskI w w.heap.size v nS S nC A X) :
    Calls Try.prog 45 #[v] w fun e w' => ∃ o, e = .returned o ∧ vwI w' w'.heap.size o nS S nC (latM A X nC) ∧ Below w.heap.size w w' := by
  obtain ⟨sv, cv, rfl, hs, hc⟩ := h
  obtain ⟨sa, sk, e1⟩ : ∃ a c, sv = .slice a nS c := by obtain ⟨a, c, e, _⟩ := hs; exact ⟨a, c, e⟩
  obtain ⟨ca, ck, e2⟩ : ∃ a c, cv = .slice a nC c := by obtain ⟨a, c, e, _⟩ := hc; exact ⟨a, c, e⟩
  subst e1 e2
  have HS := hide (And.intro hs hc)
  have HOK := hide hok
  clear hs hc hok
  have hC : nC ≤ 1048576 := by have := HOK.out.2.1; omega
  obtain ⟨q0, q1, q2, q3⟩ := box2 w (.cells #[.slice sa nS sk, .slice ca nC ck] 26) (.cells #[.slice none 0 0, .map none] 74)
  have HQ := hide (And.intro q0 (And.intro q1 (And.intro q2 q3)))
  clear q0 q1 q2 q3
  go_enter Try.func45, Try.ntmps45
  go_wp2_with fail
  obtain ⟨q0, q1, q2, q3⟩ := HQ.out
  generalize ((w.alloc (.cells #[.slice sa nS sk, .slice ca nC ck] 26)).alloc (.cells #[.slice none 0 0, .map none] 74)) = W2 at *
  clear HQ
  have SA : ∀ u : World, Below W2.heap.size W2 u → (u.cell? ⟨w.heap.size, 0, none⟩ = some (.slice sa nS sk) ∧ u.cell? ⟨w.heap.size, 1, none⟩ = some (.slice ca nC ck)) ∧ u.heap[w.heap.size + 1]? = some (.cells #[.slice none 0 0, .map none] 74) := fun u hu => by
    have h2 := (hu.block w.heap.size (by omega)).trans q2
    exact ⟨⟨by simp [World.cell?, h2], by simp [World.cell?, h2]⟩, (hu.block (w.heap.size + 1) (by omega)).trans q3⟩
  have HC2 := hide ((HS.out.2.below q0).wide (show w.heap.size ≤ W2.heap.size by omega))
  have HS2 := hide (HS.out.1.below q0)
  have Q0 := hide q0
  have SAh := hide SA
  clear q0 q2 q3 HS SA
  refine wp_region_held_drew (S := fun u => u.cell? ⟨w.heap.size, 0, none⟩ = some (.slice sa nS sk) ∧ u.cell? ⟨w.heap.size, 1, none⟩ = some (.slice ca nC ck)) (by kernel_rfl) (SAh.out _ (Below.refl _ _).drew).1 (fun hHeld => ?_)
  refine takeD (i := 0) (v := .pointer (some ⟨w.heap.size, 0, none⟩)) (some 3) rfl rfl (by kernel_rfl) (by kernel_rfl) (by kernel_rfl) (fun _ _ _ h => h) (Or.inl ⟨by rfl, fun w hSw => by go_simp⟩) hHeld ?_
  simp only [Act.put, List.setIfInBounds_toArray, List.set_cons_zero, List.set_cons_succ]
  refine takeD (i := 1) (v := .slice sa nS sk) (some 4) rfl rfl (by kernel_rfl) (by kernel_rfl) (by kernel_rfl) (fun _ _ _ h => h) (Or.inl ⟨by rfl, fun w hSw => by obtain ⟨s0, s1⟩ := hSw; go_simp⟩) hHeld ?_
  simp only [Act.put, List.setIfInBounds_toArray, List.set_cons_zero, List.set_cons_succ]
  refine takeD (i := 2) (v := .pointer (some ⟨w.heap.size, 1, none⟩)) (some 5) rfl rfl (by kernel_rfl) (by kernel_rfl) (by kernel_rfl) (fun _ _ _ h => h) (Or.inl ⟨by rfl, fun w hSw => by go_simp⟩) hHeld ?_
  simp only [Act.put, List.setIfInBounds_toArray, List.set_cons_zero, List.set_cons_succ]
  refine takeD (i := 3) (v := .slice ca nC ck) (some 6) rfl rfl (by kernel_rfl) (by kernel_rfl) (by kernel_rfl) (fun _ _ _ h => h) (Or.inl ⟨by rfl, fun w hSw => by obtain ⟨s0, s1⟩ := hSw; go_simp⟩) hHeld ?_
  simp only [Act.put, List.setIfInBounds_toArray, List.set_cons_zero, List.set_cons_succ]
  refine wpAnyH_ready (rs := [4]) (by kernel_rfl) (by simp) ?_
  refine AllReadyH.cons rfl (fun KK hK => ?_) AllReadyH.nil
  go_simp
  refine (imp_latest (.slice ca nC ck) nC A X W2.drew hC (fun j hj => by have := HOK.out.2.2.2 j hj; have := HOK.out.1; omega) (fun j hj => (HOK.out.2.2.2 j hj).2.2) (HC2.out.below (Below.refl _ _).drew)).mono ?_
  rintro e w3 ⟨mb, rfl, hM, hmb, hb⟩
  have b1 : Below W2.heap.size W2 w3 := (Below.refl _ _).drew.trans hb
  have hs3 := b1.size
  have hmb2 := hM.lt
  replace hmb : W2.heap.size ≤ mb := hmb
  obtain ⟨q1b⟩ : Nonempty (w.heap.size + 2 ≤ W2.heap.size) := ⟨by omega⟩
  have HM := hide hM
  have B1 := hide b1
  obtain ⟨⟨s0, s1⟩, s2⟩ := SAh.out w3 b1
  have h20 : w3.cell? ⟨w.heap.size + 1, 0, none⟩ = some (.slice none 0 0) := by simp [World.cell?, s2]
  have h21 : w3.cell? ⟨w.heap.size + 1, 1, none⟩ = some (.map none) := by simp [World.cell?, s2]
  have z20 : w3.frozen? ⟨w.heap.size + 1, 0, none⟩ = false := by simp [World.frozen?, s2]
  have z21 : w3.frozen? ⟨w.heap.size + 1, 1, none⟩ = false := by simp [World.frozen?, s2]
  have S2h := hide s2
  clear hb b1 hM s2
  go_wp2_with fail
  refine hK.out _ _ ⟨s0, s1⟩ (fun hHeld => ?_)
  clear hK KK
  refine takeD (i := 5) (v := .agg #[.slice sa nS sk, .map (some mb)]) (some 8) rfl rfl (by kernel_rfl) (by kernel_rfl) (by kernel_rfl) (fun _ _ _ h => h) (Or.inl ⟨by rfl, fun w hSw => by go_simp⟩) hHeld ?_
  simp only [Act.put, List.setIfInBounds_toArray, List.set_cons_zero, List.set_cons_succ]
  refine wpAnyH_ready (rs := [6]) (by kernel_rfl) (by simp) ?_
  refine AllReadyH.cons rfl (fun KK hK => ?_) AllReadyH.nil
  go_wp2_with fail
  refine hK.out _ _ ⟨by simpa [World.cell?, World.setCell, Array.getElem?_modify] using s0, by simpa [World.cell?, World.setCell, Array.getElem?_modify] using s1⟩ (fun hHeld => ?_)
  clear hK KK
  refine wpAnyH_done (by kernel_rfl) ?_ _
  go_wp2_with fail
  have fin : ((w3.setCell ⟨w.heap.size + 1, 0, none⟩ (.slice sa nS sk)).setCell ⟨w.heap.size + 1, 1, none⟩ (.map (some mb))).heap[w.heap.size + 1]? = some (.cells #[.slice sa nS sk, .map (some mb)] 74) := by simp [World.setCell, Array.getElem?_modify, S2h.out]
  have hbase := Q0.out.trans (B1.out.mono (by omega))
  have b4 := below_set (below_set hbase (w.heap.size + 1) 0 (by omega) (.slice sa nS sk)) (w.heap.size + 1) 1 (by omega) (.map (some mb))
  have k4 : strI ((w3.setCell ⟨w.heap.size + 1, 0, none⟩ (.slice sa nS sk)).setCell ⟨w.heap.size + 1, 1, none⟩ (.map (some mb))) w.heap.size (.slice sa nS sk) nS S := (HS2.out.below (B1.out.mono (by omega))).below (below_set (below_set (Below.refl _ _) (w.heap.size + 1) 0 (by omega) (.slice sa nS sk)) (w.heap.size + 1) 1 (by omega) (.map (some mb)))
  have m4 := HM.out.blk (w' := (w3.setCell ⟨w.heap.size + 1, 0, none⟩ (.slice sa nS sk)).setCell ⟨w.heap.size + 1, 1, none⟩ (.map (some mb))) ((set1_o _ _ _ _ _ (by omega)).trans (set1_o _ _ _ _ _ (by omega)))
  have z4 : ((w3.setCell ⟨w.heap.size + 1, 0, none⟩ (.slice sa nS sk)).setCell ⟨w.heap.size + 1, 1, none⟩ (.map (some mb))).heap.size = w3.heap.size := by simp [World.setCell]
  exact bodyPost_ret (results_cell_row Try.results45 _ _ (w.heap.size + 1) 74 #[.slice sa nS sk, .map (some mb)] (0, 0) _ rfl fin Try.underlying74 rfl (by kernel_rfl)) rfl ⟨_, rfl, ⟨sa, sk, mb, rfl, k4.wide (by omega), by omega, m4⟩, b4⟩
set_option maxRecDepth 100000 in
set_option maxHeartbeats 1600000 in
theorem imp_has (v : Value) (nS : Nat) (S : Nat → ByteArray) (nC : Nat) (M : Int → Option ByteArray) (p : Nat) (F : ByteArray) (w : World) (hn : nS ≤ 620) (hp : p < nS) (hF : F = (M (p : Int)).getD (S p)) (hFs : F.size = 64) (h : vwI w w.heap.size v nS S nC M) :
    Calls Try.prog 46 #[v, .int .i64 (p : Int)] w fun e w' => e = .returned (secV F) ∧ Below w.heap.size w w' := by
  obtain ⟨sa, sk, mb, rfl, hs, hmb, hM⟩ := h
  have hp' : (p : Int) < (nS : Int) := by omega
  have hp6 : (p : Int) ≤ 620 := by omega
  have hwf := i64_wf (a := (p : Int)) (by omega) (by omega)
  have q0 : Below w.heap.size w (w.alloc (.cells #[.slice sa nS sk, .map (some mb)] 74)) := (Below.refl _ w).alloc (Nat.le_refl _) _
  have qs : (w.alloc (.cells #[.slice sa nS sk, .map (some mb)] 74)).heap.size = w.heap.size + 1 := by simp
  have qb : (w.alloc (.cells #[.slice sa nS sk, .map (some mb)] 74)).heap[w.heap.size]? = some (.cells #[.slice sa nS sk, .map (some mb)] 74) := heap_alloc_new _ _
  have HS := hide (And.intro hs hM)
  have HF := hide hF
  clear hs hM hF
  cases hMp : M (p : Int) with
  | some T0 =>
    obtain rfl : F = T0 := by have := HF.out; rw [hMp] at this; exact this
    have HMP := hide hMp
    clear hMp
    go_enter Try.func46, Try.ntmps46
    go_wp2_with (first | (with_reducible (show wpList _ _ _ ({ dst := some 4, op := .alloc _, type := _, pos := _, after := _, guard := _ } :: _) _ _); (refine wpList_alloc_sec _ rfl (some 4) rfl 66 rfl (Try.zero63 _) ?_; intro w2 hw2 bw2 sw2; have hb2 := (bw2.block w.heap.size (by simp)).trans qb; have c20 : w2.cell? ⟨w.heap.size, 0, none⟩ = some (.slice sa nS sk) := (by simp [World.cell?, hb2]); have c21 : w2.cell? ⟨w.heap.size, 1, none⟩ = some (.map (some mb)) := (by simp [World.cell?, hb2]); have B2 := hide (q0.trans (bw2.mono (by simp))); rw [qs] at hw2 sw2; have z2 : w.heap.size + 1 < w2.heap.size := (by omega); have H2 := hide hb2; have M2 := hide (HS.out.2.below B2.out); clear sw2 hb2 bw2 qs qb q0)) | (at_lookup; refine wpList_sec_look _ rfl _ _ 72 rfl 2 66 Try.underlying2 Try.underlying72 (Try.zero63 _) mb nC M rfl M2.out (p : Int) rfl hwf ?_; intro T ok hT; obtain ⟨rfl, e9⟩ : ok = true ∧ M (p : Int) = some T := hT.resolve_right (fun h => by have := HMP.out; rw [h.2] at this; cases this); obtain rfl : F = T := Option.some.inj (HMP.out.symm.trans e9); clear e9 hT) | (with_reducible (show wpList _ _ _ ({ dst := some 5, op := .alloc _, type := _, pos := _, after := _, guard := _ } :: _) _ _); refine wpList_alloc_sec w2 rfl (some 5) rfl 66 rfl (Try.zero63 _) ?_; intro w3 hr3 b3 s3; have r3 := hw2.of_block (b3.block (w.heap.size + 1) z2); have z3 : w2.heap.size < w3.heap.size := (by omega); clear s3) | (with_reducible (show wpList _ _ _ ({ dst := _, op := .store _ (.tmp 5) (.tmp 12), type := _, pos := _, after := _, guard := _ } :: _) _ _); refine wpList_store_sec w3 rfl 66 (.tmp 5) (.tmp 12) rfl w2.heap.size F _ rfl rfl hr3 Try.size63 ?_; intro w4 hr4 hg4 hs4; have r4 := r3.of_block (hg4.block (w.heap.size + 1) (by omega) (by simp; omega)); have B4 := hide ((B2.out.trans (b3.mono (by omega))).grown hg4 (by omega) (fun x hx => by cases hx; omega)); have z4 : w2.heap.size < w4.heap.size := (by omega); have H4 := hide ((hg4.block w.heap.size (by omega) (by simp; omega)).trans ((b3.block w.heap.size (by omega)).trans H2.out)); clear hs4 hg4 hr3 b3 r3 c20 c21 hw2) | (with_reducible (show wpList _ _ _ ({ dst := _, op := .load _ (.tmp 5), type := _, pos := _, after := _, guard := _ } :: _) _ _); refine wpList_load_B rfl 66 (.tmp 5) rfl w2.heap.size 0 rfl _ _ 64 _ (bF F) _ hr4 (by omega) (fun j _ => by rw [Nat.zero_add]) Try.underlying66 rfl Try.size63 ?_) | (with_reducible (show wpList _ _ _ ({ dst := _, op := .store _ (.tmp 4) (.tmp 15), type := _, pos := _, after := _, guard := _ } :: _) _ _); refine wpList_store_sec w4 rfl 66 (.tmp 4) (.tmp 15) rfl (w.heap.size + 1) F _ rfl rfl r4 Try.size63 ?_; intro w5 hr5 hg5 hs5; have B5 := hide (B4.out.grown hg5 (by have := B4.out.size; omega) (fun x hx => by cases hx; omega)); clear hg5 hs5))
    exact bodyPost_ret (ret_B Try.results46 _ _ (w.heap.size + 1) 64 66 (bF F) _ rfl hr5 Try.underlying66 rfl Try.size63) rfl ⟨rfl, B5.out⟩
  | none =>
    have hFp : F = S p := by have := HF.out; rw [hMp] at this; exact this
    have HMP := hide hMp
    clear hMp
    obtain ⟨r, o, er, hrw, hcell, hsk⟩ : ∃ r o, sa = some ⟨r, o, none⟩ ∧ r < w.heap.size ∧ w.cell? ⟨r, o + p, none⟩ = some (.string F) ∧ (nS : Int) ≤ (sk : Int) := by
      obtain ⟨a2, c2, e2, hl, h0 | ⟨r, o, er, hr, hc⟩⟩ := HS.out.1
      · omega
      · cases e2
        exact ⟨r, o, er, hr, by rw [hFp]; exact hc p hp, by omega⟩
    subst er
    have CF := hide hcell
    clear hcell hFp
    go_enter Try.func46, Try.ntmps46
    go_wp2_with (first | (with_reducible (show wpList _ _ _ ({ dst := some 4, op := .alloc _, type := _, pos := _, after := _, guard := _ } :: _) _ _); (refine wpList_alloc_sec _ rfl (some 4) rfl 66 rfl (Try.zero63 _) ?_; intro w2 hw2 bw2 sw2; have hb2 := (bw2.block w.heap.size (by simp)).trans qb; have c20 : w2.cell? ⟨w.heap.size, 0, none⟩ = some (.slice (some ⟨r, o, none⟩) nS sk) := (by simp [World.cell?, hb2]); have c21 : w2.cell? ⟨w.heap.size, 1, none⟩ = some (.map (some mb)) := (by simp [World.cell?, hb2]); have B2 := hide (q0.trans (bw2.mono (by simp))); rw [qs] at hw2 sw2; have z2 : w.heap.size + 1 < w2.heap.size := (by omega); have H2 := hide hb2; have M2 := hide (HS.out.2.below B2.out); clear sw2 hb2 bw2 qs qb q0)) | (at_lookup; refine wpList_sec_look _ rfl _ _ 72 rfl 2 66 Try.underlying2 Try.underlying72 (Try.zero63 _) mb nC M rfl M2.out (p : Int) rfl hwf ?_; intro T ok hT; obtain ⟨rfl, e9⟩ : ok = false ∧ M (p : Int) = none := hT.resolve_left (fun h => by have := HMP.out; rw [h.2] at this; cases this); clear e9 hT) | (with_reducible (show wpList _ _ _ ({ dst := some 5, op := .alloc _, type := _, pos := _, after := _, guard := _ } :: _) _ _); refine wpList_alloc_sec w2 rfl (some 5) rfl 66 rfl (Try.zero63 _) ?_; intro w3 hr3 b3 s3; have r3 := hw2.of_block (b3.block (w.heap.size + 1) z2); have z3 : w2.heap.size < w3.heap.size := (by omega); clear s3) | (with_reducible (show wpList _ _ _ ({ dst := _, op := .store _ (.tmp 5) (.tmp 12), type := _, pos := _, after := _, guard := _ } :: _) _ _); refine wpList_store_sec w3 rfl 66 (.tmp 5) (.tmp 12) rfl w2.heap.size T _ rfl rfl hr3 Try.size63 ?_; intro w4 hr4 hg4 hs4; have r4 := r3.of_block (hg4.block (w.heap.size + 1) (by omega) (by simp; omega)); have B4 := hide ((B2.out.trans (b3.mono (by omega))).grown hg4 (by omega) (fun x hx => by cases hx; omega)); have z4 : w2.heap.size < w4.heap.size := (by omega); have H4 := hide ((hg4.block w.heap.size (by omega) (by simp; omega)).trans ((b3.block w.heap.size (by omega)).trans H2.out)); clear hs4 hg4 hr3 b3 r3 c20 c21 hw2; have cf : w4.cell? ⟨r, o + p, none⟩ = some (.string F) := (B4.out.cell (p := ⟨r, o + p, none⟩) hrw).trans CF.out; have c40 : w4.cell? ⟨w.heap.size, 0, none⟩ = some (.slice (some ⟨r, o, none⟩) nS sk) := (by have h := H4.out; simp [World.cell?, h])))
    refine (imp_sectorOf F w4 (by omega)).mono ?_
    rintro e w6 ⟨rfl, hb6⟩
    replace r4 := r4.of_block (hb6.block (w.heap.size + 1) (by omega))
    replace B4 := hide (B4.out.trans (hb6.mono B4.out.size))
    clear cf c40 hb6
    go_wp2_with ((with_reducible (show wpList _ _ _ ({ dst := _, op := .store _ (.tmp 4) (.tmp 21), type := _, pos := _, after := _, guard := _ } :: _) _ _); refine wpList_store_sec w6 rfl 66 (.tmp 4) (.tmp 21) rfl (w.heap.size + 1) F _ rfl rfl r4 Try.size63 ?_; intro w5 hr5 hg5 hs5; have B5 := hide (B4.out.grown hg5 (by have := B4.out.size; omega) (fun x hx => by cases hx; omega)); clear hg5 hs5))
    exact bodyPost_ret (ret_B Try.results46 _ _ (w.heap.size + 1) 64 66 (bF F) _ rfl hr5 Try.underlying66 rfl Try.size63) rfl ⟨rfl, B5.out⟩
end Go.Proofs.Ytipeelkmmjgehab

/- The walk over the program's settled (written by mkdks.py). -/
import Derived.Test.YtipeelkmmjgehabDkC
import Derived.Test.YtipeelkmmjgehabDkL
import Derived.Test.YtipeelkmmjgehabSecA
import Derived.Test.YtipeelkmmjgehabDskV
namespace Go.Proofs.Ytipeelkmmjgehab
open Go Go.RowKit
theorem flS_lat (S : Nat → ByteArray) (A : Nat → Int) (X : Nat → ByteArray) : ∀ n j, flS S A X (fun _ => true) n j = (latM A X n (j : Int)).getD (S j)
  | 0, _ => rfl
  | n + 1, j => by
    show (if true = true ∧ (j : Int) = A n then X n else flS S A X (fun _ => true) n j) = (if (j : Int) = A n then some (X n) else latM A X n j).getD (S j)
    by_cases e : (j : Int) = A n
    · rw [if_pos ⟨rfl, e⟩, if_pos e]; rfl
    · rw [if_neg (fun h => e h.2), if_neg e]; exact flS_lat S A X n j
theorem lat_in (A : Nat → Int) (X : Nat → ByteArray) : ∀ n a T, latM A X n a = some T → ∃ k, k < n ∧ a = A k ∧ T = X k
  | 0, _, _, h => by cases h
  | n + 1, a, T, h => by
    change (if a = A n then some (X n) else latM A X n a) = some T at h
    split at h
    · exact ⟨n, Nat.lt_succ_self _, by assumption, (Option.some.inj h).symm⟩
    · obtain ⟨k, h1, h2⟩ := lat_in A X n a T h
      exact ⟨k, by omega, h2⟩
set_option maxRecDepth 100000 in
set_option maxHeartbeats 6400000 in
theorem imp_settled (v : Value) (nS : Nat) (S : Nat → ByteArray) (nC : Nat) (A : Nat → Int) (X : Nat → ByteArray) (w : World) (hok : dskOk nS S nC A X) (h : dskI w w.heap.size v nS S nC A X) :
    Calls Try.prog 47 #[v] w fun e w' => ∃ o, e = .returned o ∧ dskV w' o w.heap.size w'.heap.size nS (sC (flS S A X (fun _ => true) nC)) 0 (wF A X) ∧ Below w.heap.size w w' := by
  obtain ⟨sv, cv, rfl, hs, hc⟩ := h
  obtain ⟨sa, sk, e1⟩ : ∃ a c, sv = .slice a nS c := by obtain ⟨a, c, e, _⟩ := hs; exact ⟨a, c, e⟩
  obtain ⟨ca, ck, e2⟩ : ∃ a c, cv = .slice a nC c := by obtain ⟨a, c, e, _⟩ := hc; exact ⟨a, c, e⟩
  subst e1 e2
  have HSC := hide (And.intro hs hc)
  have HOK := hide hok
  have hn6 := hok.1
  have hn4 := hok.2.1
  clear hs hc hok
  have q0 : Below w.heap.size w ((w.alloc (.cells #[.slice sa nS sk, .slice ca nC ck] 26)).alloc (.cells #[.slice none 0 0, .slice none 0 0] 26)) := ((Below.refl _ w).alloc (Nat.le_refl _) _).alloc (by simp) _
  have qs : ((w.alloc (.cells #[.slice sa nS sk, .slice ca nC ck] 26)).alloc (.cells #[.slice none 0 0, .slice none 0 0] 26)).heap.size = w.heap.size + 2 := by simp
  have q1 : ((w.alloc (.cells #[.slice sa nS sk, .slice ca nC ck] 26)).alloc (.cells #[.slice none 0 0, .slice none 0 0] 26)).heap[w.heap.size]? = some (.cells #[.slice sa nS sk, .slice ca nC ck] 26) := (Below.heap_alloc _ _ _ (by simp)).trans (heap_alloc_new _ _)
  have q2 : ((w.alloc (.cells #[.slice sa nS sk, .slice ca nC ck] 26)).alloc (.cells #[.slice none 0 0, .slice none 0 0] 26)).heap[w.heap.size + 1]? = some (.cells #[.slice none 0 0, .slice none 0 0] 26) := by have := heap_alloc_new (w.alloc (.cells #[.slice sa nS sk, .slice ca nC ck] 26)) (.cells #[.slice none 0 0, .slice none 0 0] 26); rwa [World.size_alloc] at this
  have QQ := hide (And.intro q0 (And.intro q1 q2))
  clear q0 q1 q2
  go_enter Try.func47, Try.ntmps47
  go_wp2_with fail
  generalize ((w.alloc (.cells #[.slice sa nS sk, .slice ca nC ck] 26)).alloc (.cells #[.slice none 0 0, .slice none 0 0] 26)) = W2 at *
  obtain ⟨q0, q1, q2⟩ := QQ.out
  refine (imp_copiedO (.agg #[.slice sa nS sk, .slice none 0 0]) nS S 0 (fun _ => 0) (fun _ => ⟨#[]⟩) W2 (by omega) (by omega) (fun j hj => by have := HOK.out.2.2.1 j hj; omega) (fun j hj => by omega) ⟨_, _, rfl, (HSC.out.1.below q0).wide (by omega), ⟨none, 0, rfl, Nat.le_refl _, .inl rfl⟩⟩).mono ?_
  rintro e w1 ⟨s1, s2, rfl, o1, o2, hap, hb1⟩
  obtain ⟨a1, c1, ea⟩ := own_slice o1
  obtain ⟨a2, c2, eb⟩ := own_slice o2
  subst ea eb
  have hs1 := hb1.size
  have r1 := (hb1.block w.heap.size (by omega)).trans q1
  have r2 := (hb1.block (w.heap.size + 1) (by omega)).trans q2
  have y1 : w1.cell? ⟨w.heap.size, 1, none⟩ = some (.slice ca nC ck) := by simp [World.cell?, r1]
  have y3 : (w1.alloc (.cells #[.slice a1 nS c1, .slice a2 0 c2] 26)).cell? ⟨w.heap.size, 1, none⟩ = some (.slice ca nC ck) := (((Below.refl w1.heap.size w1).alloc (Nat.le_refl _) _).cell (p := ⟨w.heap.size, 1, none⟩) (by show w.heap.size < _; omega)).trans y1
  clear y1
  have B1 := hide (q0.trans (hb1.mono (by omega)))
  have R2 := hide (And.intro r1 r2)
  have OW := hide o1
  have OC := hide o2
  have HAP := hide hap
  clear r1 r2 o1 o2 hap hb1 q0 q1 q2 QQ
  have q3 := hide ((Below.refl w1.heap.size w1).alloc (Nat.le_refl _) (.cells #[.slice a1 nS c1, .slice a2 0 c2] 26))
  have q4 := hide (heap_alloc_new w1 (.cells #[.slice a1 nS c1, .slice a2 0 c2] 26))
  have q5 : (w1.alloc (.cells #[.slice a1 nS c1, .slice a2 0 c2] 26)).heap.size = w1.heap.size + 1 := by simp
  go_wp2_with fail
  generalize (w1.alloc (.cells #[.slice a1 nS c1, .slice a2 0 c2] 26)) = W3 at *
  refine (imp_latest (.slice ca nC ck) nC A X W3 (by omega) (fun j hj => by have := HOK.out.2.2.2 j hj; omega) (fun j hj => (HOK.out.2.2.2 j hj).2.2) (((HSC.out.2.below (B1.out)).below (q3.out.mono (by omega))).wide (by omega))).mono ?_
  rintro e w4 ⟨mb, rfl, hM, hmb, hb4⟩
  have hs4 := hb4.size
  have hmb2 := hM.lt
  have f4 : w4.heap[w.heap.size + 1]? = some (.cells #[.slice none 0 0, .slice none 0 0] 26) ∧ w4.heap[w1.heap.size]? = some (.cells #[.slice a1 nS c1, .slice a2 0 c2] 26) ∧ Below w.heap.size w w4 := ⟨((hb4.block _ (by omega)).trans (q3.out.block _ (by omega))).trans R2.out.2, (hb4.block _ (by omega)).trans q4.out, (B1.out.trans (q3.out.mono (by omega))).trans (hb4.mono (by omega))⟩
  have hV4 : valM 1 w4 (.slice a1 nS c1) nS (sC S) := ((own_val1 OW.out).below q3.out).below (hb4.mono (Nat.le_refl _))
  have HM := hide hM
  have F4 := hide f4
  have V4 := hide hV4
  clear hM f4 hV4 hb4 q3 q4 R2 B1 y3
  go_wp2_with (first | (at_range; refine wpList_sec_range _ rfl _ 72 rfl 2 66 Try.underlying2 Try.underlying72 mb nC (latM A X nC) rfl HM.out ?_; intro w5 hR5 hg5 hs5) | go_in)
  go_frame
  have R50 := hide hR5
  have F5 : w5.heap[w.heap.size + 1]? = some (.cells #[.slice none 0 0, .slice none 0 0] 26) ∧ w5.heap[w1.heap.size]? = some (.cells #[.slice a1 nS c1, .slice a2 0 c2] 26) ∧ Below w.heap.size w w5 := ⟨(hg5.block _ (by omega) (by simp)).trans F4.out.1, (hg5.block _ (by omega) (by simp)).trans F4.out.2.1, F4.out.2.2.trans ((grownBy_toBelow hg5).mono (by omega))⟩
  have V5 := hide (V4.out.kept hg5 (by simp))
  have F5h := hide F5
  clear hR5 hg5 F4 V4 HM F5
  go_loopw [14] (fun _ wx => ∃ (G : Nat → ByteArray) (L : Int → Bool), Hid (SecR Try.prog 2 wx mb w4.heap.size nC (latM A X nC) L) ∧ Hid (valM 1 wx (.slice a1 nS c1) nS (sC G)) ∧ Hid (∀ j : Nat, j < nS → G j = if L (j : Int) = true then S j else (latM A X nC (j : Int)).getD (S j)) ∧ Hid (wx.heap[w.heap.size + 1]? = some (.cells #[.slice none 0 0, .slice none 0 0] 26) ∧ wx.heap[w1.heap.size]? = some (.cells #[.slice a1 nS c1, .slice a2 0 c2] 26) ∧ Below w.heap.size w wx) ∧ w4.heap.size < wx.heap.size) (fun _ wx => wx.rangeLeft mb w4.heap.size)
  case atStart => exact ⟨S, _, R50, V5, (fun j hj => by cases e : latM A X nC (j : Int) <;> simp), F5h, by omega⟩
  case round =>
    clear R50 V5 F5h
    obtain ⟨G, L, hR, hV, hG, hF, hsz⟩ := hrel
    go_wp2_with (first | (at_next; refine wpList_sec_next _ rfl _ rfl 2 Try.underlying2 mb w4.heap.size nC (latM A X nC) L rfl hR.out ?_ ?_) | go_in)
    · intro hl
      have b0 : wr.cell? ⟨w1.heap.size, 0, none⟩ = some (.slice a1 nS c1) := by simp [World.cell?, hF.out.2.1]
      have b1 : wr.cell? ⟨w1.heap.size, 1, none⟩ = some (.slice a2 0 c2) := by simp [World.cell?, hF.out.2.1]
      have l0 : wr.cell? ⟨w.heap.size + 1, 0, none⟩ = some (.slice none 0 0) := by simp [World.cell?, hF.out.1]
      have l1 : wr.cell? ⟨w.heap.size + 1, 1, none⟩ = some (.slice none 0 0) := by simp [World.cell?, hF.out.1]
      have f0 : wr.frozen? ⟨w.heap.size + 1, 0, none⟩ = false := by simp [World.frozen?, hF.out.1]
      have f1 : wr.frozen? ⟨w.heap.size + 1, 1, none⟩ = false := by simp [World.frozen?, hF.out.1]
      have HL := hide (show ∀ j : Nat, j < nS → G j = flS S A X (fun _ => true) nC j from fun j hj => by rw [hG.out j hj, hl (j : Int), flS_lat]; simp)
      clear hl
      go_wp2_with fail
      have u1 : ((wr.setCell ⟨w.heap.size + 1, 0, none⟩ (.slice a1 nS c1)).setCell ⟨w.heap.size + 1, 1, none⟩ (.slice a2 0 c2)).heap[w.heap.size + 1]? = some (.cells #[.slice a1 nS c1, .slice a2 0 c2] 26) := by simp [World.setCell, Array.getElem?_modify, hF.out.1]
      have u2 : ((wr.setCell ⟨w.heap.size + 1, 0, none⟩ (.slice a1 nS c1)).setCell ⟨w.heap.size + 1, 1, none⟩ (.slice a2 0 c2)).heap.size = wr.heap.size := by simp [World.setCell]
      have n1 : ∀ b, (Value.slice a1 nS c1).ownBlock = some b → b ≠ w.heap.size + 1 := fun b hb => by have := (OW.out.lt b hb).1; omega
      have u4 : valM 1 ((wr.setCell ⟨w.heap.size + 1, 0, none⟩ (.slice a1 nS c1)).setCell ⟨w.heap.size + 1, 1, none⟩ (.slice a2 0 c2)) (.slice a1 nS c1) nS (sC (flS S A X (fun _ => true) nC)) := ((hV.out.set1 _ _ _ n1).set1 _ _ _ n1).congr (fun j hj => by show Value.string (G j) = .string _; rw [HL.out j (by omega)])
      have u6 : Below w.heap.size w ((wr.setCell ⟨w.heap.size + 1, 0, none⟩ (.slice a1 nS c1)).setCell ⟨w.heap.size + 1, 1, none⟩ (.slice a2 0 c2)) := below_set (below_set hF.out.2.2 _ 0 (by omega) _) _ 1 (by omega) _
      generalize ((wr.setCell ⟨w.heap.size + 1, 0, none⟩ (.slice a1 nS c1)).setCell ⟨w.heap.size + 1, 1, none⟩ (.slice a2 0 c2)) = w9 at *
      exact bodyPost_ret (results_cell_row Try.results47 _ _ (w.heap.size + 1) 26 #[.slice a1 nS c1, .slice a2 0 c2] (0, 0) _ rfl u1 Try.underlying26 rfl (by kernel_rfl)) rfl ⟨_, rfl, ⟨_, _, rfl, u4, ⟨a2, c2, rfl, Nat.zero_le _, .inl rfl⟩, (fun b hb => by have := OW.out.lt b hb; omega), (fun b hb => by have := OC.out.lt b hb; omega), HAP.out⟩, u6⟩
    · intro k T w6 hwf hLk hMk hR6 hlt hg6 hs6 hen
      have hs6a : w6.heap.size ≤ wr.heap.size := by omega
      have hs6b : wr.heap.size ≤ w6.heap.size := by omega
      clear hs6
      obtain ⟨n, hn, hkA, hTX⟩ := lat_in A X nC k T hMk
      have hka := HOK.out.2.2.2 n hn
      rw [← hkA, ← hTX] at hka
      obtain ⟨kk, rfl⟩ : ∃ kk : Nat, k = (kk : Int) := ⟨k.toNat, by omega⟩
      have hkn : kk < nS := by omega
      have hT64 := hka.2.2
      have hkn' : (kk : Int) < (nS : Int) := by omega
      have HT := hide (secS_self hT64)
      obtain ⟨g, ea, hgl⟩ : ∃ g, a1 = some ⟨g, 0, none⟩ ∧ g < wr.heap.size := by
        obtain ⟨ao, cap, e, _, h | ⟨g, h1, h2, _⟩⟩ := hV.out
        · omega
        · cases e; exact ⟨g, h1, h2⟩
      subst ea
      have hgb := OW.out.lt g rfl
      have hc1n : nS ≤ c1 := by obtain ⟨ao, cap, e, h, _⟩ := hV.out; cases e; exact h
      have hc1n' : (nS : Int) ≤ (c1 : Int) := by omega
      obtain ⟨x, hx⟩ : ∃ x, x = G kk := ⟨_, rfl⟩
      have hxS : x = S kk := by rw [hx, hG.out kk hkn, hLk]; rfl
      have hx64 : x.size = 64 := by rw [hxS]; exact HOK.out.2.2.1 kk hkn
      have KB : ∀ b, b < w4.heap.size → w6.heap[b]? = wr.heap[b]? := fun b hb => hg6.block b (by omega) (by simp; omega)
      have below_wr6 : Below w4.heap.size wr w6 := ⟨hg6.os, hg6.tape, hg6.output, hg6.size, KB⟩
      have HQ := hide (And.intro hMk (show T = (latM A X nC (kk : Int)).getD (S kk) by rw [hMk]; rfl))
      have HX := hide (And.intro hx hxS)
      have hcell : wr.cell? ⟨g, kk, none⟩ = some (.string x) := by rw [hx]; exact ((hV.out.rc (by omega)).at_ kk (by omega)).1
      have HR6 := hide hR6
      clear hR6
      have hR6 := HR6
      clear hkA hTX hka hn hx hxS hMk hg6 HR6
      go_wp2_with (first | (with_reducible (show wpList _ _ _ ({ dst := _, op := .alloc _, type := _, pos := _, after := _, guard := _ } :: _) _ _); refine wpList_alloc_sec w6 rfl (some 5) rfl 66 rfl (Try.zero63 _) ?_; intro w7 hr7 hb70 hs70) | (with_reducible (show wpList _ _ _ ({ dst := _, op := .store _ (.tmp 5) (.tmp 18), type := _, pos := _, after := _, guard := _ } :: _) _ _); refine wpList_store_sec w7 rfl 66 (.tmp 5) (.tmp 18) rfl w6.heap.size T _ rfl rfl hr7 Try.size63 ?_; intro Wq z10 hgq hsq))
      have hb7 := hide (show Below w6.heap.size w6 Wq from ⟨hgq.os.trans hb70.os, hgq.tape.trans hb70.tape, hgq.output.trans hb70.output, by omega, fun b hb => (hgq.block b (by omega) (by simp; omega)).trans (hb70.block b hb)⟩)
      have hs7 : w6.heap.size < Wq.heap.size := by omega
      have z1 := hide z10
      clear hr7 hb70 hgq z10 hs70 hsq
      have SA : ∀ u : World, Below Wq.heap.size Wq u → u.rangeAt w6.heap.size 0 (bL 64 (bF T)) ∧ u.cell? ⟨w1.heap.size, 0, none⟩ = some (.slice (some ⟨g, 0, none⟩) nS c1) ∧ u.cell? ⟨g, kk, none⟩ = some (.string x) := fun u hu => by
        have h1 := (hu.block w1.heap.size (by omega)).trans ((hb7.out.block w1.heap.size (by omega)).trans ((KB w1.heap.size (by omega)).trans hF.out.2.1))
        have h2 := (hu.block g (by omega)).trans ((hb7.out.block g (by omega)).trans (KB g (by omega)))
        exact ⟨row_range0 (z1.out.of_block (hu.block _ hs7)), by simp [World.cell?, h1], (World.cell?_of_block (w := wr) (a := ⟨g, kk, none⟩) h2).trans hcell⟩
      obtain ⟨bb, hbb⟩ : ∃ bb : Bool, bb = true ↔ secD T ≠ secD x := by
        by_cases e : secD T = secD x
        · exact ⟨false, by simp [e]⟩
        · exact ⟨true, by simp [e]⟩
      have hnq := fun w => run_neq_sec T x bb hbb w
      have hngd := fun a b w => run_guard_sec a b T x w
      refine wp_region_held_drew (S := fun u => u.rangeAt w6.heap.size 0 (bL 64 (bF T)) ∧ u.cell? ⟨w1.heap.size, 0, none⟩ = some (.slice (some ⟨g, 0, none⟩) nS c1) ∧ u.cell? ⟨g, kk, none⟩ = some (.string x)) (by kernel_rfl) (SA _ (Below.refl _ _).drew) (fun hHeld => ?_)
      refine takeD (i := 0) (v := secV T) (some 19) rfl rfl (by kernel_rfl) (by kernel_rfl) (by kernel_rfl) (fun _ _ _ h => h) (yieldsB (by rfl) 66 (.tmp 5) rfl w6.heap.size 0 64 rfl (bF T) _ (fun w hS => hS.1) Try.underlying66 rfl Try.size63) hHeld ?_
      simp only [Act.put, List.setIfInBounds_toArray, List.set_cons_zero, List.set_cons_succ]
      refine takeD (i := 1) (v := .pointer (some ⟨w1.heap.size, 0, none⟩)) (some 20) rfl rfl (by kernel_rfl) (by kernel_rfl) (by kernel_rfl) (fun _ _ _ h => h) (Or.inl ⟨by rfl, fun w hSw => by go_simp⟩) hHeld ?_
      simp only [Act.put, List.setIfInBounds_toArray, List.set_cons_zero, List.set_cons_succ]
      refine takeD (i := 2) (v := .slice (some ⟨g, 0, none⟩) nS c1) (some 21) rfl rfl (by kernel_rfl) (by kernel_rfl) (by kernel_rfl) (fun _ _ _ h => h) (Or.inl ⟨by rfl, fun w hSw => by obtain ⟨s0, s1, s2⟩ := hSw; go_simp⟩) hHeld ?_
      simp only [Act.put, List.setIfInBounds_toArray, List.set_cons_zero, List.set_cons_succ]
      refine takeD (i := 3) (v := .int .i64 (kk : Int)) (some 22) rfl rfl (by kernel_rfl) (by kernel_rfl) (by kernel_rfl) (fun _ _ _ h => h) (Or.inl ⟨by rfl, fun w hSw => by go_simp⟩) hHeld ?_
      simp only [Act.put, List.setIfInBounds_toArray, List.set_cons_zero, List.set_cons_succ]
      refine takeD (i := 4) (v := .pointer (some ⟨g, kk, none⟩)) (some 23) rfl rfl (by kernel_rfl) (by kernel_rfl) (by kernel_rfl) (fun _ _ _ h => h) (Or.inl ⟨by rfl, fun w hSw => by go_simp⟩) hHeld ?_
      simp only [Act.put, List.setIfInBounds_toArray, List.set_cons_zero, List.set_cons_succ]
      refine takeD (i := 5) (v := .string x) (some 24) rfl rfl (by kernel_rfl) (by kernel_rfl) (by kernel_rfl) (fun _ _ _ h => h) (Or.inl ⟨by rfl, fun w hSw => by obtain ⟨s0, s1, s2⟩ := hSw; go_simp⟩) hHeld ?_
      simp only [Act.put, List.setIfInBounds_toArray, List.set_cons_zero, List.set_cons_succ]
      refine wpAnyH_ready (rs := [6]) (by kernel_rfl) (by simp) ?_
      refine AllReadyH.cons rfl (fun KK hK => ?_) AllReadyH.nil
      go_simp
      refine (imp_sectorOf x _ (by omega)).mono ?_
      rintro e w8 ⟨rfl, hb8⟩
      have b8 : Below w6.heap.size w6 w8 := hb7.out.drew.trans (hb8.mono (Nat.le_of_lt hs7))
      have B8 : Below Wq.heap.size Wq w8 := (Below.refl _ _).drew.trans hb8
      go_wp2_with fail
      refine hK.out _ _ (SA _ B8) (fun hHeld => ?_)
      clear hK KK
      refine takeD (i := 7) (v := .bool bb) (some 26) rfl rfl (by kernel_rfl) (by kernel_rfl) (by kernel_rfl) (fun _ _ _ h => h) (Or.inl ⟨by rfl, fun w hSw => by go_simp⟩) hHeld ?_
      simp only [Act.put, List.setIfInBounds_toArray, List.set_cons_zero, List.set_cons_succ]
      refine wpAnyH_done (by kernel_rfl) ?_ _
      have B8o := hide b8
      have h8s := b8.size
      have hq8 := B8.size
      have B8 := hide B8
      clear hb8 b8 hHeld hcell hen hnq hngd
      cases bb with
      | false =>
        have e : secD T = secD x := Classical.byContradiction fun h => by have := hbb.2 h; cases this
        have hTx : T = x := secV_inj hT64 hx64 (secD_V e)
        have R1 := hide (hR6.out.kept (B8o.out.block mb (by omega)) (B8o.out.block w4.heap.size (by omega)))
        have R2 := hide (show valM 1 w8 (.slice (some ⟨g, 0, none⟩) nS c1) nS (sC G) from (hV.out.blk (by omega) (fun k hk => (KB k (by have := OW.out.lt k hk; omega)))).blk h8s (fun k hk => B8o.out.block k (by have := OW.out.lt k hk; omega)))
        have R3 := hide (show ∀ j : Nat, j < nS → G j = if (L (j : Int) && !decide ((j : Int) = (kk : Int))) = true then S j else (latM A X nC (j : Int)).getD (S j) from fun j hj => by
          by_cases e : j = kk
          · subst e; rw [← HX.out.1, ← HQ.out.2, ← hTx]; simp
          · have e2 : ¬ ((j : Int) = (kk : Int)) := by omega
            rw [hG.out j hj]; simp [e2])
        have R4 := hide (show w8.heap[w.heap.size + 1]? = some (.cells #[.slice none 0 0, .slice none 0 0] 26) ∧ w8.heap[w1.heap.size]? = some (.cells #[.slice (some ⟨g, 0, none⟩) nS c1, .slice a2 0 c2] 26) ∧ Below w.heap.size w w8 from ⟨((B8o.out.block _ (by omega)).trans (KB _ (by omega))).trans hF.out.1, ((B8o.out.block _ (by omega)).trans (KB _ (by omega))).trans hF.out.2.1, hF.out.2.2.trans ((below_wr6.mono (by omega)).trans (B8o.out.mono (by omega)))⟩)
        have R5 : w4.heap.size < w8.heap.size := by omega
        have R6 : w8.rangeLeft mb w4.heap.size < wr.rangeLeft mb w4.heap.size := by rw [left_kept (w := w6) (B8o.out.block mb (by omega)) (B8o.out.block w4.heap.size (by omega))]; exact hlt
        clear hbb e hTx SA KB below_wr6
        go_wp2_with fail
        go_roundw
        case rel => exact ⟨_, _, R1, R2, R3, R4, R5⟩
        case measure => exact R6
      | true =>
        clear hbb
        go_wp2_with fail
        refine wp_region_till (S := fun u => u.rangeAt w6.heap.size 0 (bL 64 (bF T)) ∧ u.cell? ⟨w1.heap.size, 0, none⟩ = some (.slice (some ⟨g, 0, none⟩) nS c1) ∧ u.cell? ⟨g, kk, none⟩ = some (.string x)) 6 (by kernel_rfl) (SA _ B8.out.drew) (fun hHeld => ?_)
        refine takeT (i := 0) [1, 5, 6] (v := .pointer (some ⟨w1.heap.size, 0, none⟩)) (some 27) rfl rfl (by kernel_rfl) (by kernel_rfl) (by kernel_rfl) (by kernel_rfl) (fun _ _ _ h => h) (Or.inl ⟨by rfl, fun w hSw => by go_simp⟩) hHeld ?_
        simp only [Act.put, List.setIfInBounds_toArray, List.set_cons_zero, List.set_cons_succ]
        refine takeT (i := 1) [5, 6] (v := .slice (some ⟨g, 0, none⟩) nS c1) (some 28) rfl rfl (by kernel_rfl) (by kernel_rfl) (by kernel_rfl) (by kernel_rfl) (fun _ _ _ h => h) (Or.inl ⟨by rfl, fun w hSw => by obtain ⟨s0, s1, s2⟩ := hSw; go_simp⟩) hHeld ?_
        simp only [Act.put, List.setIfInBounds_toArray, List.set_cons_zero, List.set_cons_succ]
        refine takeT (i := 2) [5, 6] (v := .int .i64 (kk : Int)) (some 29) rfl rfl (by kernel_rfl) (by kernel_rfl) (by kernel_rfl) (by kernel_rfl) (fun _ _ _ h => h) (Or.inl ⟨by rfl, fun w hSw => by go_simp⟩) hHeld ?_
        simp only [Act.put, List.setIfInBounds_toArray, List.set_cons_zero, List.set_cons_succ]
        refine takeT (i := 3) [4, 6] (v := secV T) (some 30) rfl rfl (by kernel_rfl) (by kernel_rfl) (by kernel_rfl) (by kernel_rfl) (fun _ _ _ h => h) (yieldsB (by rfl) 66 (.tmp 5) rfl w6.heap.size 0 64 rfl (bF T) _ (fun w hS => hS.1) Try.underlying66 rfl Try.size63) hHeld ?_
        simp only [Act.put, List.setIfInBounds_toArray, List.set_cons_zero, List.set_cons_succ]
        refine oneT (i := 4) (by kernel_rfl) rfl (fun KK hK => ?_)
        go_simp
        refine (imp_secText T _).mono ?_
        rintro e w9 ⟨rfl, hb9⟩
        have b9 : Below w6.heap.size w6 w9 := B8o.out.drew.trans (hb9.mono h8s)
        have B9 : Below Wq.heap.size Wq w9 := B8.out.drew.trans (hb9.mono hq8)
        go_wp2_with fail
        refine hK.out _ _ (SA _ B9) (fun hHeld => ?_)
        clear hK KK
        refine takeT (i := 5) [6] (v := .pointer (some ⟨g, kk, none⟩)) (some 32) rfl rfl (by kernel_rfl) (by kernel_rfl) (by kernel_rfl) (by kernel_rfl) (fun _ _ _ h => h) (Or.inl ⟨by rfl, fun w hSw => by go_simp⟩) hHeld ?_
        simp only [Act.put, List.setIfInBounds_toArray, List.set_cons_zero, List.set_cons_succ]
        have hV9 : valM 1 w9 (.slice (some ⟨g, 0, none⟩) nS c1) nS (sC G) := (hV.out.blk (by omega) (fun k hk => (KB k (by have := OW.out.lt k hk; omega)))).blk b9.size (fun k hk => b9.block k (by have := OW.out.lt k hk; omega))
        have hc9 := (hV9.rc (by omega)).at_ kk (by omega)
        have hd0 : w9.cell? ⟨g, kk, none⟩ = some (.string (G kk)) := hc9.1
        have hd1 := hc9.2
        rw [HT.out]
        refine lastT (by kernel_rfl) rfl (fun KK hK => ?_)
        go_simp
        have n9 : ∀ b, b ≠ g → (w9.setCell ⟨g, kk, none⟩ (.string T)).heap[b]? = w9.heap[b]? := fun b hb => set1_o _ _ _ _ _ hb
        have kb9 : ∀ b, b < w4.heap.size → b ≠ g → (w9.setCell ⟨g, kk, none⟩ (.string T)).heap[b]? = wr.heap[b]? := fun b h1 h2 => (n9 b h2).trans ((b9.block b (by omega)).trans (KB b h1))
        have R1 := hide (show SecR Try.prog 2 (w9.setCell ⟨g, kk, none⟩ (.string T)) mb w4.heap.size nC (latM A X nC) (fun b => L b && !decide (b = (kk : Int))) from hR6.out.kept ((n9 mb (by omega)).trans (b9.block mb (by omega))) ((n9 w4.heap.size (by omega)).trans (b9.block w4.heap.size (by omega))))
        have R2 := hide (show valM 1 (w9.setCell ⟨g, kk, none⟩ (.string T)) (.slice (some ⟨g, 0, none⟩) nS c1) nS (sC fun j => if j = kk then T else G j) from ((hV9.rc (by omega)).set kk (.string T)).val hc1n (fun j _ => by
            show (if j = kk then Value.string T else sC G j) = .string (if j = kk then T else G j)
            split <;> rfl))
        have R3 := hide (show ∀ j : Nat, j < nS → (if j = kk then T else G j) = if (L (j : Int) && !decide ((j : Int) = (kk : Int))) = true then S j else (latM A X nC (j : Int)).getD (S j) from fun j hj => by
            by_cases e : j = kk
            · subst e; rw [if_pos rfl, HQ.out.2]; simp
            · have e2 : ¬ ((j : Int) = (kk : Int)) := by omega
              rw [if_neg e, hG.out j hj]; simp [e2])
        have R4 := hide (show (w9.setCell ⟨g, kk, none⟩ (.string T)).heap[w.heap.size + 1]? = some (.cells #[.slice none 0 0, .slice none 0 0] 26) ∧ (w9.setCell ⟨g, kk, none⟩ (.string T)).heap[w1.heap.size]? = some (.cells #[.slice (some ⟨g, 0, none⟩) nS c1, .slice a2 0 c2] 26) ∧ Below w.heap.size w (w9.setCell ⟨g, kk, none⟩ (.string T)) from ⟨(kb9 _ (by omega) (by omega)).trans hF.out.1, (kb9 _ (by omega) (by omega)).trans hF.out.2.1, below_set (hF.out.2.2.trans ((below_wr6.mono (by omega)).trans (b9.mono (by omega)))) _ _ (by omega) _⟩)
        have R5 : w4.heap.size < (w9.setCell ⟨g, kk, none⟩ (.string T)).heap.size := by simp [World.setCell]; have := b9.size; omega
        have R6 : (w9.setCell ⟨g, kk, none⟩ (.string T)).rangeLeft mb w4.heap.size < wr.rangeLeft mb w4.heap.size := by rw [left_kept (w := w6) ((n9 mb (by omega)).trans (b9.block mb (by omega))) ((n9 w4.heap.size (by omega)).trans (b9.block w4.heap.size (by omega)))]; exact hlt
        clear n9 kb9 hd0 hd1 hc9 hV9
        refine hK.out _ _ ?_
        clear hK KK
        refine wpAnyT_done (by kernel_rfl) ?_ _
        go_wp2_with fail
        go_roundw
        case rel => exact ⟨_, _, R1, R2, R3, R4, R5⟩
        case measure => exact R6
end Go.Proofs.Ytipeelkmmjgehab

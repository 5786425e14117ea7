/- The walks over the program's read, patch (written by mkextk.py). -/
import Derived.Test.YtipeelkmmjgehaaExtJ
import Derived.Test.YtipeelkmmjgehaaDkVw
import Derived.Test.YtipeelkmmjgehaaSecStep
import Derived.Deep.DeepCutAuto
namespace Go.Proofs.Ytipeelkmmjgehaa
open Go Go.RowKit
/-- Of the blocks that were there wb and the value's own alone may have turned. -/
structure Fr1 (w w' : World) (wb : Nat) (v : Value) : Prop where
  os : w'.os = w.os
  tape : w'.tape = w.tape
  output : w'.output = w.output
  size : w.heap.size ≤ w'.heap.size
  block : ∀ j, j < w.heap.size → j ≠ wb → some j ≠ v.ownBlock → w'.heap[j]? = w.heap[j]?
theorem row_cong {w : World} {g t n : Nat} {f k : Nat → Value} (h : w.rowIs g t n f) (e : ∀ j, j < n → f j = k j) : w.rowIs g t n k := by
  obtain ⟨c, h1, h2, h3⟩ := h
  exact ⟨c, h1, h2, fun i hi => by rw [h3 i hi, e i hi]⟩
set_option maxRecDepth 100000 in
set_option maxHeartbeats 1600000 in
theorem imp_read (B wb g o m cap N s f nS sk nC mb : Nat) (sa : Option Addr) (wsv : Value) (S : Nat → ByteArray) (M : Int → Option ByteArray) (F : ByteArray) (fr : Nat → UInt8) (gt : TypeId) (w : World) (hn : nS ≤ 620) (hs : s < nS) (hF : F = (M (s : Int)).getD (S s)) (hFs : F.size = 64) (hm0 : 0 < m) (hf : f + m ≤ 64) (ho : o + m ≤ N) (hBw : B ≤ w.heap.size) (hv : vwI w B (.agg #[.slice sa nS sk, .map (some mb)]) nS S nC M) (hwb : w.heap[wb]? = some (.cells #[.slice sa nS sk, .map (some mb), wsv] 65)) (hr : w.rowIs g gt N (u8V fr)) :
    Calls Try.prog 47 #[.pointer (some ⟨wb, 0, none⟩), .agg #[.int .i64 (s : Int), .int .i64 (f : Int), .slice (some ⟨g, o, none⟩) m cap]] w fun e w' => e = .returned (.tuple #[]) ∧ w'.rowIs g gt N (u8V fun j => if o ≤ j ∧ j < o + m then bF F (f + (j - o)) else fr j) ∧ w.grownBy w' (some g) := by
  have hwbl : wb < w.heap.size := (Array.getElem?_eq_some_iff.1 hwb).1
  have q0 : Below w.heap.size w (w.alloc (.cells #[.int .i64 (s : Int), .int .i64 (f : Int), .slice (some ⟨g, o, none⟩) m cap] 93)) := (Below.refl _ w).alloc (Nat.le_refl _) _
  have qs : (w.alloc (.cells #[.int .i64 (s : Int), .int .i64 (f : Int), .slice (some ⟨g, o, none⟩) m cap] 93)).heap.size = w.heap.size + 1 := by simp
  have qb : (w.alloc (.cells #[.int .i64 (s : Int), .int .i64 (f : Int), .slice (some ⟨g, o, none⟩) m cap] 93)).heap[w.heap.size]? = some (.cells #[.int .i64 (s : Int), .int .i64 (f : Int), .slice (some ⟨g, o, none⟩) m cap] 93) := heap_alloc_new _ _
  have HV := hide (And.intro hv (And.intro hF hFs))
  have HWB := hide hwb
  clear hv hF hFs hwb
  go_enter Try.func47, Try.ntmps47
  go_wp2_with fail
  generalize w.alloc (.cells #[.int .i64 (s : Int), .int .i64 (f : Int), .slice (some ⟨g, o, none⟩) m cap] 93) = W1 at *
  have SA0 : ∀ u : World, Below W1.heap.size W1 u → u.heap[wb]? = some (.cells #[.slice sa nS sk, .map (some mb), wsv] 65) ∧ u.heap[w.heap.size]? = some (.cells #[.int .i64 (s : Int), .int .i64 (f : Int), .slice (some ⟨g, o, none⟩) m cap] 93) := fun u hu => ⟨(hu.block wb (by omega)).trans ((q0.block wb hwbl).trans HWB.out), (hu.block w.heap.size (by omega)).trans qb⟩
  have SA : ∀ u : World, Below W1.heap.size W1 u → (fun u => (u.cell? ⟨wb, 0, none⟩ = some (.slice sa nS sk) ∧ u.cell? ⟨wb, 1, none⟩ = some (.map (some mb)) ∧ u.cell? ⟨wb, 2, none⟩ = some (wsv)) ∧ u.cell? ⟨w.heap.size, 0, none⟩ = some (.int .i64 (s : Int)) ∧ u.cell? ⟨w.heap.size, 1, none⟩ = some (.int .i64 (f : Int)) ∧ u.cell? ⟨w.heap.size, 2, none⟩ = some (.slice (some ⟨g, o, none⟩) m cap)) u := fun u hu => by
    obtain ⟨h1, h2⟩ := SA0 u hu
    exact ⟨⟨by simp [World.cell?, h1], by simp [World.cell?, h1], by simp [World.cell?, h1]⟩, by simp [World.cell?, h2], by simp [World.cell?, h2], by simp [World.cell?, h2]⟩
  have SAh := hide (And.intro SA0 SA)
  have Q0 := hide q0
  have HV1 := hide ((HV.out.1.below (q0.mono hBw)).wide (show B ≤ W1.heap.size by omega))
  clear SA SA0 q0 qb HWB
  go_cut [4] from 5 to 11 (fun x wx => ∃ b, x = .pointer (some ⟨b, 0, none⟩) ∧ w.heap.size < b ∧ b < wx.heap.size ∧ Hid (wx.rowIs b 97 64 (u8V (bF F))) ∧ Hid (Below W1.heap.size W1 wx))
  case first =>
    refine wp_region_held_drew (S := fun u => (u.cell? ⟨wb, 0, none⟩ = some (.slice sa nS sk) ∧ u.cell? ⟨wb, 1, none⟩ = some (.map (some mb)) ∧ u.cell? ⟨wb, 2, none⟩ = some (wsv)) ∧ u.cell? ⟨w.heap.size, 0, none⟩ = some (.int .i64 (s : Int)) ∧ u.cell? ⟨w.heap.size, 1, none⟩ = some (.int .i64 (f : Int)) ∧ u.cell? ⟨w.heap.size, 2, none⟩ = some (.slice (some ⟨g, o, none⟩) m cap)) (by kernel_rfl) (SAh.out.2 _ (Below.refl _ _).drew) (fun hHeld => ?_)
    refine takeD (i := 0) (v := .pointer (some ⟨wb, 0, none⟩)) (some 5) rfl rfl (by kernel_rfl) (by kernel_rfl) (by kernel_rfl) (fun _ _ _ h => h) (Or.inl ⟨by rfl, fun w hSw => by go_simp⟩) hHeld ?_
    simp only [Act.put, List.setIfInBounds_toArray, List.set_cons_zero, List.set_cons_succ]
    refine takeD (i := 1) (v := .pointer (some ⟨wb, 0, none⟩)) (some 6) rfl rfl (by kernel_rfl) (by kernel_rfl) (by kernel_rfl) (fun _ _ _ h => h) (Or.inl ⟨by rfl, fun w hSw => by go_simp⟩) hHeld ?_
    simp only [Act.put, List.setIfInBounds_toArray, List.set_cons_zero, List.set_cons_succ]
    refine takeD (i := 2) (v := .pointer (some ⟨wb, 0, none⟩)) (some 7) rfl rfl (by kernel_rfl) (by kernel_rfl) (by kernel_rfl) (fun _ _ _ h => h) (Or.inl ⟨by rfl, fun w hSw => by go_simp⟩) hHeld ?_
    simp only [Act.put, List.setIfInBounds_toArray, List.set_cons_zero, List.set_cons_succ]
    refine takeD (i := 3) (v := .agg #[.slice sa nS sk, .map (some mb)]) (some 8) rfl rfl (by kernel_rfl) (by kernel_rfl) (by kernel_rfl) (fun _ _ _ h => h) (Or.inl ⟨by rfl, fun w hSw => by obtain ⟨⟨s0, s1, s2⟩, s3, s4, s5⟩ := hSw; go_simp⟩) hHeld ?_
    simp only [Act.put, List.setIfInBounds_toArray, List.set_cons_zero, List.set_cons_succ]
    refine takeD (i := 4) (v := .pointer (some ⟨w.heap.size, 0, none⟩)) (some 9) rfl rfl (by kernel_rfl) (by kernel_rfl) (by kernel_rfl) (fun _ _ _ h => h) (Or.inl ⟨by rfl, fun w hSw => by go_simp⟩) hHeld ?_
    simp only [Act.put, List.setIfInBounds_toArray, List.set_cons_zero, List.set_cons_succ]
    refine takeD (i := 5) (v := .int .i64 (s : Int)) (some 10) rfl rfl (by kernel_rfl) (by kernel_rfl) (by kernel_rfl) (fun _ _ _ h => h) (Or.inl ⟨by rfl, fun w hSw => by obtain ⟨⟨s0, s1, s2⟩, s3, s4, s5⟩ := hSw; go_simp⟩) hHeld ?_
    simp only [Act.put, List.setIfInBounds_toArray, List.set_cons_zero, List.set_cons_succ]
    refine wpAnyH_ready (rs := [6, 7]) (by kernel_rfl) (by simp) ?_
    refine AllReadyH.cons rfl (fun KK hK => ?_) (AllReadyH.cons rfl (fun KK hK => ?_) AllReadyH.nil)
    · go_simp
      refine (imp_has _ nS S nC M s F W1.drew hn hs HV.out.2.1 HV.out.2.2 (HV1.out.below (Below.refl _ _).drew)).mono ?_
      rintro e w2 ⟨rfl, hb⟩
      have b2 : Below W1.heap.size W1 w2 := (Below.refl _ _).drew.trans hb
      clear hb
      go_wp2_with fail
      refine hK.out _ _ (SAh.out.2 _ b2) (fun hHeld => ?_)
      clear hK KK
      refine wpAnyH_ready (rs := [7]) (by kernel_rfl) (by simp) ?_
      refine AllReadyH.cons rfl (fun KK hK => ?_) AllReadyH.nil
      refine step_alloc_sec (some 4) rfl rfl 97 rfl (Try.zero63 _) ?_
      intro w3 r3 b3 z3
      have b3' := b2.trans (b3.mono b2.size)
      simp only [Act.put, List.setIfInBounds_toArray, List.set_cons_zero, List.set_cons_succ]
      refine hK.out _ _ (SAh.out.2 _ b3') (fun hHeld => ?_)
      clear hK KK
      refine wpAnyH_ready (rs := [8]) (by kernel_rfl) (by simp) ?_
      refine AllReadyH.cons rfl (fun KK hK => ?_) AllReadyH.nil
      refine step_store_sec rfl 97 (.tmp 4) (.tmp 11) rfl w2.heap.size F _ rfl rfl r3 Try.size63 ?_
      intro w4 r4 g4 z4
      have b4 := b3'.grown g4 b3'.size (fun x hx => by cases hx; exact b2.size)
      simp only [Act.put]
      refine hK.out _ _ (SAh.out.2 _ b4) (fun hHeld => ?_)
      clear hK KK
      refine wpAnyH_done (by kernel_rfl) ?_ _
      go_wp2_with fail
      go_meet
      case rel => exact ⟨_, rfl, by have := b2.size; omega, by omega, r4, b4⟩
    · refine step_alloc_sec (some 4) rfl rfl 97 rfl (Try.zero63 _) ?_
      intro w3 r3 b30 z3
      have hz3 : w3.heap.size = W1.heap.size + 1 := z3
      have r3' : w3.rowIs W1.heap.size 97 64 (u8V (bF ⟨#[]⟩)) := r3
      have b3 : Below W1.heap.size W1 w3 := (Below.refl _ _).drew.trans b30
      clear b30 z3 r3
      simp only [Act.put, List.setIfInBounds_toArray, List.set_cons_zero, List.set_cons_succ]
      refine hK.out _ _ (SAh.out.2 _ b3) (fun hHeld => ?_)
      clear hK KK
      refine wpAnyH_ready (rs := [6]) (by kernel_rfl) (by simp) ?_
      refine AllReadyH.cons rfl (fun KK hK => ?_) AllReadyH.nil
      go_simp
      refine (imp_has _ nS S nC M s F w3 hn hs HV.out.2.1 HV.out.2.2 ((HV1.out.below b3).wide b3.size)).mono ?_
      rintro e w2 ⟨rfl, hb⟩
      have b2 := b3.trans (hb.mono b3.size)
      have r2 := r3'.of_block (hb.block W1.heap.size (by omega))
      have z2 := hb.size
      clear hb
      go_wp2_with fail
      refine hK.out _ _ (SAh.out.2 _ b2) (fun hHeld => ?_)
      clear hK KK
      refine wpAnyH_ready (rs := [8]) (by kernel_rfl) (by simp) ?_
      refine AllReadyH.cons rfl (fun KK hK => ?_) AllReadyH.nil
      refine step_store_sec rfl 97 (.tmp 4) (.tmp 11) rfl (w.heap.size + 1) F _ rfl rfl (by rw [← qs]; exact r2) Try.size63 ?_
      intro w4 r4 g4 z4
      have b4 := b2.grown g4 (by omega) (fun x hx => by cases hx; omega)
      simp only [Act.put]
      refine hK.out _ _ (SAh.out.2 _ b4) (fun hHeld => ?_)
      clear hK KK
      refine wpAnyH_done (by kernel_rfl) ?_ _
      go_wp2_with fail
      go_meet
      case rel => exact ⟨_, rfl, by omega, by omega, r4, b4⟩
  case rest =>
    obtain ⟨b, rfl, hb1, hb2, HR, HB⟩ := hcut
    have hgl : g < w.heap.size := hr.lt
    have hf64 : (f : Int) ≤ 64 := by omega
    have hf64n : ¬ 64 = f := by omega
    have hbw := HB.out.size
    have hr1 : wc.rowIs g gt N (u8V fr) := hr.of_block ((HB.out.block g (by omega)).trans (Q0.out.block g hgl))
    go_wp2_with fail
    have SB0 : (fun u => u.cell? ⟨w.heap.size, 0, none⟩ = some (.int .i64 (s : Int)) ∧ u.cell? ⟨w.heap.size, 1, none⟩ = some (.int .i64 (f : Int)) ∧ u.cell? ⟨w.heap.size, 2, none⟩ = some (.slice (some ⟨g, o, none⟩) m cap)) wc.drew := by
      obtain ⟨_, h⟩ := SAh.out.2 wc HB.out
      exact h
    refine wp_region_held_drew (S := fun u => u.cell? ⟨w.heap.size, 0, none⟩ = some (.int .i64 (s : Int)) ∧ u.cell? ⟨w.heap.size, 1, none⟩ = some (.int .i64 (f : Int)) ∧ u.cell? ⟨w.heap.size, 2, none⟩ = some (.slice (some ⟨g, o, none⟩) m cap)) (by kernel_rfl) SB0 (fun hHeld => ?_)
    refine takeD (i := 0) (v := .pointer (some ⟨w.heap.size, 2, none⟩)) (some 12) rfl rfl (by kernel_rfl) (by kernel_rfl) (by kernel_rfl) (fun _ _ _ h => h) (Or.inl ⟨by rfl, fun w hSw => by go_simp⟩) hHeld ?_
    simp only [Act.put, List.setIfInBounds_toArray, List.set_cons_zero, List.set_cons_succ]
    refine takeD (i := 1) (v := .slice (some ⟨g, o, none⟩) m cap) (some 13) rfl rfl (by kernel_rfl) (by kernel_rfl) (by kernel_rfl) (fun _ _ _ h => h) (Or.inl ⟨by rfl, fun w hSw => by obtain ⟨s3, s4, s5⟩ := hSw; go_simp⟩) hHeld ?_
    simp only [Act.put, List.setIfInBounds_toArray, List.set_cons_zero, List.set_cons_succ]
    refine takeD (i := 2) (v := .pointer (some ⟨b, 0, none⟩)) (some 14) rfl rfl (by kernel_rfl) (by kernel_rfl) (by kernel_rfl) (fun _ _ _ h => h) (Or.inl ⟨by rfl, fun w hSw => by go_simp⟩) hHeld ?_
    simp only [Act.put, List.setIfInBounds_toArray, List.set_cons_zero, List.set_cons_succ]
    refine takeD (i := 3) (v := .pointer (some ⟨w.heap.size, 1, none⟩)) (some 15) rfl rfl (by kernel_rfl) (by kernel_rfl) (by kernel_rfl) (fun _ _ _ h => h) (Or.inl ⟨by rfl, fun w hSw => by go_simp⟩) hHeld ?_
    simp only [Act.put, List.setIfInBounds_toArray, List.set_cons_zero, List.set_cons_succ]
    refine takeD (i := 4) (v := .int .i64 (f : Int)) (some 16) rfl rfl (by kernel_rfl) (by kernel_rfl) (by kernel_rfl) (fun _ _ _ h => h) (Or.inl ⟨by rfl, fun w hSw => by obtain ⟨s3, s4, s5⟩ := hSw; go_simp⟩) hHeld ?_
    simp only [Act.put, List.setIfInBounds_toArray, List.set_cons_zero, List.set_cons_succ]
    refine takeD (i := 5) (v := .slice (some ⟨b, f, none⟩) (64 - f) (64 - f)) (some 17) rfl rfl (by kernel_rfl) (by kernel_rfl) (by kernel_rfl) (fun _ _ _ h => h) (Or.inl ⟨by rfl, fun w hSw => by go_simp⟩) hHeld ?_
    simp only [Act.put, List.setIfInBounds_toArray, List.set_cons_zero, List.set_cons_succ]
    refine wpAnyH_ready (rs := [6]) (by kernel_rfl) (by simp) ?_
    refine AllReadyH.cons rfl (fun KK hK => ?_) AllReadyH.nil
    refine step_copy_BD (some 18) rfl rfl (.tmp 13) (.tmp 17) 22 22 rfl 5 Try.underlying22 (by kernel_rfl) g o m cap b f (64 - f) (64 - f) rfl rfl m (fun j => bF F (f + j)) (by simp only [Nat.min_def]; split <;> omega) (row_range (w := wc.drew) HR.out (by omega) (fun j _ => rfl)) (row_there (w := wc.drew) hr1 ho) ?_
    have hgb : wc.grownBy (wc.drew.setCells g o (bL m fun j => bF F (f + j))) (some g) := by
      have h := grownBy_setCells (bL m fun j => bF F (f + j)) o wc.drew g
      exact ⟨h.os, h.tape, h.output, h.size, h.block⟩
    have hgw : w.grownBy wc (some g) := ⟨HB.out.os.trans Q0.out.os, HB.out.tape.trans Q0.out.tape, HB.out.output.trans Q0.out.output, by omega, fun k hk _ => (HB.out.block k (by omega)).trans (Q0.out.block k hk)⟩
    have R1 := hide (grownBy_trans hgw hgb)
    have R2 := hide (row_setCells (k := fun j => bF F (f + j)) (w := wc.drew) hr1 ho)
    have e0 : (wc.drew.setCells g o (bL m fun j => bF F (f + j))).heap[w.heap.size]? = wc.heap[w.heap.size]? := setCells_far g _ o wc.drew w.heap.size (by omega)
    have e1 := e0.trans (SAh.out.1 wc HB.out).2
    simp only [Act.put, List.setIfInBounds_toArray, List.set_cons_zero, List.set_cons_succ]
    refine hK.out _ _ ⟨by simp [World.cell?, e1], by simp [World.cell?, e1], by simp [World.cell?, e1]⟩ (fun hHeld => ?_)
    clear hK KK
    refine wpAnyH_done (by kernel_rfl) ?_ _
    go_wp2_with fail
    exact bodyPost_end (v := .tuple #[]) (by simp [results, Try.results47]) rfl ⟨rfl, R2.out, R1.out⟩
set_option maxRecDepth 100000 in
set_option maxHeartbeats 3200000 in
theorem imp_patch (base k B wb g o m cap s f nS sk nC mb : Nat) (sa : Option Addr) (wa : Option Addr) (wcp : Nat) (S : Nat → ByteArray) (M : Int → Option ByteArray) (F : ByteArray) (w : World) (hn : nS ≤ 620) (hs : s < nS) (hF : F = (M (s : Int)).getD (S s)) (hFs : F.size = 64) (hm0 : 0 < m) (hf : f + m ≤ 64) (hBw : B ≤ w.heap.size) (hv : vwI w B (.agg #[.slice sa nS sk, .map (some mb)]) nS S nC M) (hwb : w.heap[wb]? = some (.cells #[.slice sa nS sk, .map (some mb), .slice wa k wcp] 65)) (kr : Nat → UInt8) (P : ByteArray) (hg : g < w.heap.size) (hsrc : w.rangeAt g o (bL m kr)) (hP : P.size = 64) (hPb : ∀ j, j < 64 → bF P j = if f ≤ j ∧ j < f + m then kr (j - f) else bF F j) (ws : List Value) (hk : k ≤ 1000) (hown : w.ownsRow base 74 2 (.slice wa k wcp) k ws) (hwb2 : wb < base) (hbase : base ≤ w.heap.size) :
    Calls Try.prog 39 #[.pointer (some ⟨wb, 0, none⟩), .agg #[.int .i64 (s : Int), .int .i64 (f : Int), .slice (some ⟨g, o, none⟩) m cap]] w fun e w' => e = .returned (.tuple #[]) ∧ ∃ a9 c9, w'.ownsRow base 74 2 (.slice a9 (k + 1) c9) (k + 1) (ws ++ [.int .i64 (s : Int), .string P]) ∧ w'.heap[wb]? = some (.cells #[.slice sa nS sk, .map (some mb), .slice a9 (k + 1) c9] 65) ∧ Fr1 w w' wb (.slice wa k wcp) := by
  obtain ⟨iw, hiw, hzw0, hzw1, hzw2⟩ := info_parts Try.infoWr
  have QB := hide (heap_alloc_new w (.cells #[.int .i64 (s : Int), .int .i64 (f : Int), .slice (some ⟨g, o, none⟩) m cap] 93))
  have HWB2 := hide hwb
  have hwbl : wb < w.heap.size := (Array.getElem?_eq_some_iff.1 hwb).1
  have q0 : Below w.heap.size w (w.alloc (.cells #[.int .i64 (s : Int), .int .i64 (f : Int), .slice (some ⟨g, o, none⟩) m cap] 93)) := (Below.refl _ w).alloc (Nat.le_refl _) _
  have qs : (w.alloc (.cells #[.int .i64 (s : Int), .int .i64 (f : Int), .slice (some ⟨g, o, none⟩) m cap] 93)).heap.size = w.heap.size + 1 := by simp
  have qb : (w.alloc (.cells #[.int .i64 (s : Int), .int .i64 (f : Int), .slice (some ⟨g, o, none⟩) m cap] 93)).heap[w.heap.size]? = some (.cells #[.int .i64 (s : Int), .int .i64 (f : Int), .slice (some ⟨g, o, none⟩) m cap] 93) := heap_alloc_new _ _
  have HV := hide (And.intro hv (And.intro hF hFs))
  have HWB := hide hwb
  clear hv hF hFs hwb
  go_enter Try.func39, Try.ntmps39
  go_wp2_with fail
  generalize w.alloc (.cells #[.int .i64 (s : Int), .int .i64 (f : Int), .slice (some ⟨g, o, none⟩) m cap] 93) = W1 at *
  have SA0 : ∀ u : World, Below W1.heap.size W1 u → u.heap[wb]? = some (.cells #[.slice sa nS sk, .map (some mb), .slice wa k wcp] 65) ∧ u.heap[w.heap.size]? = some (.cells #[.int .i64 (s : Int), .int .i64 (f : Int), .slice (some ⟨g, o, none⟩) m cap] 93) := fun u hu => ⟨(hu.block wb (by omega)).trans ((q0.block wb hwbl).trans HWB.out), (hu.block w.heap.size (by omega)).trans qb⟩
  have SA : ∀ u : World, Below W1.heap.size W1 u → (fun u => (u.cell? ⟨wb, 0, none⟩ = some (.slice sa nS sk) ∧ u.cell? ⟨wb, 1, none⟩ = some (.map (some mb)) ∧ u.cell? ⟨wb, 2, none⟩ = some (.slice wa k wcp)) ∧ u.cell? ⟨w.heap.size, 0, none⟩ = some (.int .i64 (s : Int)) ∧ u.cell? ⟨w.heap.size, 1, none⟩ = some (.int .i64 (f : Int)) ∧ u.cell? ⟨w.heap.size, 2, none⟩ = some (.slice (some ⟨g, o, none⟩) m cap)) u := fun u hu => by
    obtain ⟨h1, h2⟩ := SA0 u hu
    exact ⟨⟨by simp [World.cell?, h1], by simp [World.cell?, h1], by simp [World.cell?, h1]⟩, by simp [World.cell?, h2], by simp [World.cell?, h2], by simp [World.cell?, h2]⟩
  have SAh := hide (And.intro SA0 SA)
  have Q0 := hide q0
  have HV1 := hide ((HV.out.1.below (q0.mono hBw)).wide (show B ≤ W1.heap.size by omega))
  clear SA SA0 q0 qb HWB
  go_cut [4] from 5 to 11 (fun x wx => ∃ b, x = .pointer (some ⟨b, 0, none⟩) ∧ w.heap.size < b ∧ b < wx.heap.size ∧ Hid (wx.rowIs b 97 64 (u8V (bF F))) ∧ Hid (Below W1.heap.size W1 wx))
  case first =>
    refine wp_region_held_drew (S := fun u => (u.cell? ⟨wb, 0, none⟩ = some (.slice sa nS sk) ∧ u.cell? ⟨wb, 1, none⟩ = some (.map (some mb)) ∧ u.cell? ⟨wb, 2, none⟩ = some (.slice wa k wcp)) ∧ u.cell? ⟨w.heap.size, 0, none⟩ = some (.int .i64 (s : Int)) ∧ u.cell? ⟨w.heap.size, 1, none⟩ = some (.int .i64 (f : Int)) ∧ u.cell? ⟨w.heap.size, 2, none⟩ = some (.slice (some ⟨g, o, none⟩) m cap)) (by kernel_rfl) (SAh.out.2 _ (Below.refl _ _).drew) (fun hHeld => ?_)
    refine takeD (i := 0) (v := .pointer (some ⟨wb, 0, none⟩)) (some 5) rfl rfl (by kernel_rfl) (by kernel_rfl) (by kernel_rfl) (fun _ _ _ h => h) (Or.inl ⟨by rfl, fun w hSw => by go_simp⟩) hHeld ?_
    simp only [Act.put, List.setIfInBounds_toArray, List.set_cons_zero, List.set_cons_succ]
    refine takeD (i := 1) (v := .pointer (some ⟨wb, 0, none⟩)) (some 6) rfl rfl (by kernel_rfl) (by kernel_rfl) (by kernel_rfl) (fun _ _ _ h => h) (Or.inl ⟨by rfl, fun w hSw => by go_simp⟩) hHeld ?_
    simp only [Act.put, List.setIfInBounds_toArray, List.set_cons_zero, List.set_cons_succ]
    refine takeD (i := 2) (v := .pointer (some ⟨wb, 0, none⟩)) (some 7) rfl rfl (by kernel_rfl) (by kernel_rfl) (by kernel_rfl) (fun _ _ _ h => h) (Or.inl ⟨by rfl, fun w hSw => by go_simp⟩) hHeld ?_
    simp only [Act.put, List.setIfInBounds_toArray, List.set_cons_zero, List.set_cons_succ]
    refine takeD (i := 3) (v := .agg #[.slice sa nS sk, .map (some mb)]) (some 8) rfl rfl (by kernel_rfl) (by kernel_rfl) (by kernel_rfl) (fun _ _ _ h => h) (Or.inl ⟨by rfl, fun w hSw => by obtain ⟨⟨s0, s1, s2⟩, s3, s4, s5⟩ := hSw; go_simp⟩) hHeld ?_
    simp only [Act.put, List.setIfInBounds_toArray, List.set_cons_zero, List.set_cons_succ]
    refine takeD (i := 4) (v := .pointer (some ⟨w.heap.size, 0, none⟩)) (some 9) rfl rfl (by kernel_rfl) (by kernel_rfl) (by kernel_rfl) (fun _ _ _ h => h) (Or.inl ⟨by rfl, fun w hSw => by go_simp⟩) hHeld ?_
    simp only [Act.put, List.setIfInBounds_toArray, List.set_cons_zero, List.set_cons_succ]
    refine takeD (i := 5) (v := .int .i64 (s : Int)) (some 10) rfl rfl (by kernel_rfl) (by kernel_rfl) (by kernel_rfl) (fun _ _ _ h => h) (Or.inl ⟨by rfl, fun w hSw => by obtain ⟨⟨s0, s1, s2⟩, s3, s4, s5⟩ := hSw; go_simp⟩) hHeld ?_
    simp only [Act.put, List.setIfInBounds_toArray, List.set_cons_zero, List.set_cons_succ]
    refine wpAnyH_ready (rs := [6, 7]) (by kernel_rfl) (by simp) ?_
    refine AllReadyH.cons rfl (fun KK hK => ?_) (AllReadyH.cons rfl (fun KK hK => ?_) AllReadyH.nil)
    · go_simp
      refine (imp_has _ nS S nC M s F W1.drew hn hs HV.out.2.1 HV.out.2.2 (HV1.out.below (Below.refl _ _).drew)).mono ?_
      rintro e w2 ⟨rfl, hb⟩
      have b2 : Below W1.heap.size W1 w2 := (Below.refl _ _).drew.trans hb
      clear hb
      go_wp2_with fail
      refine hK.out _ _ (SAh.out.2 _ b2) (fun hHeld => ?_)
      clear hK KK
      refine wpAnyH_ready (rs := [7]) (by kernel_rfl) (by simp) ?_
      refine AllReadyH.cons rfl (fun KK hK => ?_) AllReadyH.nil
      refine step_alloc_sec (some 4) rfl rfl 97 rfl (Try.zero63 _) ?_
      intro w3 r3 b3 z3
      have b3' := b2.trans (b3.mono b2.size)
      simp only [Act.put, List.setIfInBounds_toArray, List.set_cons_zero, List.set_cons_succ]
      refine hK.out _ _ (SAh.out.2 _ b3') (fun hHeld => ?_)
      clear hK KK
      refine wpAnyH_ready (rs := [8]) (by kernel_rfl) (by simp) ?_
      refine AllReadyH.cons rfl (fun KK hK => ?_) AllReadyH.nil
      refine step_store_sec rfl 97 (.tmp 4) (.tmp 11) rfl w2.heap.size F _ rfl rfl r3 Try.size63 ?_
      intro w4 r4 g4 z4
      have b4 := b3'.grown g4 b3'.size (fun x hx => by cases hx; exact b2.size)
      simp only [Act.put]
      refine hK.out _ _ (SAh.out.2 _ b4) (fun hHeld => ?_)
      clear hK KK
      refine wpAnyH_done (by kernel_rfl) ?_ _
      go_wp2_with fail
      go_meet
      case rel => exact ⟨_, rfl, by have := b2.size; omega, by omega, r4, b4⟩
    · refine step_alloc_sec (some 4) rfl rfl 97 rfl (Try.zero63 _) ?_
      intro w3 r3 b30 z3
      have hz3 : w3.heap.size = W1.heap.size + 1 := z3
      have r3' : w3.rowIs W1.heap.size 97 64 (u8V (bF ⟨#[]⟩)) := r3
      have b3 : Below W1.heap.size W1 w3 := (Below.refl _ _).drew.trans b30
      clear b30 z3 r3
      simp only [Act.put, List.setIfInBounds_toArray, List.set_cons_zero, List.set_cons_succ]
      refine hK.out _ _ (SAh.out.2 _ b3) (fun hHeld => ?_)
      clear hK KK
      refine wpAnyH_ready (rs := [6]) (by kernel_rfl) (by simp) ?_
      refine AllReadyH.cons rfl (fun KK hK => ?_) AllReadyH.nil
      go_simp
      refine (imp_has _ nS S nC M s F w3 hn hs HV.out.2.1 HV.out.2.2 ((HV1.out.below b3).wide b3.size)).mono ?_
      rintro e w2 ⟨rfl, hb⟩
      have b2 := b3.trans (hb.mono b3.size)
      have r2 := r3'.of_block (hb.block W1.heap.size (by omega))
      have z2 := hb.size
      clear hb
      go_wp2_with fail
      refine hK.out _ _ (SAh.out.2 _ b2) (fun hHeld => ?_)
      clear hK KK
      refine wpAnyH_ready (rs := [8]) (by kernel_rfl) (by simp) ?_
      refine AllReadyH.cons rfl (fun KK hK => ?_) AllReadyH.nil
      refine step_store_sec rfl 97 (.tmp 4) (.tmp 11) rfl (w.heap.size + 1) F _ rfl rfl (by rw [← qs]; exact r2) Try.size63 ?_
      intro w4 r4 g4 z4
      have b4 := b2.grown g4 (by omega) (fun x hx => by cases hx; omega)
      simp only [Act.put]
      refine hK.out _ _ (SAh.out.2 _ b4) (fun hHeld => ?_)
      clear hK KK
      refine wpAnyH_done (by kernel_rfl) ?_ _
      go_wp2_with fail
      go_meet
      case rel => exact ⟨_, rfl, by omega, by omega, r4, b4⟩
  case rest =>
    obtain ⟨b, rfl, hb1, hb2, HR, HB⟩ := hcut
    have hf64 : (f : Int) ≤ 64 := by omega
    have hf64n : ¬ 64 = f := by omega
    have hbw := HB.out.size
    have hsr1 : wc.drew.rangeAt g o (bL m kr) := fun j x hj => by
      have h1 := hsrc j x hj
      have h2 := (HB.out.cell (p := ⟨g, o + j, none⟩) (by show g < _; omega)).trans (Q0.out.cell (p := ⟨g, o + j, none⟩) hg)
      exact h2.trans h1
    go_wp2_with fail
    have SB0 : (fun u => u.cell? ⟨w.heap.size, 0, none⟩ = some (.int .i64 (s : Int)) ∧ u.cell? ⟨w.heap.size, 1, none⟩ = some (.int .i64 (f : Int)) ∧ u.cell? ⟨w.heap.size, 2, none⟩ = some (.slice (some ⟨g, o, none⟩) m cap)) wc.drew := by
      obtain ⟨_, h⟩ := SAh.out.2 wc HB.out
      exact h
    refine wp_region_held_drew (S := fun u => u.cell? ⟨w.heap.size, 0, none⟩ = some (.int .i64 (s : Int)) ∧ u.cell? ⟨w.heap.size, 1, none⟩ = some (.int .i64 (f : Int)) ∧ u.cell? ⟨w.heap.size, 2, none⟩ = some (.slice (some ⟨g, o, none⟩) m cap)) (by kernel_rfl) SB0 (fun hHeld => ?_)
    refine takeD (i := 0) (v := .pointer (some ⟨b, 0, none⟩)) (some 12) rfl rfl (by kernel_rfl) (by kernel_rfl) (by kernel_rfl) (fun _ _ _ h => h) (Or.inl ⟨by rfl, fun w hSw => by go_simp⟩) hHeld ?_
    simp only [Act.put, List.setIfInBounds_toArray, List.set_cons_zero, List.set_cons_succ]
    refine takeD (i := 1) (v := .pointer (some ⟨w.heap.size, 1, none⟩)) (some 13) rfl rfl (by kernel_rfl) (by kernel_rfl) (by kernel_rfl) (fun _ _ _ h => h) (Or.inl ⟨by rfl, fun w hSw => by go_simp⟩) hHeld ?_
    simp only [Act.put, List.setIfInBounds_toArray, List.set_cons_zero, List.set_cons_succ]
    refine takeD (i := 2) (v := .int .i64 (f : Int)) (some 14) rfl rfl (by kernel_rfl) (by kernel_rfl) (by kernel_rfl) (fun _ _ _ h => h) (Or.inl ⟨by rfl, fun w hSw => by obtain ⟨s3, s4, s5⟩ := hSw; go_simp⟩) hHeld ?_
    simp only [Act.put, List.setIfInBounds_toArray, List.set_cons_zero, List.set_cons_succ]
    refine takeD (i := 3) (v := .slice (some ⟨b, f, none⟩) (64 - f) (64 - f)) (some 15) rfl rfl (by kernel_rfl) (by kernel_rfl) (by kernel_rfl) (fun _ _ _ h => h) (Or.inl ⟨by rfl, fun w hSw => by go_simp⟩) hHeld ?_
    simp only [Act.put, List.setIfInBounds_toArray, List.set_cons_zero, List.set_cons_succ]
    refine takeD (i := 4) (v := .pointer (some ⟨w.heap.size, 2, none⟩)) (some 16) rfl rfl (by kernel_rfl) (by kernel_rfl) (by kernel_rfl) (fun _ _ _ h => h) (Or.inl ⟨by rfl, fun w hSw => by go_simp⟩) hHeld ?_
    simp only [Act.put, List.setIfInBounds_toArray, List.set_cons_zero, List.set_cons_succ]
    refine takeD (i := 5) (v := .slice (some ⟨g, o, none⟩) m cap) (some 17) rfl rfl (by kernel_rfl) (by kernel_rfl) (by kernel_rfl) (fun _ _ _ h => h) (Or.inl ⟨by rfl, fun w hSw => by obtain ⟨s3, s4, s5⟩ := hSw; go_simp⟩) hHeld ?_
    simp only [Act.put, List.setIfInBounds_toArray, List.set_cons_zero, List.set_cons_succ]
    refine wpAnyH_ready (rs := [6]) (by kernel_rfl) (by simp) ?_
    refine AllReadyH.cons rfl (fun KK hK => ?_) AllReadyH.nil
    refine step_copy_BD (some 18) rfl rfl (.tmp 15) (.tmp 17) 22 22 rfl 5 Try.underlying22 (by kernel_rfl) b f (64 - f) (64 - f) g o m cap rfl rfl m kr (by simp only [Nat.min_def]; split <;> omega) hsr1 (row_there (w := wc.drew) HR.out (by omega)) ?_
    have RD0 := row_setCells (k := kr) (w := wc.drew) HR.out (show f + m ≤ 64 by omega)
    have RD := hide (row_cong RD0 (k := u8V (bF P)) (fun j hj => by unfold u8V; rw [hPb j hj]))
    have BD := hide (show Below W1.heap.size W1 (wc.drew.setCells b f (bL m kr)) from below_setCells' HB.out.drew (by omega))
    have e0 : (wc.drew.setCells b f (bL m kr)).heap[w.heap.size]? = wc.heap[w.heap.size]? := setCells_far b _ f wc.drew w.heap.size (by omega)
    have e1 := e0.trans (SAh.out.1 wc HB.out).2
    have zd : (wc.drew.setCells b f (bL m kr)).heap.size = wc.heap.size := size_setCells _ _ _ _
    simp only [Act.put, List.setIfInBounds_toArray, List.set_cons_zero, List.set_cons_succ]
    refine hK.out _ _ ⟨by simp [World.cell?, e1], by simp [World.cell?, e1], by simp [World.cell?, e1]⟩ (fun hHeld => ?_)
    clear hK KK
    refine wpAnyH_done (by kernel_rfl) ?_ _
    clear RD0 e0 e1 hsr1 SB0 hHeld
    generalize wc.drew.setCells b f (bL m kr) = wd at *
    go_wp2_with fail
    have hbd : b < wd.heap.size := by omega
    have hwd := BD.out.size
    have SA3 := hide (show ∀ u : World, Below wd.heap.size wd u → (fun u => u.rangeAt b 0 (bL 64 (bF P)) ∧ u.cell? ⟨wb, 2, none⟩ = some (.slice wa k wcp) ∧ u.cell? ⟨w.heap.size, 0, none⟩ = some (.int .i64 (s : Int))) u from fun u hu => by
      have h1 := hu.mono hwd
      obtain ⟨k1, k2⟩ := SAh.out.1 u (BD.out.trans h1)
      exact ⟨row_range0 (RD.out.of_block (hu.block b hbd)), by simp [World.cell?, k1], by simp [World.cell?, k2]⟩)
    refine wp_region_till (S := fun u => u.rangeAt b 0 (bL 64 (bF P)) ∧ u.cell? ⟨wb, 2, none⟩ = some (.slice wa k wcp) ∧ u.cell? ⟨w.heap.size, 0, none⟩ = some (.int .i64 (s : Int))) 14 (by kernel_rfl) (SA3.out _ (Below.refl _ _).drew) (fun hHeld => ?_)
    refine takeT (i := 0) [12, 13, 14] (v := .pointer (some ⟨wb, 0, none⟩)) (some 19) rfl rfl (by kernel_rfl) (by kernel_rfl) (by kernel_rfl) (by kernel_rfl) (fun _ _ _ h => h) (Or.inl ⟨by rfl, fun w hSw => by go_simp⟩) hHeld ?_
    simp only [Act.put, List.setIfInBounds_toArray, List.set_cons_zero, List.set_cons_succ]
    refine takeT (i := 1) [2, 3, 4, 11, 12, 13, 14] (v := .pointer (some ⟨wb, 0, none⟩)) (some 20) rfl rfl (by kernel_rfl) (by kernel_rfl) (by kernel_rfl) (by kernel_rfl) (fun _ _ _ h => h) (Or.inl ⟨by rfl, fun w hSw => by go_simp⟩) hHeld ?_
    simp only [Act.put, List.setIfInBounds_toArray, List.set_cons_zero, List.set_cons_succ]
    refine takeT (i := 2) [3, 4, 11, 12, 13, 14] (v := .pointer (some ⟨wb, 0, none⟩)) (some 21) rfl rfl (by kernel_rfl) (by kernel_rfl) (by kernel_rfl) (by kernel_rfl) (fun _ _ _ h => h) (Or.inl ⟨by rfl, fun w hSw => by go_simp⟩) hHeld ?_
    simp only [Act.put, List.setIfInBounds_toArray, List.set_cons_zero, List.set_cons_succ]
    refine takeT (i := 3) [4, 11, 12, 13, 14] (v := .pointer (some ⟨wb, 2, none⟩)) (some 22) rfl rfl (by kernel_rfl) (by kernel_rfl) (by kernel_rfl) (by kernel_rfl) (fun _ _ _ h => h) (Or.inl ⟨by rfl, fun w hSw => by go_simp⟩) hHeld ?_
    simp only [Act.put, List.setIfInBounds_toArray, List.set_cons_zero, List.set_cons_succ]
    refine takeT (i := 4) [11, 12, 13, 14] (v := .slice wa k wcp) (some 23) rfl rfl (by kernel_rfl) (by kernel_rfl) (by kernel_rfl) (by kernel_rfl) (fun _ _ _ h => h) (Or.inl ⟨by rfl, fun w hSw => by obtain ⟨s0, s1_, s2_⟩ := hSw; go_simp⟩) hHeld ?_
    simp only [Act.put, List.setIfInBounds_toArray, List.set_cons_zero, List.set_cons_succ]
    refine takeT (i := 5) [6, 9, 10, 11, 12, 13, 14] (v := .pointer (some ⟨w.heap.size, 0, none⟩)) (some 24) rfl rfl (by kernel_rfl) (by kernel_rfl) (by kernel_rfl) (by kernel_rfl) (fun _ _ _ h => h) (Or.inl ⟨by rfl, fun w hSw => by go_simp⟩) hHeld ?_
    simp only [Act.put, List.setIfInBounds_toArray, List.set_cons_zero, List.set_cons_succ]
    refine takeT (i := 6) [9, 10, 11, 12, 13, 14] (v := .int .i64 (s : Int)) (some 25) rfl rfl (by kernel_rfl) (by kernel_rfl) (by kernel_rfl) (by kernel_rfl) (fun _ _ _ h => h) (Or.inl ⟨by rfl, fun w hSw => by obtain ⟨s0, s1_, s2_⟩ := hSw; go_simp⟩) hHeld ?_
    simp only [Act.put, List.setIfInBounds_toArray, List.set_cons_zero, List.set_cons_succ]
    refine takeT (i := 7) [8, 9, 10, 11, 12, 13, 14] (v := secV P) (some 26) rfl rfl (by kernel_rfl) (by kernel_rfl) (by kernel_rfl) (by kernel_rfl) (fun _ _ _ h => h) (yieldsB (by rfl) 97 (.tmp 4) rfl b 0 64 rfl (bF P) _ (fun w hS => hS.1) Try.underlying97 rfl Try.size63) hHeld ?_
    simp only [Act.put, List.setIfInBounds_toArray, List.set_cons_zero, List.set_cons_succ]
    refine oneT (i := 8) (by kernel_rfl) rfl (fun KK hK => ?_)
    go_simp
    refine (imp_secText P _).mono ?_
    rintro e w5 ⟨rfl, hb5⟩
    have b5 : Below wd.heap.size wd w5 := (Below.refl _ _).drew.trans hb5
    have hW5 := b5.size
    rw [secS_self hP]
    go_wp2_with fail
    refine hK.out _ _ (SA3.out _ b5) (fun hHeld => ?_)
    clear hK KK hb5
    refine takeT (i := 9) [10, 11, 12, 13, 14] (v := .agg #[.int .i64 (s : Int), .string P]) (some 28) rfl rfl (by kernel_rfl) (by kernel_rfl) (by kernel_rfl) (by kernel_rfl) (fun _ _ _ h => h) (Or.inl ⟨by rfl, fun w hSw => by go_simp⟩) hHeld ?_
    simp only [Act.put, List.setIfInBounds_toArray, List.set_cons_zero, List.set_cons_succ]
    refine oneT (i := 10) (by kernel_rfl) rfl (fun KK hK => ?_)
    go_simp
    have b6 : Below wd.heap.size wd (w5.alloc (.cells #[.int .i64 (s : Int), .string P] 74)) := b5.alloc b5.size _
    have nw : ∀ j u, [Value.int .i64 (s : Int), Value.string P][j]? = some u → (w5.alloc (.cells #[.int .i64 (s : Int), .string P] 74)).cell? ((⟨w5.heap.size, 0, none⟩ : Addr).add j) = some u := World.news_of_block (heap_alloc_new w5 _)
    generalize hg6 : w5.alloc (.cells #[.int .i64 (s : Int), .string P] 74) = W6 at *
    have hW6 := b6.size
    refine hK.out _ _ (SA3.out _ b6) (fun hHeld => ?_)
    clear hK KK
    refine oneT (i := 11) (by kernel_rfl) rfl (fun KK hK => ?_)
    have o6 := own_of_block hown (fun x hx => (b6.block x (by have := (hown.lt x hx).2; omega)).trans ((BD.out.block x (by have := (hown.lt x hx).2; omega)).trans (Q0.out.block x (hown.lt x hx).2)))
    refine step_append_any W6 (some 30) rfl rfl (.tmp 23) (.tmp 29) 24 rfl base 74 iw (.agg #[.int .i64 0, .string ⟨#[]⟩]) 2 24 Try.underlying24 hiw hzw0 hzw1 hzw2 rfl (by decide) (.slice wa k wcp) k _ rfl o6 (some ⟨w5.heap.size, 0, none⟩) 1 1 [.int .i64 (s : Int), .string P] rfl rfl (.inr ⟨_, rfl, nw⟩) (by intro u hu; simp at hu; rcases hu with rfl | rfl <;> rfl) (by unfold maxLen; omega) (by omega) (by omega) ?_
    intro v9 w9 o9 g9 t9
    obtain ⟨a9, c9, ea⟩ := own_slice o9
    subst ea
    have nb : ∀ x, x < base → some x ≠ (Value.slice wa k wcp).ownBlock := fun x h1 h2 => by have := (hown.lt x h2.symm).1; omega
    have q : ∀ x, x < w.heap.size → some x ≠ (Value.slice wa k wcp).ownBlock → w9.heap[x]? = w.heap[x]? := fun x h1 h2 => (g9.block x (by omega) h2).trans ((b6.block x (by omega)).trans ((BD.out.block x (by omega)).trans (Q0.out.block x (by omega))))
    have qp : w9.heap[w.heap.size]? = wd.heap[w.heap.size]? := (g9.block w.heap.size (by omega) (fun e => by have := (hown.lt _ e.symm).2; omega)).trans (b6.block w.heap.size (by omega))
    have r0 : w9.heap[wb]? = some (.cells #[.slice sa nS sk, .map (some mb), .slice wa k wcp] 65) := (q wb hwbl (nb wb hwb2)).trans HWB2.out
    have hs9 : W6.heap.size ≤ w9.heap.size := g9.size
    have rp := qp.trans ((BD.out.block w.heap.size (by omega)).trans QB.out)
    have d0 : w9.cell? ⟨wb, 2, none⟩ = some (.slice wa k wcp) := by simp [World.cell?, r0]
    have f0 : w9.frozen? ⟨wb, 2, none⟩ = false := by simp [World.frozen?, r0]
    have S9 : (fun u => u.rangeAt b 0 (bL 64 (bF P)) ∧ u.cell? ⟨wb, 2, none⟩ = some (.slice wa k wcp) ∧ u.cell? ⟨w.heap.size, 0, none⟩ = some (.int .i64 (s : Int))) w9 := ⟨row_range0 (RD.out.of_block ((g9.block b (by omega) (fun e => by have := (hown.lt b e.symm).2; omega)).trans (b6.block b (by omega)))), d0, by simp [World.cell?, rp]⟩
    have NE : ∀ x, (Value.slice a9 (k + 1) c9).ownBlock = some x → x ≠ wb := fun x e => by have := (o9.lt x e).1; omega
    simp only [Act.put, List.setIfInBounds_toArray, List.set_cons_zero, List.set_cons_succ]
    refine hK.out _ _ S9 (fun hHeld => ?_)
    clear hK KK
    refine takeT (i := 12) [13, 14] (v := .pointer (some ⟨wb, 0, none⟩)) (some 31) rfl rfl (by kernel_rfl) (by kernel_rfl) (by kernel_rfl) (by kernel_rfl) (fun _ _ _ h => h) (Or.inl ⟨by rfl, fun w hSw => by go_simp⟩) hHeld ?_
    simp only [Act.put, List.setIfInBounds_toArray, List.set_cons_zero, List.set_cons_succ]
    refine takeT (i := 13) [14] (v := .pointer (some ⟨wb, 2, none⟩)) (some 32) rfl rfl (by kernel_rfl) (by kernel_rfl) (by kernel_rfl) (by kernel_rfl) (fun _ _ _ h => h) (Or.inl ⟨by rfl, fun w hSw => by go_simp⟩) hHeld ?_
    simp only [Act.put, List.setIfInBounds_toArray, List.set_cons_zero, List.set_cons_succ]
    refine lastT (by kernel_rfl) rfl (fun KK hK => ?_)
    go_simp
    have R1 := hide (show (w9.setCell ⟨wb, 2, none⟩ (.slice a9 (k + 1) c9)).ownsRow base 74 2 (.slice a9 (k + 1) c9) (k + 1) (ws ++ [.int .i64 (s : Int), .string P]) from own_of_block o9 (fun x hx => set1_o _ _ _ _ _ (NE x hx)))
    have R2 := hide (show (w9.setCell ⟨wb, 2, none⟩ (.slice a9 (k + 1) c9)).heap[wb]? = some (.cells #[.slice sa nS sk, .map (some mb), .slice a9 (k + 1) c9] 65) from by simp [World.setCell, Array.getElem?_modify, r0])
    have R3 := hide (show Fr1 w (w9.setCell ⟨wb, 2, none⟩ (.slice a9 (k + 1) c9)) wb (.slice wa k wcp) from ⟨g9.os.trans (b6.os.trans (BD.out.os.trans Q0.out.os)), g9.tape.trans (b6.tape.trans (BD.out.tape.trans Q0.out.tape)), g9.output.trans (b6.output.trans (BD.out.output.trans Q0.out.output)), by simp [World.setCell]; omega, fun x h1 h2 h3 => (set1_o _ _ _ _ _ h2).trans (q x h1 h3)⟩)
    clear r0 rp qp o9 g9 t9 nb q o6 nw NE S9
    refine hK.out _ _ ?_
    clear hK KK
    refine wpAnyT_done (by kernel_rfl) ?_ _
    go_wp2_with fail
    exact bodyPost_end (v := .tuple #[]) (by simp [results, Try.results39]) rfl ⟨rfl, _, _, R1.out, R2.out, R3.out⟩
end Go.Proofs.Ytipeelkmmjgehaa

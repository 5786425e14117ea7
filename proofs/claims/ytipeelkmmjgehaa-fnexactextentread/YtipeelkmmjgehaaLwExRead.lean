/- The walk over the law FnExactExtentRead (written by mklwe.py). -/
import Derived.Test.YtipeelkmmjgehaaLwDisk3
import Derived.Test.YtipeelkmmjgehaaDskV
import Derived.Test.YtipeelkmmjgehaaHeldOne
import Derived.Test.YtipeelkmmjgehaaShape2
import Derived.Test.YtipeelkmmjgehaaDoutNil
import Derived.Test.YtipeelkmmjgehaaLwExt
import Derived.Deep.DeepCutAuto
namespace Go.Proofs.Ytipeelkmmjgehaa
open Go Go.RowKit
set_option maxRecDepth 100000 in
set_option maxHeartbeats 6400000 in
theorem fnExactExtentRead_core (v : Value) (nS : Nat) (S : Nat → ByteArray) (nC : Nat) (A : Nat → Int) (X : Nat → ByteArray) (a m : Int) (rt : ByteArray) (rc : Int) (w : World)
    (hS : nS ≤ 9223372036854775807) (hC : nC ≤ 9223372036854775807) (hSz : ∀ j, j < nS → (S j).size ≤ 9223372036854775807) (hXz : ∀ j, j < nC → (X j).size ≤ 9223372036854775807)
    (hspec : nS ≤ 1048576 → nC ≤ 1048576 → (∀ j, j < nS → (S j).size ≤ 1048576) → (∀ j, j < nC → (X j).size ≤ 1048576) → ∀ (u : World) (x : Value), dskI u u.heap.size x nS S nC A X → Calls Try.prog 12 #[x, .agg #[.int .i64 a, .int .i64 m]] u fun e w1 => e = .returned (doutV (.slice none 0 0) (.slice none 0 0) rt rc) ∧ Below u.heap.size u w1)
    (himp : nS ≤ 1048576 → nC ≤ 1048576 → (∀ j, j < nS → (S j).size ≤ 1048576) → (∀ j, j < nC → (X j).size ≤ 1048576) → ∀ (u : World) (x : Value), dskI u u.heap.size x nS S nC A X → Calls Try.prog 13 #[x, .agg #[.int .i64 a, .int .i64 m]] u fun e w1 => e = .returned (doutV (.slice none 0 0) (.slice none 0 0) rt rc) ∧ Below u.heap.size u w1)
    (h : dskI w w.heap.size v nS S nC A X) :
    Calls Try.prog 8 #[v, .agg #[.int .i64 a, .int .i64 m]] w fun e w' => e = .returned (.bool true) ∧ Below w.heap.size w w' := by
  obtain ⟨sv, cv, rfl, h1, h2⟩ := h
  obtain ⟨sa, sk, e1⟩ : ∃ a c, sv = .slice a nS c := by obtain ⟨a, c, e, _⟩ := h1; exact ⟨a, c, e⟩
  obtain ⟨ca, ck, e2⟩ : ∃ a c, cv = .slice a nC c := by obtain ⟨a, c, e, _⟩ := h2; exact ⟨a, c, e⟩
  subst e1 e2
  have HI := hide (show dskI w w.heap.size (.agg #[.slice sa nS sk, .slice ca nC ck]) nS S nC A X from ⟨_, _, rfl, h1, h2⟩)
  have HZ := hide (And.intro hSz hXz)
  have SP := hide hspec
  have IP := hide himp
  clear h1 h2 hSz hXz hspec himp
  have BB := hide (Below.refl w.heap.size w)
  have HQ := hide (box2 w (.cells #[.slice sa nS sk, .slice ca nC ck] 45) (.cells #[.int .i64 a, .int .i64 m] 39))
  go_enter Try.func8, Try.ntmps8
  go_wp2_with fail
  obtain ⟨q0, q1, q2, q3⟩ := HQ.out
  generalize ((w.alloc (.cells #[.slice sa nS sk, .slice ca nC ck] 45)).alloc (.cells #[.int .i64 a, .int .i64 m] 39)) = w1a at *
  replace BB := hide (BB.out.trans (q0.mono (by omega)))
  have LB_d := hide q2
  have LB_e := hide q3
  have hz_w1a : w.heap.size + 1 < w1a.heap.size := by omega
  clear q0 q1 q2 q3 HQ
  refine (law_szDisk _ nS S nC A X w1a hS hC HZ.out.1 HZ.out.2 1048576 (by omega) (by omega) ((HI.out.below BB.out).wide BB.out.size)).mono ?_
  rintro e w1 ⟨r, rfl, hr, hb⟩
  have hz_w1 := hb.size
  replace LB_d := hide ((hb.block (w.heap.size) (by omega)).trans LB_d.out)
  replace LB_e := hide ((hb.block (w.heap.size + 1) (by omega)).trans LB_e.out)
  replace BB := hide (BB.out.trans (hb.mono (by have := BB.out.size; omega)))
  clear hb
  rcases hr with rfl | ⟨hr0, hr1, hz1, hz2⟩
  · have ec_d0 : w1.cell? ⟨w.heap.size, 0, none⟩ = some (.slice sa nS sk) := by have h := LB_d.out; simp [World.cell?, h]
    have ec_d1 : w1.cell? ⟨w.heap.size, 1, none⟩ = some (.slice ca nC ck) := by have h := LB_d.out; simp [World.cell?, h]
    have ec_e0 : w1.cell? ⟨w.heap.size + 1, 0, none⟩ = some (.int .i64 a) := by have h := LB_e.out; simp [World.cell?, h]
    have ec_e1 : w1.cell? ⟨w.heap.size + 1, 1, none⟩ = some (.int .i64 m) := by have h := LB_e.out; simp [World.cell?, h]
    go_wp2_with fail
    go_ret
    exact ⟨rfl, BB.out⟩
  have hr0n : ¬ r < 0 := by omega
  replace hS : nS ≤ 1048576 := by omega
  replace hC : nC ≤ 1048576 := by omega
  replace SP := hide (SP.out hS hC hz1 hz2)
  replace IP := hide (IP.out hS hC hz1 hz2)
  clear hz1 hz2 hr0 hr1
  have ec_d0 : w1.cell? ⟨w.heap.size, 0, none⟩ = some (.slice sa nS sk) := by have h := LB_d.out; simp [World.cell?, h]
  have ec_d1 : w1.cell? ⟨w.heap.size, 1, none⟩ = some (.slice ca nC ck) := by have h := LB_d.out; simp [World.cell?, h]
  have ec_e0 : w1.cell? ⟨w.heap.size + 1, 0, none⟩ = some (.int .i64 a) := by have h := LB_e.out; simp [World.cell?, h]
  have ec_e1 : w1.cell? ⟨w.heap.size + 1, 1, none⟩ = some (.int .i64 m) := by have h := LB_e.out; simp [World.cell?, h]
  go_wp2_with fail
  have SA := hide (show ∀ u : World, Below w1.heap.size w1 u → u.cell? ⟨w.heap.size, 0, none⟩ = some (.slice sa nS sk) ∧ u.cell? ⟨w.heap.size, 1, none⟩ = some (.slice ca nC ck) ∧ u.cell? ⟨w.heap.size + 1, 0, none⟩ = some (.int .i64 a) ∧ u.cell? ⟨w.heap.size + 1, 1, none⟩ = some (.int .i64 m) from fun u hu => by
    have hx := (hu.block (w.heap.size) (by omega)).trans LB_d.out
    have hd := (hu.block (w.heap.size + 1) (by omega)).trans LB_e.out
    exact ⟨by simp [World.cell?, hx], by simp [World.cell?, hx], by simp [World.cell?, hd], by simp [World.cell?, hd]⟩)
  clear ec_d0 ec_d1 ec_e0 ec_e1
  go_cut [6] from 18 to 22 (fun x wx => ∃ b, x = .pointer (some ⟨b, 0, none⟩) ∧ w1.heap.size ≤ b ∧ b < wx.heap.size ∧ Hid (wx.heap[b]? = some (.cells #[.slice none 0 0, .slice none 0 0, .string rt, .int .i64 rc] 30)) ∧ Hid (Below w1.heap.size w1 wx))
  case first =>
    refine wp_region_held_drew (S := fun u => u.cell? ⟨w.heap.size, 0, none⟩ = some (.slice sa nS sk) ∧ u.cell? ⟨w.heap.size, 1, none⟩ = some (.slice ca nC ck) ∧ u.cell? ⟨w.heap.size + 1, 0, none⟩ = some (.int .i64 a) ∧ u.cell? ⟨w.heap.size + 1, 1, none⟩ = some (.int .i64 m)) (by kernel_rfl) (SA.out _ (Below.refl _ _).drew) (fun hHeld => ?_)
    refine takeD (i := 0) (v := .agg #[.slice sa nS sk, .slice ca nC ck]) (some 18) rfl rfl (by kernel_rfl) (by kernel_rfl) (by kernel_rfl) (fun _ _ _ h => h) (Or.inl ⟨by rfl, fun w hSw => by obtain ⟨s0, s1, s2, s3⟩ := hSw; go_simp⟩) hHeld ?_
    simp only [Act.put, List.setIfInBounds_toArray, List.set_cons_zero, List.set_cons_succ]
    refine takeD (i := 2) (v := .agg #[.int .i64 a, .int .i64 m]) (some 20) rfl rfl (by kernel_rfl) (by kernel_rfl) (by kernel_rfl) (fun _ _ _ h => h) (Or.inl ⟨by rfl, fun w hSw => by obtain ⟨s0, s1, s2, s3⟩ := hSw; go_simp⟩) hHeld ?_
    simp only [Act.put, List.setIfInBounds_toArray, List.set_cons_zero, List.set_cons_succ]
    have bs0 : Below w1.heap.size w1 w1.drew := (Below.refl _ _).drew
    refine wpAnyH_ready (rs := [1, 5]) (by kernel_rfl) (by simp) ?_
    refine AllReadyH.cons rfl (fun KK hK => ?_) (AllReadyH.cons rfl (fun KK hK => ?_) AllReadyH.nil)
    · skip
      go_simp
      refine (law_toDisk _ nS S nC A X w1.drew hS hC ((HI.out.below (BB.out.trans (bs0.mono BB.out.size))).wide (BB.out.trans (bs0.mono BB.out.size)).size)).mono ?_
      rintro e y1 ⟨o, rfl, hd, hb⟩
      obtain ⟨o3, o4, o5, o6, eo⟩ := hd.shape
      subst eo
      have DD7 := hide hd
      clear hd
      have bn2 := bs0.trans (hb.mono bs0.size)
      clear hb
      go_wp2_with fail
      refine hK.out _ _ (SA.out _ bn2) (fun hHeld => ?_)
      clear hK KK
      refine wpAnyH_ready (rs := [3, 5]) (by kernel_rfl) (by simp) ?_
      refine AllReadyH.cons rfl (fun KK hK => ?_) (AllReadyH.cons rfl (fun KK hK => ?_) AllReadyH.nil)
      · skip
        go_simp
        refine (law_toExtent a m y1).mono ?_
        rintro e y8 ⟨rfl, hb⟩
        have DD10 := hide (DD7.out.below hb)
        have bn9 := bn2.trans (hb.mono bn2.size)
        clear hb
        go_wp2_with fail
        refine hK.out _ _ (SA.out _ bn9) (fun hHeld => ?_)
        clear hK KK
        refine wpAnyH_ready (rs := [4, 5]) (by kernel_rfl) (by simp) ?_
        refine AllReadyH.cons rfl (fun KK hK => ?_) (AllReadyH.cons rfl (fun KK hK => ?_) AllReadyH.nil)
        · skip
          go_simp
          refine (SP.out y8 _ DD10.out.sli).mono ?_
          rintro e y11 ⟨rfl, hb⟩
          simp only [doutV]
          have bn12 := bn9.trans (hb.mono bn9.size)
          clear hb
          go_wp2_with fail
          refine hK.out _ _ (SA.out _ bn12) (fun hHeld => ?_)
          clear hK KK
          refine wpAnyH_ready (rs := [5]) (by kernel_rfl) (by simp) ?_
          refine AllReadyH.cons rfl (fun KK hK => ?_) AllReadyH.nil
          go_simp
          have hb0 := heap_alloc_new y11 (.cells #[.slice none 0 0, .slice none 0 0, .string ⟨#[]⟩, .int .i64 0] 30)
          have bl0 : Below y11.heap.size y11 (y11.alloc (.cells #[.slice none 0 0, .slice none 0 0, .string ⟨#[]⟩, .int .i64 0] 30)) := (Below.refl _ _).alloc (Nat.le_refl _) _
          obtain ⟨b15, hbe⟩ : ∃ b, b = y11.heap.size := ⟨_, rfl⟩
          have lb17 : y11.heap.size < (y11.alloc (.cells #[.slice none 0 0, .slice none 0 0, .string ⟨#[]⟩, .int .i64 0] 30)).heap.size := by simp
          have gb18 : w1.heap.size ≤ b15 := by rw [hbe]; exact bn12.size
          rw [← hbe] at hb0 lb17 ⊢
          have bn14 := bn12.trans (bl0.mono bn12.size)
          have hb16 := hide hb0
          clear hb0 bl0
          generalize y11.alloc (.cells #[.slice none 0 0, .slice none 0 0, .string ⟨#[]⟩, .int .i64 0] 30) = y13 at *
          refine hK.out _ _ (SA.out _ bn14) (fun hHeld => ?_)
          clear hK KK hbe
          refine wpAnyH_ready (rs := [6]) (by kernel_rfl) (by simp) ?_
          refine AllReadyH.cons rfl (fun KK hK => ?_) AllReadyH.nil
          have hb4 := hb16.out
          have cb0 : y13.cell? ⟨b15, 0, none⟩ = some (.slice none 0 0) := by simp [World.cell?, hb4]
          have fb0 : y13.frozen? ⟨b15, 0, none⟩ = false := by simp [World.frozen?, hb4]
          have cb1 : y13.cell? ⟨b15, 1, none⟩ = some (.slice none 0 0) := by simp [World.cell?, hb4]
          have fb1 : y13.frozen? ⟨b15, 1, none⟩ = false := by simp [World.frozen?, hb4]
          have cb2 : y13.cell? ⟨b15, 2, none⟩ = some (.string ⟨#[]⟩) := by simp [World.cell?, hb4]
          have fb2 : y13.frozen? ⟨b15, 2, none⟩ = false := by simp [World.frozen?, hb4]
          have cb3 : y13.cell? ⟨b15, 3, none⟩ = some (.int .i64 0) := by simp [World.cell?, hb4]
          have fb3 : y13.frozen? ⟨b15, 3, none⟩ = false := by simp [World.frozen?, hb4]
          have hb21 := hide (set4_blk y13 b15 _ _ _ _ (.slice none 0 0) (.slice none 0 0) (.string rt) (.int .i64 rc) _ hb4)
          have bn20 := below_set4 bn14 b15 gb18 (.slice none 0 0) (.slice none 0 0) (.string rt) (.int .i64 rc)
          have lb22 : b15 < ((((y13.setCell ⟨b15, 0, none⟩ (.slice none 0 0)).setCell ⟨b15, 1, none⟩ (.slice none 0 0)).setCell ⟨b15, 2, none⟩ (.string rt)).setCell ⟨b15, 3, none⟩ (.int .i64 rc)).heap.size := by simp only [World.setCell, Array.size_modify]; exact lb17
          clear hb4
          go_simp
          generalize ((((y13.setCell ⟨b15, 0, none⟩ (.slice none 0 0)).setCell ⟨b15, 1, none⟩ (.slice none 0 0)).setCell ⟨b15, 2, none⟩ (.string rt)).setCell ⟨b15, 3, none⟩ (.int .i64 rc)) = y19 at *
          refine hK.out _ _ (SA.out _ bn20) (fun hHeld => ?_)
          clear hK KK cb0 cb1 cb2 cb3 fb0 fb1 fb2 fb3
          refine wpAnyH_done (by kernel_rfl) ?_ _
          go_wp2_with fail
          go_meet
          case rel => exact ⟨b15, rfl, gb18, lb22, hb21, hide bn20⟩
        · skip
          go_simp
          have hb0 := heap_alloc_new y8 (.cells #[.slice none 0 0, .slice none 0 0, .string ⟨#[]⟩, .int .i64 0] 30)
          have bl0 : Below y8.heap.size y8 (y8.alloc (.cells #[.slice none 0 0, .slice none 0 0, .string ⟨#[]⟩, .int .i64 0] 30)) := (Below.refl _ _).alloc (Nat.le_refl _) _
          obtain ⟨b25, hbe⟩ : ∃ b, b = y8.heap.size := ⟨_, rfl⟩
          have lb27 : y8.heap.size < (y8.alloc (.cells #[.slice none 0 0, .slice none 0 0, .string ⟨#[]⟩, .int .i64 0] 30)).heap.size := by simp
          have gb28 : w1.heap.size ≤ b25 := by rw [hbe]; exact bn9.size
          rw [← hbe] at hb0 lb27 ⊢
          have DD29 := hide (DD10.out.below bl0)
          have bn24 := bn9.trans (bl0.mono bn9.size)
          have hb26 := hide hb0
          clear hb0 bl0
          generalize y8.alloc (.cells #[.slice none 0 0, .slice none 0 0, .string ⟨#[]⟩, .int .i64 0] 30) = y23 at *
          refine hK.out _ _ (SA.out _ bn24) (fun hHeld => ?_)
          clear hK KK hbe
          refine wpAnyH_ready (rs := [4]) (by kernel_rfl) (by simp) ?_
          refine AllReadyH.cons rfl (fun KK hK => ?_) AllReadyH.nil
          go_simp
          refine (SP.out y23 _ DD29.out.sli).mono ?_
          rintro e y30 ⟨rfl, hb⟩
          simp only [doutV]
          have bn31 := bn24.trans (hb.mono bn24.size)
          have hb32 := hide ((hb.block b25 lb27).trans hb26.out)
          have lb33 : b25 < y30.heap.size := Nat.lt_of_lt_of_le lb27 hb.size
          clear hb
          go_wp2_with fail
          refine hK.out _ _ (SA.out _ bn31) (fun hHeld => ?_)
          clear hK KK
          refine wpAnyH_ready (rs := [6]) (by kernel_rfl) (by simp) ?_
          refine AllReadyH.cons rfl (fun KK hK => ?_) AllReadyH.nil
          have hb4 := hb32.out
          have cb0 : y30.cell? ⟨b25, 0, none⟩ = some (.slice none 0 0) := by simp [World.cell?, hb4]
          have fb0 : y30.frozen? ⟨b25, 0, none⟩ = false := by simp [World.frozen?, hb4]
          have cb1 : y30.cell? ⟨b25, 1, none⟩ = some (.slice none 0 0) := by simp [World.cell?, hb4]
          have fb1 : y30.frozen? ⟨b25, 1, none⟩ = false := by simp [World.frozen?, hb4]
          have cb2 : y30.cell? ⟨b25, 2, none⟩ = some (.string ⟨#[]⟩) := by simp [World.cell?, hb4]
          have fb2 : y30.frozen? ⟨b25, 2, none⟩ = false := by simp [World.frozen?, hb4]
          have cb3 : y30.cell? ⟨b25, 3, none⟩ = some (.int .i64 0) := by simp [World.cell?, hb4]
          have fb3 : y30.frozen? ⟨b25, 3, none⟩ = false := by simp [World.frozen?, hb4]
          have hb37 := hide (set4_blk y30 b25 _ _ _ _ (.slice none 0 0) (.slice none 0 0) (.string rt) (.int .i64 rc) _ hb4)
          have bn36 := below_set4 bn31 b25 gb28 (.slice none 0 0) (.slice none 0 0) (.string rt) (.int .i64 rc)
          have lb38 : b25 < ((((y30.setCell ⟨b25, 0, none⟩ (.slice none 0 0)).setCell ⟨b25, 1, none⟩ (.slice none 0 0)).setCell ⟨b25, 2, none⟩ (.string rt)).setCell ⟨b25, 3, none⟩ (.int .i64 rc)).heap.size := by simp only [World.setCell, Array.size_modify]; exact lb33
          clear hb4
          go_simp
          generalize ((((y30.setCell ⟨b25, 0, none⟩ (.slice none 0 0)).setCell ⟨b25, 1, none⟩ (.slice none 0 0)).setCell ⟨b25, 2, none⟩ (.string rt)).setCell ⟨b25, 3, none⟩ (.int .i64 rc)) = y35 at *
          refine hK.out _ _ (SA.out _ bn36) (fun hHeld => ?_)
          clear hK KK cb0 cb1 cb2 cb3 fb0 fb1 fb2 fb3
          refine wpAnyH_done (by kernel_rfl) ?_ _
          go_wp2_with fail
          go_meet
          case rel => exact ⟨b25, rfl, gb28, lb38, hb37, hide bn36⟩
      · skip
        go_simp
        have hb0 := heap_alloc_new y1 (.cells #[.slice none 0 0, .slice none 0 0, .string ⟨#[]⟩, .int .i64 0] 30)
        have bl0 : Below y1.heap.size y1 (y1.alloc (.cells #[.slice none 0 0, .slice none 0 0, .string ⟨#[]⟩, .int .i64 0] 30)) := (Below.refl _ _).alloc (Nat.le_refl _) _
        obtain ⟨b41, hbe⟩ : ∃ b, b = y1.heap.size := ⟨_, rfl⟩
        have lb43 : y1.heap.size < (y1.alloc (.cells #[.slice none 0 0, .slice none 0 0, .string ⟨#[]⟩, .int .i64 0] 30)).heap.size := by simp
        have gb44 : w1.heap.size ≤ b41 := by rw [hbe]; exact bn2.size
        rw [← hbe] at hb0 lb43 ⊢
        have DD45 := hide (DD7.out.below bl0)
        have bn40 := bn2.trans (bl0.mono bn2.size)
        have hb42 := hide hb0
        clear hb0 bl0
        generalize y1.alloc (.cells #[.slice none 0 0, .slice none 0 0, .string ⟨#[]⟩, .int .i64 0] 30) = y39 at *
        refine hK.out _ _ (SA.out _ bn40) (fun hHeld => ?_)
        clear hK KK hbe
        refine wpAnyH_ready (rs := [3]) (by kernel_rfl) (by simp) ?_
        refine AllReadyH.cons rfl (fun KK hK => ?_) AllReadyH.nil
        go_simp
        refine (law_toExtent a m y39).mono ?_
        rintro e y46 ⟨rfl, hb⟩
        have DD48 := hide (DD45.out.below hb)
        have bn47 := bn40.trans (hb.mono bn40.size)
        have hb49 := hide ((hb.block b41 lb43).trans hb42.out)
        have lb50 : b41 < y46.heap.size := Nat.lt_of_lt_of_le lb43 hb.size
        clear hb
        go_wp2_with fail
        refine hK.out _ _ (SA.out _ bn47) (fun hHeld => ?_)
        clear hK KK
        refine wpAnyH_ready (rs := [4]) (by kernel_rfl) (by simp) ?_
        refine AllReadyH.cons rfl (fun KK hK => ?_) AllReadyH.nil
        go_simp
        refine (SP.out y46 _ DD48.out.sli).mono ?_
        rintro e y52 ⟨rfl, hb⟩
        simp only [doutV]
        have bn53 := bn47.trans (hb.mono bn47.size)
        have hb54 := hide ((hb.block b41 lb50).trans hb49.out)
        have lb55 : b41 < y52.heap.size := Nat.lt_of_lt_of_le lb50 hb.size
        clear hb
        go_wp2_with fail
        refine hK.out _ _ (SA.out _ bn53) (fun hHeld => ?_)
        clear hK KK
        refine wpAnyH_ready (rs := [6]) (by kernel_rfl) (by simp) ?_
        refine AllReadyH.cons rfl (fun KK hK => ?_) AllReadyH.nil
        have hb4 := hb54.out
        have cb0 : y52.cell? ⟨b41, 0, none⟩ = some (.slice none 0 0) := by simp [World.cell?, hb4]
        have fb0 : y52.frozen? ⟨b41, 0, none⟩ = false := by simp [World.frozen?, hb4]
        have cb1 : y52.cell? ⟨b41, 1, none⟩ = some (.slice none 0 0) := by simp [World.cell?, hb4]
        have fb1 : y52.frozen? ⟨b41, 1, none⟩ = false := by simp [World.frozen?, hb4]
        have cb2 : y52.cell? ⟨b41, 2, none⟩ = some (.string ⟨#[]⟩) := by simp [World.cell?, hb4]
        have fb2 : y52.frozen? ⟨b41, 2, none⟩ = false := by simp [World.frozen?, hb4]
        have cb3 : y52.cell? ⟨b41, 3, none⟩ = some (.int .i64 0) := by simp [World.cell?, hb4]
        have fb3 : y52.frozen? ⟨b41, 3, none⟩ = false := by simp [World.frozen?, hb4]
        have hb59 := hide (set4_blk y52 b41 _ _ _ _ (.slice none 0 0) (.slice none 0 0) (.string rt) (.int .i64 rc) _ hb4)
        have bn58 := below_set4 bn53 b41 gb44 (.slice none 0 0) (.slice none 0 0) (.string rt) (.int .i64 rc)
        have lb60 : b41 < ((((y52.setCell ⟨b41, 0, none⟩ (.slice none 0 0)).setCell ⟨b41, 1, none⟩ (.slice none 0 0)).setCell ⟨b41, 2, none⟩ (.string rt)).setCell ⟨b41, 3, none⟩ (.int .i64 rc)).heap.size := by simp only [World.setCell, Array.size_modify]; exact lb55
        clear hb4
        go_simp
        generalize ((((y52.setCell ⟨b41, 0, none⟩ (.slice none 0 0)).setCell ⟨b41, 1, none⟩ (.slice none 0 0)).setCell ⟨b41, 2, none⟩ (.string rt)).setCell ⟨b41, 3, none⟩ (.int .i64 rc)) = y57 at *
        refine hK.out _ _ (SA.out _ bn58) (fun hHeld => ?_)
        clear hK KK cb0 cb1 cb2 cb3 fb0 fb1 fb2 fb3
        refine wpAnyH_done (by kernel_rfl) ?_ _
        go_wp2_with fail
        go_meet
        case rel => exact ⟨b41, rfl, gb44, lb60, hb59, hide bn58⟩
    · skip
      go_simp
      have hb0 := heap_alloc_new w1 (.cells #[.slice none 0 0, .slice none 0 0, .string ⟨#[]⟩, .int .i64 0] 30)
      have bl0 : Below w1.heap.size w1 (w1.alloc (.cells #[.slice none 0 0, .slice none 0 0, .string ⟨#[]⟩, .int .i64 0] 30)) := (Below.refl _ _).alloc (Nat.le_refl _) _
      obtain ⟨b63, hbe⟩ : ∃ b, b = w1.heap.size := ⟨_, rfl⟩
      have lb65 : w1.heap.size < (w1.alloc (.cells #[.slice none 0 0, .slice none 0 0, .string ⟨#[]⟩, .int .i64 0] 30)).heap.size := by simp
      have gb66 : w1.heap.size ≤ b63 := by rw [hbe]; exact Nat.le_refl _
      rw [← hbe] at hb0 lb65 ⊢
      have bl1 : Below w1.heap.size w1 (w1.alloc (.cells #[.slice none 0 0, .slice none 0 0, .string ⟨#[]⟩, .int .i64 0] 30)).drew := bl0.drew
      have hb1 : (w1.alloc (.cells #[.slice none 0 0, .slice none 0 0, .string ⟨#[]⟩, .int .i64 0] 30)).drew.heap[b63]? = some (.cells #[.slice none 0 0, .slice none 0 0, .string ⟨#[]⟩, .int .i64 0] 30) := hb0
      have lb65d : b63 < (w1.alloc (.cells #[.slice none 0 0, .slice none 0 0, .string ⟨#[]⟩, .int .i64 0] 30)).drew.heap.size := lb65
      generalize (w1.alloc (.cells #[.slice none 0 0, .slice none 0 0, .string ⟨#[]⟩, .int .i64 0] 30)).drew = y61 at *
      have hb64 := hide hb1
      have bn62 := bl1
      clear hb0 bl0 hb1 bl1 lb65
      refine hK.out _ _ (SA.out _ bn62) (fun hHeld => ?_)
      clear hK KK hbe
      refine wpAnyH_ready (rs := [1]) (by kernel_rfl) (by simp) ?_
      refine AllReadyH.cons rfl (fun KK hK => ?_) AllReadyH.nil
      go_simp
      refine (law_toDisk _ nS S nC A X y61 hS hC ((HI.out.below (BB.out.trans (bn62.mono BB.out.size))).wide (BB.out.trans (bn62.mono BB.out.size)).size)).mono ?_
      rintro e y67 ⟨o, rfl, hd, hb⟩
      obtain ⟨o69, o70, o71, o72, eo⟩ := hd.shape
      subst eo
      have DD73 := hide hd
      clear hd
      have bn68 := bn62.trans (hb.mono bn62.size)
      have hb74 := hide ((hb.block b63 lb65d).trans hb64.out)
      have lb75 : b63 < y67.heap.size := Nat.lt_of_lt_of_le lb65d hb.size
      clear hb
      go_wp2_with fail
      refine hK.out _ _ (SA.out _ bn68) (fun hHeld => ?_)
      clear hK KK
      refine wpAnyH_ready (rs := [3]) (by kernel_rfl) (by simp) ?_
      refine AllReadyH.cons rfl (fun KK hK => ?_) AllReadyH.nil
      go_simp
      refine (law_toExtent a m y67).mono ?_
      rintro e y77 ⟨rfl, hb⟩
      have DD79 := hide (DD73.out.below hb)
      have bn78 := bn68.trans (hb.mono bn68.size)
      have hb80 := hide ((hb.block b63 lb75).trans hb74.out)
      have lb81 : b63 < y77.heap.size := Nat.lt_of_lt_of_le lb75 hb.size
      clear hb
      go_wp2_with fail
      refine hK.out _ _ (SA.out _ bn78) (fun hHeld => ?_)
      clear hK KK
      refine wpAnyH_ready (rs := [4]) (by kernel_rfl) (by simp) ?_
      refine AllReadyH.cons rfl (fun KK hK => ?_) AllReadyH.nil
      go_simp
      refine (SP.out y77 _ DD79.out.sli).mono ?_
      rintro e y83 ⟨rfl, hb⟩
      simp only [doutV]
      have bn84 := bn78.trans (hb.mono bn78.size)
      have hb85 := hide ((hb.block b63 lb81).trans hb80.out)
      have lb86 : b63 < y83.heap.size := Nat.lt_of_lt_of_le lb81 hb.size
      clear hb
      go_wp2_with fail
      refine hK.out _ _ (SA.out _ bn84) (fun hHeld => ?_)
      clear hK KK
      refine wpAnyH_ready (rs := [6]) (by kernel_rfl) (by simp) ?_
      refine AllReadyH.cons rfl (fun KK hK => ?_) AllReadyH.nil
      have hb4 := hb85.out
      have cb0 : y83.cell? ⟨b63, 0, none⟩ = some (.slice none 0 0) := by simp [World.cell?, hb4]
      have fb0 : y83.frozen? ⟨b63, 0, none⟩ = false := by simp [World.frozen?, hb4]
      have cb1 : y83.cell? ⟨b63, 1, none⟩ = some (.slice none 0 0) := by simp [World.cell?, hb4]
      have fb1 : y83.frozen? ⟨b63, 1, none⟩ = false := by simp [World.frozen?, hb4]
      have cb2 : y83.cell? ⟨b63, 2, none⟩ = some (.string ⟨#[]⟩) := by simp [World.cell?, hb4]
      have fb2 : y83.frozen? ⟨b63, 2, none⟩ = false := by simp [World.frozen?, hb4]
      have cb3 : y83.cell? ⟨b63, 3, none⟩ = some (.int .i64 0) := by simp [World.cell?, hb4]
      have fb3 : y83.frozen? ⟨b63, 3, none⟩ = false := by simp [World.frozen?, hb4]
      have hb90 := hide (set4_blk y83 b63 _ _ _ _ (.slice none 0 0) (.slice none 0 0) (.string rt) (.int .i64 rc) _ hb4)
      have bn89 := below_set4 bn84 b63 gb66 (.slice none 0 0) (.slice none 0 0) (.string rt) (.int .i64 rc)
      have lb91 : b63 < ((((y83.setCell ⟨b63, 0, none⟩ (.slice none 0 0)).setCell ⟨b63, 1, none⟩ (.slice none 0 0)).setCell ⟨b63, 2, none⟩ (.string rt)).setCell ⟨b63, 3, none⟩ (.int .i64 rc)).heap.size := by simp only [World.setCell, Array.size_modify]; exact lb86
      clear hb4
      go_simp
      generalize ((((y83.setCell ⟨b63, 0, none⟩ (.slice none 0 0)).setCell ⟨b63, 1, none⟩ (.slice none 0 0)).setCell ⟨b63, 2, none⟩ (.string rt)).setCell ⟨b63, 3, none⟩ (.int .i64 rc)) = y88 at *
      refine hK.out _ _ (SA.out _ bn89) (fun hHeld => ?_)
      clear hK KK cb0 cb1 cb2 cb3 fb0 fb1 fb2 fb3
      refine wpAnyH_done (by kernel_rfl) ?_ _
      go_wp2_with fail
      go_meet
      case rel => exact ⟨b63, rfl, gb66, lb91, hb90, hide bn89⟩
  case rest =>
    obtain ⟨B_wa, rfl, hbl, hbr, HX, HB⟩ := hcut
    obtain ⟨w2, hw⟩ : ∃ u, u = wc := ⟨_, rfl⟩
    subst hw
    have hb := HB.out
    have hz_w2 := hb.size
    replace LB_d := hide ((hb.block (w.heap.size) (by omega)).trans LB_d.out)
    replace LB_e := hide ((hb.block (w.heap.size + 1) (by omega)).trans LB_e.out)
    replace BB := hide (BB.out.trans (hb.mono (by have := BB.out.size; omega)))
    clear hb HB SA
    have LB_wa := HX
    clear HX
    have ec_d0 : w2.cell? ⟨w.heap.size, 0, none⟩ = some (.slice sa nS sk) := by have h := LB_d.out; simp [World.cell?, h]
    have ec_d1 : w2.cell? ⟨w.heap.size, 1, none⟩ = some (.slice ca nC ck) := by have h := LB_d.out; simp [World.cell?, h]
    have ec_e0 : w2.cell? ⟨w.heap.size + 1, 0, none⟩ = some (.int .i64 a) := by have h := LB_e.out; simp [World.cell?, h]
    have ec_e1 : w2.cell? ⟨w.heap.size + 1, 1, none⟩ = some (.int .i64 m) := by have h := LB_e.out; simp [World.cell?, h]
    have ec_wa0 : w2.cell? ⟨B_wa, 0, none⟩ = some (.slice none 0 0) := by have h := LB_wa.out; simp [World.cell?, h]
    have ec_wa1 : w2.cell? ⟨B_wa, 1, none⟩ = some (.slice none 0 0) := by have h := LB_wa.out; simp [World.cell?, h]
    have ec_wa2 : w2.cell? ⟨B_wa, 2, none⟩ = some (.string rt) := by have h := LB_wa.out; simp [World.cell?, h]
    have ec_wa3 : w2.cell? ⟨B_wa, 3, none⟩ = some (.int .i64 rc) := by have h := LB_wa.out; simp [World.cell?, h]
    go_wp2_with fail
    refine (law_toDisk _ nS S nC A X w2 hS hC ((HI.out.below BB.out).wide BB.out.size)).mono ?_
    rintro e w3 ⟨o, rfl, hd, hb⟩
    obtain ⟨xa, xb, xc, xd, eo⟩ := hd.shape
    subst eo
    clear ec_d0 ec_d1 ec_e0 ec_e1 ec_wa0 ec_wa1 ec_wa2 ec_wa3
    have hz_w3 := hb.size
    replace LB_d := hide ((hb.block (w.heap.size) (by omega)).trans LB_d.out)
    replace LB_e := hide ((hb.block (w.heap.size + 1) (by omega)).trans LB_e.out)
    replace LB_wa := hide ((hb.block (B_wa) (by omega)).trans LB_wa.out)
    replace BB := hide (BB.out.trans (hb.mono (by have := BB.out.size; omega)))
    clear hb
    have D_x := hide hd
    clear hd
    have al0 : Below w3.heap.size w3 (w3.alloc (.cells #[.slice xa nS xb, .slice xc nC xd] 26)) := (Below.refl _ _).alloc (Nat.le_refl _) _
    have al1 : (w3.alloc (.cells #[.slice xa nS xb, .slice xc nC xd] 26)).heap[w3.heap.size]? = some (.cells #[.slice xa nS xb, .slice xc nC xd] 26) := heap_alloc_new _ _
    have al2 : w3.heap.size < (w3.alloc (.cells #[.slice xa nS xb, .slice xc nC xd] 26)).heap.size := by simp
    have AL := hide (And.intro al0 al1)
    clear al0 al1
    have ed_d0 : (w3.alloc (.cells #[.slice xa nS xb, .slice xc nC xd] 26)).cell? ⟨w.heap.size, 0, none⟩ = some (.slice sa nS sk) := by have h := (AL.out.1.block (w.heap.size) (by omega)).trans LB_d.out; simp [World.cell?, h]
    have ed_d1 : (w3.alloc (.cells #[.slice xa nS xb, .slice xc nC xd] 26)).cell? ⟨w.heap.size, 1, none⟩ = some (.slice ca nC ck) := by have h := (AL.out.1.block (w.heap.size) (by omega)).trans LB_d.out; simp [World.cell?, h]
    have ed_e0 : (w3.alloc (.cells #[.slice xa nS xb, .slice xc nC xd] 26)).cell? ⟨w.heap.size + 1, 0, none⟩ = some (.int .i64 a) := by have h := (AL.out.1.block (w.heap.size + 1) (by omega)).trans LB_e.out; simp [World.cell?, h]
    have ed_e1 : (w3.alloc (.cells #[.slice xa nS xb, .slice xc nC xd] 26)).cell? ⟨w.heap.size + 1, 1, none⟩ = some (.int .i64 m) := by have h := (AL.out.1.block (w.heap.size + 1) (by omega)).trans LB_e.out; simp [World.cell?, h]
    have ed_wa0 : (w3.alloc (.cells #[.slice xa nS xb, .slice xc nC xd] 26)).cell? ⟨B_wa, 0, none⟩ = some (.slice none 0 0) := by have h := (AL.out.1.block (B_wa) (by omega)).trans LB_wa.out; simp [World.cell?, h]
    have ed_wa1 : (w3.alloc (.cells #[.slice xa nS xb, .slice xc nC xd] 26)).cell? ⟨B_wa, 1, none⟩ = some (.slice none 0 0) := by have h := (AL.out.1.block (B_wa) (by omega)).trans LB_wa.out; simp [World.cell?, h]
    have ed_wa2 : (w3.alloc (.cells #[.slice xa nS xb, .slice xc nC xd] 26)).cell? ⟨B_wa, 2, none⟩ = some (.string rt) := by have h := (AL.out.1.block (B_wa) (by omega)).trans LB_wa.out; simp [World.cell?, h]
    have ed_wa3 : (w3.alloc (.cells #[.slice xa nS xb, .slice xc nC xd] 26)).cell? ⟨B_wa, 3, none⟩ = some (.int .i64 rc) := by have h := (AL.out.1.block (B_wa) (by omega)).trans LB_wa.out; simp [World.cell?, h]
    go_wp2_with fail
    generalize (w3.alloc (.cells #[.slice xa nS xb, .slice xc nC xd] 26)) = w4a at *
    clear ed_d0 ed_d1 ed_e0 ed_e1 ed_wa0 ed_wa1 ed_wa2 ed_wa3
    obtain ⟨al0, al1⟩ := AL.out
    replace LB_d := hide ((al0.block (w.heap.size) (by omega)).trans LB_d.out)
    replace LB_e := hide ((al0.block (w.heap.size + 1) (by omega)).trans LB_e.out)
    replace LB_wa := hide ((al0.block (B_wa) (by omega)).trans LB_wa.out)
    replace D_x := hide (D_x.out.below al0)
    replace BB := hide (BB.out.trans (al0.mono (by have := BB.out.size; omega)))
    have LB_x := hide al1
    have hz_w4a := al2
    clear al0 al1 AL al2
    have ec_d0 : w4a.cell? ⟨w.heap.size, 0, none⟩ = some (.slice sa nS sk) := by have h := LB_d.out; simp [World.cell?, h]
    have ec_d1 : w4a.cell? ⟨w.heap.size, 1, none⟩ = some (.slice ca nC ck) := by have h := LB_d.out; simp [World.cell?, h]
    have ec_e0 : w4a.cell? ⟨w.heap.size + 1, 0, none⟩ = some (.int .i64 a) := by have h := LB_e.out; simp [World.cell?, h]
    have ec_e1 : w4a.cell? ⟨w.heap.size + 1, 1, none⟩ = some (.int .i64 m) := by have h := LB_e.out; simp [World.cell?, h]
    have ec_wa0 : w4a.cell? ⟨B_wa, 0, none⟩ = some (.slice none 0 0) := by have h := LB_wa.out; simp [World.cell?, h]
    have ec_wa1 : w4a.cell? ⟨B_wa, 1, none⟩ = some (.slice none 0 0) := by have h := LB_wa.out; simp [World.cell?, h]
    have ec_wa2 : w4a.cell? ⟨B_wa, 2, none⟩ = some (.string rt) := by have h := LB_wa.out; simp [World.cell?, h]
    have ec_wa3 : w4a.cell? ⟨B_wa, 3, none⟩ = some (.int .i64 rc) := by have h := LB_wa.out; simp [World.cell?, h]
    have ec_x0 : w4a.cell? ⟨w3.heap.size, 0, none⟩ = some (.slice xa nS xb) := by have h := LB_x.out; simp [World.cell?, h]
    have ec_x1 : w4a.cell? ⟨w3.heap.size, 1, none⟩ = some (.slice xc nC xd) := by have h := LB_x.out; simp [World.cell?, h]
    go_wp2_with fail
    have SA := hide (show ∀ u : World, Below w4a.heap.size w4a u → u.cell? ⟨w3.heap.size, 0, none⟩ = some (.slice xa nS xb) ∧ u.cell? ⟨w3.heap.size, 1, none⟩ = some (.slice xc nC xd) ∧ u.cell? ⟨w.heap.size + 1, 0, none⟩ = some (.int .i64 a) ∧ u.cell? ⟨w.heap.size + 1, 1, none⟩ = some (.int .i64 m) from fun u hu => by
      have hx := (hu.block (w3.heap.size) (by omega)).trans LB_x.out
      have hd := (hu.block (w.heap.size + 1) (by omega)).trans LB_e.out
      exact ⟨by simp [World.cell?, hx], by simp [World.cell?, hx], by simp [World.cell?, hd], by simp [World.cell?, hd]⟩)
    clear ec_d0 ec_d1 ec_e0 ec_e1 ec_wa0 ec_wa1 ec_wa2 ec_wa3 ec_x0 ec_x1
    go_cut [8] from 25 to 28 (fun x wx => ∃ b, x = .pointer (some ⟨b, 0, none⟩) ∧ w4a.heap.size ≤ b ∧ b < wx.heap.size ∧ Hid (wx.heap[b]? = some (.cells #[.slice none 0 0, .slice none 0 0, .string rt, .int .i64 rc] 30)) ∧ Hid (Below w4a.heap.size w4a wx))
    case first =>
      refine wp_region_held_drew (S := fun u => u.cell? ⟨w3.heap.size, 0, none⟩ = some (.slice xa nS xb) ∧ u.cell? ⟨w3.heap.size, 1, none⟩ = some (.slice xc nC xd) ∧ u.cell? ⟨w.heap.size + 1, 0, none⟩ = some (.int .i64 a) ∧ u.cell? ⟨w.heap.size + 1, 1, none⟩ = some (.int .i64 m)) (by kernel_rfl) (SA.out _ (Below.refl _ _).drew) (fun hHeld => ?_)
      refine takeD (i := 0) (v := .agg #[.slice xa nS xb, .slice xc nC xd]) (some 25) rfl rfl (by kernel_rfl) (by kernel_rfl) (by kernel_rfl) (fun _ _ _ h => h) (Or.inl ⟨by rfl, fun w hSw => by obtain ⟨s0, s1, s2, s3⟩ := hSw; go_simp⟩) hHeld ?_
      simp only [Act.put, List.setIfInBounds_toArray, List.set_cons_zero, List.set_cons_succ]
      refine takeD (i := 1) (v := .agg #[.int .i64 a, .int .i64 m]) (some 26) rfl rfl (by kernel_rfl) (by kernel_rfl) (by kernel_rfl) (fun _ _ _ h => h) (Or.inl ⟨by rfl, fun w hSw => by obtain ⟨s0, s1, s2, s3⟩ := hSw; go_simp⟩) hHeld ?_
      simp only [Act.put, List.setIfInBounds_toArray, List.set_cons_zero, List.set_cons_succ]
      have bs0 : Below w4a.heap.size w4a w4a.drew := (Below.refl _ _).drew
      have DS := hide (D_x.out.below bs0)
      refine wpAnyH_ready (rs := [2, 4]) (by kernel_rfl) (by simp) ?_
      refine AllReadyH.cons rfl (fun KK hK => ?_) (AllReadyH.cons rfl (fun KK hK => ?_) AllReadyH.nil)
      · skip
        go_simp
        refine (law_toExtent a m w4a.drew).mono ?_
        rintro e y92 ⟨rfl, hb⟩
        have DD94 := hide (DS.out.below hb)
        have bn93 := bs0.trans (hb.mono bs0.size)
        clear hb
        go_wp2_with fail
        refine hK.out _ _ (SA.out _ bn93) (fun hHeld => ?_)
        clear hK KK
        refine wpAnyH_ready (rs := [3, 4]) (by kernel_rfl) (by simp) ?_
        refine AllReadyH.cons rfl (fun KK hK => ?_) (AllReadyH.cons rfl (fun KK hK => ?_) AllReadyH.nil)
        · skip
          go_simp
          refine (IP.out y92 _ DD94.out.sli).mono ?_
          rintro e y95 ⟨rfl, hb⟩
          simp only [doutV]
          have bn96 := bn93.trans (hb.mono bn93.size)
          clear hb
          go_wp2_with fail
          refine hK.out _ _ (SA.out _ bn96) (fun hHeld => ?_)
          clear hK KK
          refine wpAnyH_ready (rs := [4]) (by kernel_rfl) (by simp) ?_
          refine AllReadyH.cons rfl (fun KK hK => ?_) AllReadyH.nil
          go_simp
          have hb0 := heap_alloc_new y95 (.cells #[.slice none 0 0, .slice none 0 0, .string ⟨#[]⟩, .int .i64 0] 30)
          have bl0 : Below y95.heap.size y95 (y95.alloc (.cells #[.slice none 0 0, .slice none 0 0, .string ⟨#[]⟩, .int .i64 0] 30)) := (Below.refl _ _).alloc (Nat.le_refl _) _
          obtain ⟨b99, hbe⟩ : ∃ b, b = y95.heap.size := ⟨_, rfl⟩
          have lb101 : y95.heap.size < (y95.alloc (.cells #[.slice none 0 0, .slice none 0 0, .string ⟨#[]⟩, .int .i64 0] 30)).heap.size := by simp
          have gb102 : w4a.heap.size ≤ b99 := by rw [hbe]; exact bn96.size
          rw [← hbe] at hb0 lb101 ⊢
          have bn98 := bn96.trans (bl0.mono bn96.size)
          have hb100 := hide hb0
          clear hb0 bl0
          generalize y95.alloc (.cells #[.slice none 0 0, .slice none 0 0, .string ⟨#[]⟩, .int .i64 0] 30) = y97 at *
          refine hK.out _ _ (SA.out _ bn98) (fun hHeld => ?_)
          clear hK KK hbe
          refine wpAnyH_ready (rs := [5]) (by kernel_rfl) (by simp) ?_
          refine AllReadyH.cons rfl (fun KK hK => ?_) AllReadyH.nil
          have hb4 := hb100.out
          have cb0 : y97.cell? ⟨b99, 0, none⟩ = some (.slice none 0 0) := by simp [World.cell?, hb4]
          have fb0 : y97.frozen? ⟨b99, 0, none⟩ = false := by simp [World.frozen?, hb4]
          have cb1 : y97.cell? ⟨b99, 1, none⟩ = some (.slice none 0 0) := by simp [World.cell?, hb4]
          have fb1 : y97.frozen? ⟨b99, 1, none⟩ = false := by simp [World.frozen?, hb4]
          have cb2 : y97.cell? ⟨b99, 2, none⟩ = some (.string ⟨#[]⟩) := by simp [World.cell?, hb4]
          have fb2 : y97.frozen? ⟨b99, 2, none⟩ = false := by simp [World.frozen?, hb4]
          have cb3 : y97.cell? ⟨b99, 3, none⟩ = some (.int .i64 0) := by simp [World.cell?, hb4]
          have fb3 : y97.frozen? ⟨b99, 3, none⟩ = false := by simp [World.frozen?, hb4]
          have hb105 := hide (set4_blk y97 b99 _ _ _ _ (.slice none 0 0) (.slice none 0 0) (.string rt) (.int .i64 rc) _ hb4)
          have bn104 := below_set4 bn98 b99 gb102 (.slice none 0 0) (.slice none 0 0) (.string rt) (.int .i64 rc)
          have lb106 : b99 < ((((y97.setCell ⟨b99, 0, none⟩ (.slice none 0 0)).setCell ⟨b99, 1, none⟩ (.slice none 0 0)).setCell ⟨b99, 2, none⟩ (.string rt)).setCell ⟨b99, 3, none⟩ (.int .i64 rc)).heap.size := by simp only [World.setCell, Array.size_modify]; exact lb101
          clear hb4
          go_simp
          generalize ((((y97.setCell ⟨b99, 0, none⟩ (.slice none 0 0)).setCell ⟨b99, 1, none⟩ (.slice none 0 0)).setCell ⟨b99, 2, none⟩ (.string rt)).setCell ⟨b99, 3, none⟩ (.int .i64 rc)) = y103 at *
          refine hK.out _ _ (SA.out _ bn104) (fun hHeld => ?_)
          clear hK KK cb0 cb1 cb2 cb3 fb0 fb1 fb2 fb3
          refine wpAnyH_done (by kernel_rfl) ?_ _
          go_wp2_with fail
          go_meet
          case rel => exact ⟨b99, rfl, gb102, lb106, hb105, hide bn104⟩
        · skip
          go_simp
          have hb0 := heap_alloc_new y92 (.cells #[.slice none 0 0, .slice none 0 0, .string ⟨#[]⟩, .int .i64 0] 30)
          have bl0 : Below y92.heap.size y92 (y92.alloc (.cells #[.slice none 0 0, .slice none 0 0, .string ⟨#[]⟩, .int .i64 0] 30)) := (Below.refl _ _).alloc (Nat.le_refl _) _
          obtain ⟨b109, hbe⟩ : ∃ b, b = y92.heap.size := ⟨_, rfl⟩
          have lb111 : y92.heap.size < (y92.alloc (.cells #[.slice none 0 0, .slice none 0 0, .string ⟨#[]⟩, .int .i64 0] 30)).heap.size := by simp
          have gb112 : w4a.heap.size ≤ b109 := by rw [hbe]; exact bn93.size
          rw [← hbe] at hb0 lb111 ⊢
          have DD113 := hide (DD94.out.below bl0)
          have bn108 := bn93.trans (bl0.mono bn93.size)
          have hb110 := hide hb0
          clear hb0 bl0
          generalize y92.alloc (.cells #[.slice none 0 0, .slice none 0 0, .string ⟨#[]⟩, .int .i64 0] 30) = y107 at *
          refine hK.out _ _ (SA.out _ bn108) (fun hHeld => ?_)
          clear hK KK hbe
          refine wpAnyH_ready (rs := [3]) (by kernel_rfl) (by simp) ?_
          refine AllReadyH.cons rfl (fun KK hK => ?_) AllReadyH.nil
          go_simp
          refine (IP.out y107 _ DD113.out.sli).mono ?_
          rintro e y114 ⟨rfl, hb⟩
          simp only [doutV]
          have bn115 := bn108.trans (hb.mono bn108.size)
          have hb116 := hide ((hb.block b109 lb111).trans hb110.out)
          have lb117 : b109 < y114.heap.size := Nat.lt_of_lt_of_le lb111 hb.size
          clear hb
          go_wp2_with fail
          refine hK.out _ _ (SA.out _ bn115) (fun hHeld => ?_)
          clear hK KK
          refine wpAnyH_ready (rs := [5]) (by kernel_rfl) (by simp) ?_
          refine AllReadyH.cons rfl (fun KK hK => ?_) AllReadyH.nil
          have hb4 := hb116.out
          have cb0 : y114.cell? ⟨b109, 0, none⟩ = some (.slice none 0 0) := by simp [World.cell?, hb4]
          have fb0 : y114.frozen? ⟨b109, 0, none⟩ = false := by simp [World.frozen?, hb4]
          have cb1 : y114.cell? ⟨b109, 1, none⟩ = some (.slice none 0 0) := by simp [World.cell?, hb4]
          have fb1 : y114.frozen? ⟨b109, 1, none⟩ = false := by simp [World.frozen?, hb4]
          have cb2 : y114.cell? ⟨b109, 2, none⟩ = some (.string ⟨#[]⟩) := by simp [World.cell?, hb4]
          have fb2 : y114.frozen? ⟨b109, 2, none⟩ = false := by simp [World.frozen?, hb4]
          have cb3 : y114.cell? ⟨b109, 3, none⟩ = some (.int .i64 0) := by simp [World.cell?, hb4]
          have fb3 : y114.frozen? ⟨b109, 3, none⟩ = false := by simp [World.frozen?, hb4]
          have hb121 := hide (set4_blk y114 b109 _ _ _ _ (.slice none 0 0) (.slice none 0 0) (.string rt) (.int .i64 rc) _ hb4)
          have bn120 := below_set4 bn115 b109 gb112 (.slice none 0 0) (.slice none 0 0) (.string rt) (.int .i64 rc)
          have lb122 : b109 < ((((y114.setCell ⟨b109, 0, none⟩ (.slice none 0 0)).setCell ⟨b109, 1, none⟩ (.slice none 0 0)).setCell ⟨b109, 2, none⟩ (.string rt)).setCell ⟨b109, 3, none⟩ (.int .i64 rc)).heap.size := by simp only [World.setCell, Array.size_modify]; exact lb117
          clear hb4
          go_simp
          generalize ((((y114.setCell ⟨b109, 0, none⟩ (.slice none 0 0)).setCell ⟨b109, 1, none⟩ (.slice none 0 0)).setCell ⟨b109, 2, none⟩ (.string rt)).setCell ⟨b109, 3, none⟩ (.int .i64 rc)) = y119 at *
          refine hK.out _ _ (SA.out _ bn120) (fun hHeld => ?_)
          clear hK KK cb0 cb1 cb2 cb3 fb0 fb1 fb2 fb3
          refine wpAnyH_done (by kernel_rfl) ?_ _
          go_wp2_with fail
          go_meet
          case rel => exact ⟨b109, rfl, gb112, lb122, hb121, hide bn120⟩
      · skip
        go_simp
        have hb0 := heap_alloc_new w4a (.cells #[.slice none 0 0, .slice none 0 0, .string ⟨#[]⟩, .int .i64 0] 30)
        have bl0 : Below w4a.heap.size w4a (w4a.alloc (.cells #[.slice none 0 0, .slice none 0 0, .string ⟨#[]⟩, .int .i64 0] 30)) := (Below.refl _ _).alloc (Nat.le_refl _) _
        obtain ⟨b125, hbe⟩ : ∃ b, b = w4a.heap.size := ⟨_, rfl⟩
        have lb127 : w4a.heap.size < (w4a.alloc (.cells #[.slice none 0 0, .slice none 0 0, .string ⟨#[]⟩, .int .i64 0] 30)).heap.size := by simp
        have gb128 : w4a.heap.size ≤ b125 := by rw [hbe]; exact Nat.le_refl _
        rw [← hbe] at hb0 lb127 ⊢
        have bl1 : Below w4a.heap.size w4a (w4a.alloc (.cells #[.slice none 0 0, .slice none 0 0, .string ⟨#[]⟩, .int .i64 0] 30)).drew := bl0.drew
        have hb1 : (w4a.alloc (.cells #[.slice none 0 0, .slice none 0 0, .string ⟨#[]⟩, .int .i64 0] 30)).drew.heap[b125]? = some (.cells #[.slice none 0 0, .slice none 0 0, .string ⟨#[]⟩, .int .i64 0] 30) := hb0
        have lb127d : b125 < (w4a.alloc (.cells #[.slice none 0 0, .slice none 0 0, .string ⟨#[]⟩, .int .i64 0] 30)).drew.heap.size := lb127
        have DD129 := hide (D_x.out.below bl1)
        generalize (w4a.alloc (.cells #[.slice none 0 0, .slice none 0 0, .string ⟨#[]⟩, .int .i64 0] 30)).drew = y123 at *
        have hb126 := hide hb1
        have bn124 := bl1
        clear hb0 bl0 hb1 bl1 lb127
        refine hK.out _ _ (SA.out _ bn124) (fun hHeld => ?_)
        clear hK KK hbe
        refine wpAnyH_ready (rs := [2]) (by kernel_rfl) (by simp) ?_
        refine AllReadyH.cons rfl (fun KK hK => ?_) AllReadyH.nil
        go_simp
        refine (law_toExtent a m y123).mono ?_
        rintro e y130 ⟨rfl, hb⟩
        have DD132 := hide (DD129.out.below hb)
        have bn131 := bn124.trans (hb.mono bn124.size)
        have hb133 := hide ((hb.block b125 lb127d).trans hb126.out)
        have lb134 : b125 < y130.heap.size := Nat.lt_of_lt_of_le lb127d hb.size
        clear hb
        go_wp2_with fail
        refine hK.out _ _ (SA.out _ bn131) (fun hHeld => ?_)
        clear hK KK
        refine wpAnyH_ready (rs := [3]) (by kernel_rfl) (by simp) ?_
        refine AllReadyH.cons rfl (fun KK hK => ?_) AllReadyH.nil
        go_simp
        refine (IP.out y130 _ DD132.out.sli).mono ?_
        rintro e y136 ⟨rfl, hb⟩
        simp only [doutV]
        have bn137 := bn131.trans (hb.mono bn131.size)
        have hb138 := hide ((hb.block b125 lb134).trans hb133.out)
        have lb139 : b125 < y136.heap.size := Nat.lt_of_lt_of_le lb134 hb.size
        clear hb
        go_wp2_with fail
        refine hK.out _ _ (SA.out _ bn137) (fun hHeld => ?_)
        clear hK KK
        refine wpAnyH_ready (rs := [5]) (by kernel_rfl) (by simp) ?_
        refine AllReadyH.cons rfl (fun KK hK => ?_) AllReadyH.nil
        have hb4 := hb138.out
        have cb0 : y136.cell? ⟨b125, 0, none⟩ = some (.slice none 0 0) := by simp [World.cell?, hb4]
        have fb0 : y136.frozen? ⟨b125, 0, none⟩ = false := by simp [World.frozen?, hb4]
        have cb1 : y136.cell? ⟨b125, 1, none⟩ = some (.slice none 0 0) := by simp [World.cell?, hb4]
        have fb1 : y136.frozen? ⟨b125, 1, none⟩ = false := by simp [World.frozen?, hb4]
        have cb2 : y136.cell? ⟨b125, 2, none⟩ = some (.string ⟨#[]⟩) := by simp [World.cell?, hb4]
        have fb2 : y136.frozen? ⟨b125, 2, none⟩ = false := by simp [World.frozen?, hb4]
        have cb3 : y136.cell? ⟨b125, 3, none⟩ = some (.int .i64 0) := by simp [World.cell?, hb4]
        have fb3 : y136.frozen? ⟨b125, 3, none⟩ = false := by simp [World.frozen?, hb4]
        have hb143 := hide (set4_blk y136 b125 _ _ _ _ (.slice none 0 0) (.slice none 0 0) (.string rt) (.int .i64 rc) _ hb4)
        have bn142 := below_set4 bn137 b125 gb128 (.slice none 0 0) (.slice none 0 0) (.string rt) (.int .i64 rc)
        have lb144 : b125 < ((((y136.setCell ⟨b125, 0, none⟩ (.slice none 0 0)).setCell ⟨b125, 1, none⟩ (.slice none 0 0)).setCell ⟨b125, 2, none⟩ (.string rt)).setCell ⟨b125, 3, none⟩ (.int .i64 rc)).heap.size := by simp only [World.setCell, Array.size_modify]; exact lb139
        clear hb4
        go_simp
        generalize ((((y136.setCell ⟨b125, 0, none⟩ (.slice none 0 0)).setCell ⟨b125, 1, none⟩ (.slice none 0 0)).setCell ⟨b125, 2, none⟩ (.string rt)).setCell ⟨b125, 3, none⟩ (.int .i64 rc)) = y141 at *
        refine hK.out _ _ (SA.out _ bn142) (fun hHeld => ?_)
        clear hK KK cb0 cb1 cb2 cb3 fb0 fb1 fb2 fb3
        refine wpAnyH_done (by kernel_rfl) ?_ _
        go_wp2_with fail
        go_meet
        case rel => exact ⟨b125, rfl, gb128, lb144, hb143, hide bn142⟩
    case rest =>
      obtain ⟨B_ga, rfl, hbl, hbr, HX, HB⟩ := hcut
      obtain ⟨w5, hw⟩ : ∃ u, u = wc := ⟨_, rfl⟩
      subst hw
      have hb := HB.out
      have hz_w5 := hb.size
      replace LB_d := hide ((hb.block (w.heap.size) (by omega)).trans LB_d.out)
      replace LB_e := hide ((hb.block (w.heap.size + 1) (by omega)).trans LB_e.out)
      replace LB_wa := hide ((hb.block (B_wa) (by omega)).trans LB_wa.out)
      replace LB_x := hide ((hb.block (w3.heap.size) (by omega)).trans LB_x.out)
      replace D_x := hide (D_x.out.below hb)
      replace BB := hide (BB.out.trans (hb.mono (by have := BB.out.size; omega)))
      clear hb HB SA
      have LB_ga := HX
      clear HX
      have ec_d0 : w5.cell? ⟨w.heap.size, 0, none⟩ = some (.slice sa nS sk) := by have h := LB_d.out; simp [World.cell?, h]
      have ec_d1 : w5.cell? ⟨w.heap.size, 1, none⟩ = some (.slice ca nC ck) := by have h := LB_d.out; simp [World.cell?, h]
      have ec_e0 : w5.cell? ⟨w.heap.size + 1, 0, none⟩ = some (.int .i64 a) := by have h := LB_e.out; simp [World.cell?, h]
      have ec_e1 : w5.cell? ⟨w.heap.size + 1, 1, none⟩ = some (.int .i64 m) := by have h := LB_e.out; simp [World.cell?, h]
      have ec_wa0 : w5.cell? ⟨B_wa, 0, none⟩ = some (.slice none 0 0) := by have h := LB_wa.out; simp [World.cell?, h]
      have ec_wa1 : w5.cell? ⟨B_wa, 1, none⟩ = some (.slice none 0 0) := by have h := LB_wa.out; simp [World.cell?, h]
      have ec_wa2 : w5.cell? ⟨B_wa, 2, none⟩ = some (.string rt) := by have h := LB_wa.out; simp [World.cell?, h]
      have ec_wa3 : w5.cell? ⟨B_wa, 3, none⟩ = some (.int .i64 rc) := by have h := LB_wa.out; simp [World.cell?, h]
      have ec_x0 : w5.cell? ⟨w3.heap.size, 0, none⟩ = some (.slice xa nS xb) := by have h := LB_x.out; simp [World.cell?, h]
      have ec_x1 : w5.cell? ⟨w3.heap.size, 1, none⟩ = some (.slice xc nC xd) := by have h := LB_x.out; simp [World.cell?, h]
      have ec_ga0 : w5.cell? ⟨B_ga, 0, none⟩ = some (.slice none 0 0) := by have h := LB_ga.out; simp [World.cell?, h]
      have ec_ga1 : w5.cell? ⟨B_ga, 1, none⟩ = some (.slice none 0 0) := by have h := LB_ga.out; simp [World.cell?, h]
      have ec_ga2 : w5.cell? ⟨B_ga, 2, none⟩ = some (.string rt) := by have h := LB_ga.out; simp [World.cell?, h]
      have ec_ga3 : w5.cell? ⟨B_ga, 3, none⟩ = some (.int .i64 rc) := by have h := LB_ga.out; simp [World.cell?, h]
      go_wp2_with fail
      refine (law_eqDiskOut _ _ _ _ rt rc 0 0 0 0 0 (fun _ => ⟨#[]⟩) 0 (fun _ => 0) (fun _ => ⟨#[]⟩) w5 (by omega) (by omega) (dskV_nil _ _ _ _ _) (dskV_nil _ _ _ _ _)).mono ?_
      rintro e w6 ⟨rfl, hb⟩
      clear ec_d0 ec_d1 ec_e0 ec_e1 ec_wa0 ec_wa1 ec_wa2 ec_wa3 ec_x0 ec_x1 ec_ga0 ec_ga1 ec_ga2 ec_ga3
      have hz_w6 := hb.size
      replace LB_d := hide ((hb.block (w.heap.size) (by omega)).trans LB_d.out)
      replace LB_e := hide ((hb.block (w.heap.size + 1) (by omega)).trans LB_e.out)
      replace LB_wa := hide ((hb.block (B_wa) (by omega)).trans LB_wa.out)
      replace LB_x := hide ((hb.block (w3.heap.size) (by omega)).trans LB_x.out)
      replace LB_ga := hide ((hb.block (B_ga) (by omega)).trans LB_ga.out)
      replace D_x := hide (D_x.out.below hb)
      replace BB := hide (BB.out.trans (hb.mono (by have := BB.out.size; omega)))
      clear hb
      have ec_d0 : w6.cell? ⟨w.heap.size, 0, none⟩ = some (.slice sa nS sk) := by have h := LB_d.out; simp [World.cell?, h]
      have ec_d1 : w6.cell? ⟨w.heap.size, 1, none⟩ = some (.slice ca nC ck) := by have h := LB_d.out; simp [World.cell?, h]
      have ec_e0 : w6.cell? ⟨w.heap.size + 1, 0, none⟩ = some (.int .i64 a) := by have h := LB_e.out; simp [World.cell?, h]
      have ec_e1 : w6.cell? ⟨w.heap.size + 1, 1, none⟩ = some (.int .i64 m) := by have h := LB_e.out; simp [World.cell?, h]
      have ec_wa0 : w6.cell? ⟨B_wa, 0, none⟩ = some (.slice none 0 0) := by have h := LB_wa.out; simp [World.cell?, h]
      have ec_wa1 : w6.cell? ⟨B_wa, 1, none⟩ = some (.slice none 0 0) := by have h := LB_wa.out; simp [World.cell?, h]
      have ec_wa2 : w6.cell? ⟨B_wa, 2, none⟩ = some (.string rt) := by have h := LB_wa.out; simp [World.cell?, h]
      have ec_wa3 : w6.cell? ⟨B_wa, 3, none⟩ = some (.int .i64 rc) := by have h := LB_wa.out; simp [World.cell?, h]
      have ec_x0 : w6.cell? ⟨w3.heap.size, 0, none⟩ = some (.slice xa nS xb) := by have h := LB_x.out; simp [World.cell?, h]
      have ec_x1 : w6.cell? ⟨w3.heap.size, 1, none⟩ = some (.slice xc nC xd) := by have h := LB_x.out; simp [World.cell?, h]
      have ec_ga0 : w6.cell? ⟨B_ga, 0, none⟩ = some (.slice none 0 0) := by have h := LB_ga.out; simp [World.cell?, h]
      have ec_ga1 : w6.cell? ⟨B_ga, 1, none⟩ = some (.slice none 0 0) := by have h := LB_ga.out; simp [World.cell?, h]
      have ec_ga2 : w6.cell? ⟨B_ga, 2, none⟩ = some (.string rt) := by have h := LB_ga.out; simp [World.cell?, h]
      have ec_ga3 : w6.cell? ⟨B_ga, 3, none⟩ = some (.int .i64 rc) := by have h := LB_ga.out; simp [World.cell?, h]
      go_wp2_with fail
      have SA : ∀ u : World, Below w6.heap.size w6 u → u.cell? ⟨w3.heap.size, 0, none⟩ = some (.slice xa nS xb) ∧ u.cell? ⟨w3.heap.size, 1, none⟩ = some (.slice xc nC xd) ∧ u.cell? ⟨w.heap.size, 0, none⟩ = some (.slice sa nS sk) ∧ u.cell? ⟨w.heap.size, 1, none⟩ = some (.slice ca nC ck) := fun u hu => by
        have hx := (hu.block (w3.heap.size) (by omega)).trans LB_x.out
        have hd := (hu.block (w.heap.size) (by omega)).trans LB_d.out
        exact ⟨by simp [World.cell?, hx], by simp [World.cell?, hx], by simp [World.cell?, hd], by simp [World.cell?, hd]⟩
      clear ec_d0 ec_d1 ec_e0 ec_e1 ec_wa0 ec_wa1 ec_wa2 ec_wa3 ec_x0 ec_x1 ec_ga0 ec_ga1 ec_ga2 ec_ga3
      refine wp_region_held_drew (S := fun u => u.cell? ⟨w3.heap.size, 0, none⟩ = some (.slice xa nS xb) ∧ u.cell? ⟨w3.heap.size, 1, none⟩ = some (.slice xc nC xd) ∧ u.cell? ⟨w.heap.size, 0, none⟩ = some (.slice sa nS sk) ∧ u.cell? ⟨w.heap.size, 1, none⟩ = some (.slice ca nC ck)) (by kernel_rfl) (SA _ (Below.refl _ _).drew) (fun hHeld => ?_)
      refine takeD (i := 0) (v := .agg #[.slice xa nS xb, .slice xc nC xd]) (some 33) rfl rfl (by kernel_rfl) (by kernel_rfl) (by kernel_rfl) (fun _ _ _ h => h) (Or.inl ⟨by rfl, fun w hSw => by obtain ⟨s0, s1, s2, s3⟩ := hSw; go_simp⟩) hHeld ?_
      simp only [Act.put, List.setIfInBounds_toArray, List.set_cons_zero, List.set_cons_succ]
      refine takeD (i := 1) (v := .agg #[.slice sa nS sk, .slice ca nC ck]) (some 34) rfl rfl (by kernel_rfl) (by kernel_rfl) (by kernel_rfl) (fun _ _ _ h => h) (Or.inl ⟨by rfl, fun w hSw => by obtain ⟨s0, s1, s2, s3⟩ := hSw; go_simp⟩) hHeld ?_
      simp only [Act.put, List.setIfInBounds_toArray, List.set_cons_zero, List.set_cons_succ]
      refine wpAnyH_ready (rs := [2]) (by kernel_rfl) (by simp) ?_
      refine AllReadyH.cons rfl (fun KK hK => ?_) AllReadyH.nil
      go_simp
      refine (law_toDisk _ nS S nC A X w6.drew hS hC ((HI.out.below BB.out.drew).wide BB.out.size)).mono ?_
      rintro e w7 ⟨o, rfl, hd, hb⟩
      obtain ⟨ya, yb, yc, yd, eo⟩ := hd.shape
      subst eo
      have b1 : Below w6.heap.size w6 w7 := (Below.refl _ _).drew.trans hb
      have hz_w7 := b1.size
      have DY := hide hd
      clear hd hb
      go_wp2_with fail
      refine hK.out _ _ (SA _ b1) (fun hHeld => ?_)
      clear hK KK
      refine wpAnyH_ready (rs := [3]) (by kernel_rfl) (by simp) ?_
      refine AllReadyH.cons rfl (fun KK hK => ?_) AllReadyH.nil
      go_simp
      refine (law_eqDisk _ _ _ _ _ _ nS S nC A X w7 hS hC (D_x.out.below b1) DY.out).mono ?_
      rintro e w8 ⟨rfl, hb⟩
      have b2 := b1.trans (hb.mono hz_w7)
      clear hb DY
      go_wp2_with fail
      refine hK.out _ _ (SA _ b2) (fun hHeld => ?_)
      clear hK KK
      refine takeD (i := 4) (v := .bool false) (some 37) rfl rfl (by kernel_rfl) (by kernel_rfl) (by kernel_rfl) (fun _ _ _ h => h) (Or.inl ⟨by rfl, fun w hSw => by go_simp⟩) hHeld ?_
      simp only [Act.put, List.setIfInBounds_toArray, List.set_cons_zero, List.set_cons_succ]
      refine wpAnyH_done (by kernel_rfl) ?_ _
      have hz_w8 := b2.size
      replace LB_d := hide ((b2.block (w.heap.size) (by omega)).trans LB_d.out)
      replace LB_e := hide ((b2.block (w.heap.size + 1) (by omega)).trans LB_e.out)
      replace LB_wa := hide ((b2.block (B_wa) (by omega)).trans LB_wa.out)
      replace LB_x := hide ((b2.block (w3.heap.size) (by omega)).trans LB_x.out)
      replace LB_ga := hide ((b2.block (B_ga) (by omega)).trans LB_ga.out)
      replace D_x := hide (D_x.out.below b2)
      replace BB := hide (BB.out.trans (b2.mono (by have := BB.out.size; omega)))
      clear b1 b2 SA hHeld
      have ec_d0 : w8.cell? ⟨w.heap.size, 0, none⟩ = some (.slice sa nS sk) := by have h := LB_d.out; simp [World.cell?, h]
      have ec_d1 : w8.cell? ⟨w.heap.size, 1, none⟩ = some (.slice ca nC ck) := by have h := LB_d.out; simp [World.cell?, h]
      have ec_e0 : w8.cell? ⟨w.heap.size + 1, 0, none⟩ = some (.int .i64 a) := by have h := LB_e.out; simp [World.cell?, h]
      have ec_e1 : w8.cell? ⟨w.heap.size + 1, 1, none⟩ = some (.int .i64 m) := by have h := LB_e.out; simp [World.cell?, h]
      have ec_wa0 : w8.cell? ⟨B_wa, 0, none⟩ = some (.slice none 0 0) := by have h := LB_wa.out; simp [World.cell?, h]
      have ec_wa1 : w8.cell? ⟨B_wa, 1, none⟩ = some (.slice none 0 0) := by have h := LB_wa.out; simp [World.cell?, h]
      have ec_wa2 : w8.cell? ⟨B_wa, 2, none⟩ = some (.string rt) := by have h := LB_wa.out; simp [World.cell?, h]
      have ec_wa3 : w8.cell? ⟨B_wa, 3, none⟩ = some (.int .i64 rc) := by have h := LB_wa.out; simp [World.cell?, h]
      have ec_x0 : w8.cell? ⟨w3.heap.size, 0, none⟩ = some (.slice xa nS xb) := by have h := LB_x.out; simp [World.cell?, h]
      have ec_x1 : w8.cell? ⟨w3.heap.size, 1, none⟩ = some (.slice xc nC xd) := by have h := LB_x.out; simp [World.cell?, h]
      have ec_ga0 : w8.cell? ⟨B_ga, 0, none⟩ = some (.slice none 0 0) := by have h := LB_ga.out; simp [World.cell?, h]
      have ec_ga1 : w8.cell? ⟨B_ga, 1, none⟩ = some (.slice none 0 0) := by have h := LB_ga.out; simp [World.cell?, h]
      have ec_ga2 : w8.cell? ⟨B_ga, 2, none⟩ = some (.string rt) := by have h := LB_ga.out; simp [World.cell?, h]
      have ec_ga3 : w8.cell? ⟨B_ga, 3, none⟩ = some (.int .i64 rc) := by have h := LB_ga.out; simp [World.cell?, h]
      go_wp2_with fail
      refine (law_markDisk _ (w2.heap.size) (w3.heap.size) nS S nC _ 1 w8 hS hC (by omega) (by omega) D_x.out).mono ?_
      rintro e w9 ⟨rfl, hm, ho⟩
      clear ec_d0 ec_d1 ec_e0 ec_e1 ec_wa0 ec_wa1 ec_wa2 ec_wa3 ec_x0 ec_x1 ec_ga0 ec_ga1 ec_ga2 ec_ga3
      have hz_w9 := ho.size
      replace LB_d := hide ((ho.block (w.heap.size) (by omega) (by omega)).trans LB_d.out)
      replace LB_e := hide ((ho.block (w.heap.size + 1) (by omega) (by omega)).trans LB_e.out)
      replace LB_wa := hide ((ho.block (B_wa) (by omega) (by omega)).trans LB_wa.out)
      replace LB_x := hide ((ho.block (w3.heap.size) (by omega) (by omega)).trans LB_x.out)
      replace LB_ga := hide ((ho.block (B_ga) (by omega) (by omega)).trans LB_ga.out)
      replace BB := hide (BB.out.trans (ho.below (by omega) |>.mono (by omega)))
      clear hm ho
      obtain ⟨kx, hkx⟩ : ∃ kx, kx = 1 + nS + 2 * nC := ⟨_, rfl⟩
      rw [← hkx]
      have hkx0 : ¬ (kx : Int) < 0 := by omega
      clear hkx
      have ec_d0 : w9.cell? ⟨w.heap.size, 0, none⟩ = some (.slice sa nS sk) := by have h := LB_d.out; simp [World.cell?, h]
      have ec_d1 : w9.cell? ⟨w.heap.size, 1, none⟩ = some (.slice ca nC ck) := by have h := LB_d.out; simp [World.cell?, h]
      have ec_e0 : w9.cell? ⟨w.heap.size + 1, 0, none⟩ = some (.int .i64 a) := by have h := LB_e.out; simp [World.cell?, h]
      have ec_e1 : w9.cell? ⟨w.heap.size + 1, 1, none⟩ = some (.int .i64 m) := by have h := LB_e.out; simp [World.cell?, h]
      have ec_wa0 : w9.cell? ⟨B_wa, 0, none⟩ = some (.slice none 0 0) := by have h := LB_wa.out; simp [World.cell?, h]
      have ec_wa1 : w9.cell? ⟨B_wa, 1, none⟩ = some (.slice none 0 0) := by have h := LB_wa.out; simp [World.cell?, h]
      have ec_wa2 : w9.cell? ⟨B_wa, 2, none⟩ = some (.string rt) := by have h := LB_wa.out; simp [World.cell?, h]
      have ec_wa3 : w9.cell? ⟨B_wa, 3, none⟩ = some (.int .i64 rc) := by have h := LB_wa.out; simp [World.cell?, h]
      have ec_x0 : w9.cell? ⟨w3.heap.size, 0, none⟩ = some (.slice xa nS xb) := by have h := LB_x.out; simp [World.cell?, h]
      have ec_x1 : w9.cell? ⟨w3.heap.size, 1, none⟩ = some (.slice xc nC xd) := by have h := LB_x.out; simp [World.cell?, h]
      have ec_ga0 : w9.cell? ⟨B_ga, 0, none⟩ = some (.slice none 0 0) := by have h := LB_ga.out; simp [World.cell?, h]
      have ec_ga1 : w9.cell? ⟨B_ga, 1, none⟩ = some (.slice none 0 0) := by have h := LB_ga.out; simp [World.cell?, h]
      have ec_ga2 : w9.cell? ⟨B_ga, 2, none⟩ = some (.string rt) := by have h := LB_ga.out; simp [World.cell?, h]
      have ec_ga3 : w9.cell? ⟨B_ga, 3, none⟩ = some (.int .i64 rc) := by have h := LB_ga.out; simp [World.cell?, h]
      go_wp2_with fail
      refine (law_eqDiskOut _ _ _ _ rt rc 0 0 0 0 0 (fun _ => ⟨#[]⟩) 0 (fun _ => 0) (fun _ => ⟨#[]⟩) w9 (by omega) (by omega) (dskV_nil _ _ _ _ _) (dskV_nil _ _ _ _ _)).mono ?_
      rintro e w10 ⟨rfl, hb⟩
      clear ec_d0 ec_d1 ec_e0 ec_e1 ec_wa0 ec_wa1 ec_wa2 ec_wa3 ec_x0 ec_x1 ec_ga0 ec_ga1 ec_ga2 ec_ga3
      have hz_w10 := hb.size
      replace LB_d := hide ((hb.block (w.heap.size) (by omega)).trans LB_d.out)
      replace LB_e := hide ((hb.block (w.heap.size + 1) (by omega)).trans LB_e.out)
      replace LB_wa := hide ((hb.block (B_wa) (by omega)).trans LB_wa.out)
      replace LB_x := hide ((hb.block (w3.heap.size) (by omega)).trans LB_x.out)
      replace LB_ga := hide ((hb.block (B_ga) (by omega)).trans LB_ga.out)
      replace BB := hide (BB.out.trans (hb.mono (by have := BB.out.size; omega)))
      clear hb
      have ec_d0 : w10.cell? ⟨w.heap.size, 0, none⟩ = some (.slice sa nS sk) := by have h := LB_d.out; simp [World.cell?, h]
      have ec_d1 : w10.cell? ⟨w.heap.size, 1, none⟩ = some (.slice ca nC ck) := by have h := LB_d.out; simp [World.cell?, h]
      have ec_e0 : w10.cell? ⟨w.heap.size + 1, 0, none⟩ = some (.int .i64 a) := by have h := LB_e.out; simp [World.cell?, h]
      have ec_e1 : w10.cell? ⟨w.heap.size + 1, 1, none⟩ = some (.int .i64 m) := by have h := LB_e.out; simp [World.cell?, h]
      have ec_wa0 : w10.cell? ⟨B_wa, 0, none⟩ = some (.slice none 0 0) := by have h := LB_wa.out; simp [World.cell?, h]
      have ec_wa1 : w10.cell? ⟨B_wa, 1, none⟩ = some (.slice none 0 0) := by have h := LB_wa.out; simp [World.cell?, h]
      have ec_wa2 : w10.cell? ⟨B_wa, 2, none⟩ = some (.string rt) := by have h := LB_wa.out; simp [World.cell?, h]
      have ec_wa3 : w10.cell? ⟨B_wa, 3, none⟩ = some (.int .i64 rc) := by have h := LB_wa.out; simp [World.cell?, h]
      have ec_x0 : w10.cell? ⟨w3.heap.size, 0, none⟩ = some (.slice xa nS xb) := by have h := LB_x.out; simp [World.cell?, h]
      have ec_x1 : w10.cell? ⟨w3.heap.size, 1, none⟩ = some (.slice xc nC xd) := by have h := LB_x.out; simp [World.cell?, h]
      have ec_ga0 : w10.cell? ⟨B_ga, 0, none⟩ = some (.slice none 0 0) := by have h := LB_ga.out; simp [World.cell?, h]
      have ec_ga1 : w10.cell? ⟨B_ga, 1, none⟩ = some (.slice none 0 0) := by have h := LB_ga.out; simp [World.cell?, h]
      have ec_ga2 : w10.cell? ⟨B_ga, 2, none⟩ = some (.string rt) := by have h := LB_ga.out; simp [World.cell?, h]
      have ec_ga3 : w10.cell? ⟨B_ga, 3, none⟩ = some (.int .i64 rc) := by have h := LB_ga.out; simp [World.cell?, h]
      go_wp2_with fail
      refine (law_markDiskOut _ _ rt rc w10.heap.size w10.heap.size 0 (fun _ => ⟨#[]⟩) 0 (fun _ => undef) 1 w10 (by omega) (by omega) (by omega) (by omega) (dskV_nil _ _ _ _ _)).mono ?_
      rintro e w11 ⟨rfl, hm, ho⟩
      clear ec_d0 ec_d1 ec_e0 ec_e1 ec_wa0 ec_wa1 ec_wa2 ec_wa3 ec_x0 ec_x1 ec_ga0 ec_ga1 ec_ga2 ec_ga3
      have hz_w11 := ho.size
      replace LB_d := hide ((ho.block (w.heap.size) (by omega) (by omega)).trans LB_d.out)
      replace LB_e := hide ((ho.block (w.heap.size + 1) (by omega) (by omega)).trans LB_e.out)
      replace LB_wa := hide ((ho.block (B_wa) (by omega) (by omega)).trans LB_wa.out)
      replace LB_x := hide ((ho.block (w3.heap.size) (by omega) (by omega)).trans LB_x.out)
      replace LB_ga := hide ((ho.block (B_ga) (by omega) (by omega)).trans LB_ga.out)
      replace BB := hide (BB.out.trans (ho.below (by omega) |>.mono (by omega)))
      clear hm ho
      have ec_d0 : w11.cell? ⟨w.heap.size, 0, none⟩ = some (.slice sa nS sk) := by have h := LB_d.out; simp [World.cell?, h]
      have ec_d1 : w11.cell? ⟨w.heap.size, 1, none⟩ = some (.slice ca nC ck) := by have h := LB_d.out; simp [World.cell?, h]
      have ec_e0 : w11.cell? ⟨w.heap.size + 1, 0, none⟩ = some (.int .i64 a) := by have h := LB_e.out; simp [World.cell?, h]
      have ec_e1 : w11.cell? ⟨w.heap.size + 1, 1, none⟩ = some (.int .i64 m) := by have h := LB_e.out; simp [World.cell?, h]
      have ec_wa0 : w11.cell? ⟨B_wa, 0, none⟩ = some (.slice none 0 0) := by have h := LB_wa.out; simp [World.cell?, h]
      have ec_wa1 : w11.cell? ⟨B_wa, 1, none⟩ = some (.slice none 0 0) := by have h := LB_wa.out; simp [World.cell?, h]
      have ec_wa2 : w11.cell? ⟨B_wa, 2, none⟩ = some (.string rt) := by have h := LB_wa.out; simp [World.cell?, h]
      have ec_wa3 : w11.cell? ⟨B_wa, 3, none⟩ = some (.int .i64 rc) := by have h := LB_wa.out; simp [World.cell?, h]
      have ec_x0 : w11.cell? ⟨w3.heap.size, 0, none⟩ = some (.slice xa nS xb) := by have h := LB_x.out; simp [World.cell?, h]
      have ec_x1 : w11.cell? ⟨w3.heap.size, 1, none⟩ = some (.slice xc nC xd) := by have h := LB_x.out; simp [World.cell?, h]
      have ec_ga0 : w11.cell? ⟨B_ga, 0, none⟩ = some (.slice none 0 0) := by have h := LB_ga.out; simp [World.cell?, h]
      have ec_ga1 : w11.cell? ⟨B_ga, 1, none⟩ = some (.slice none 0 0) := by have h := LB_ga.out; simp [World.cell?, h]
      have ec_ga2 : w11.cell? ⟨B_ga, 2, none⟩ = some (.string rt) := by have h := LB_ga.out; simp [World.cell?, h]
      have ec_ga3 : w11.cell? ⟨B_ga, 3, none⟩ = some (.int .i64 rc) := by have h := LB_ga.out; simp [World.cell?, h]
      go_wp2_with fail
      refine (law_heldDiskOut _ _ rt rc 0 0 0 0 1 w11 (by omega) (by omega) (by omega) (dskV_nil _ _ _ _ _)).mono ?_
      rintro e w12 ⟨rfl, hb⟩
      clear ec_d0 ec_d1 ec_e0 ec_e1 ec_wa0 ec_wa1 ec_wa2 ec_wa3 ec_x0 ec_x1 ec_ga0 ec_ga1 ec_ga2 ec_ga3
      have hz_w12 := hb.size
      replace LB_d := hide ((hb.block (w.heap.size) (by omega)).trans LB_d.out)
      replace LB_e := hide ((hb.block (w.heap.size + 1) (by omega)).trans LB_e.out)
      replace LB_wa := hide ((hb.block (B_wa) (by omega)).trans LB_wa.out)
      replace LB_x := hide ((hb.block (w3.heap.size) (by omega)).trans LB_x.out)
      replace LB_ga := hide ((hb.block (B_ga) (by omega)).trans LB_ga.out)
      replace BB := hide (BB.out.trans (hb.mono (by have := BB.out.size; omega)))
      clear hb
      have ec_d0 : w12.cell? ⟨w.heap.size, 0, none⟩ = some (.slice sa nS sk) := by have h := LB_d.out; simp [World.cell?, h]
      have ec_d1 : w12.cell? ⟨w.heap.size, 1, none⟩ = some (.slice ca nC ck) := by have h := LB_d.out; simp [World.cell?, h]
      have ec_e0 : w12.cell? ⟨w.heap.size + 1, 0, none⟩ = some (.int .i64 a) := by have h := LB_e.out; simp [World.cell?, h]
      have ec_e1 : w12.cell? ⟨w.heap.size + 1, 1, none⟩ = some (.int .i64 m) := by have h := LB_e.out; simp [World.cell?, h]
      have ec_wa0 : w12.cell? ⟨B_wa, 0, none⟩ = some (.slice none 0 0) := by have h := LB_wa.out; simp [World.cell?, h]
      have ec_wa1 : w12.cell? ⟨B_wa, 1, none⟩ = some (.slice none 0 0) := by have h := LB_wa.out; simp [World.cell?, h]
      have ec_wa2 : w12.cell? ⟨B_wa, 2, none⟩ = some (.string rt) := by have h := LB_wa.out; simp [World.cell?, h]
      have ec_wa3 : w12.cell? ⟨B_wa, 3, none⟩ = some (.int .i64 rc) := by have h := LB_wa.out; simp [World.cell?, h]
      have ec_x0 : w12.cell? ⟨w3.heap.size, 0, none⟩ = some (.slice xa nS xb) := by have h := LB_x.out; simp [World.cell?, h]
      have ec_x1 : w12.cell? ⟨w3.heap.size, 1, none⟩ = some (.slice xc nC xd) := by have h := LB_x.out; simp [World.cell?, h]
      have ec_ga0 : w12.cell? ⟨B_ga, 0, none⟩ = some (.slice none 0 0) := by have h := LB_ga.out; simp [World.cell?, h]
      have ec_ga1 : w12.cell? ⟨B_ga, 1, none⟩ = some (.slice none 0 0) := by have h := LB_ga.out; simp [World.cell?, h]
      have ec_ga2 : w12.cell? ⟨B_ga, 2, none⟩ = some (.string rt) := by have h := LB_ga.out; simp [World.cell?, h]
      have ec_ga3 : w12.cell? ⟨B_ga, 3, none⟩ = some (.int .i64 rc) := by have h := LB_ga.out; simp [World.cell?, h]
      go_wp2_with fail
      have SA := hide (show ∀ u : World, Below w12.heap.size w12 u → u.cell? ⟨w.heap.size, 0, none⟩ = some (.slice sa nS sk) ∧ u.cell? ⟨w.heap.size, 1, none⟩ = some (.slice ca nC ck) ∧ u.cell? ⟨w.heap.size + 1, 0, none⟩ = some (.int .i64 a) ∧ u.cell? ⟨w.heap.size + 1, 1, none⟩ = some (.int .i64 m) from fun u hu => by
        have hx := (hu.block (w.heap.size) (by omega)).trans LB_d.out
        have hd := (hu.block (w.heap.size + 1) (by omega)).trans LB_e.out
        exact ⟨by simp [World.cell?, hx], by simp [World.cell?, hx], by simp [World.cell?, hd], by simp [World.cell?, hd]⟩)
      clear ec_d0 ec_d1 ec_e0 ec_e1 ec_wa0 ec_wa1 ec_wa2 ec_wa3 ec_x0 ec_x1 ec_ga0 ec_ga1 ec_ga2 ec_ga3
      go_cut [12] from 60 to 64 (fun x wx => ∃ b, x = .pointer (some ⟨b, 0, none⟩) ∧ w12.heap.size ≤ b ∧ b < wx.heap.size ∧ Hid (wx.heap[b]? = some (.cells #[.slice none 0 0, .slice none 0 0, .string rt, .int .i64 rc] 30)) ∧ Hid (Below w12.heap.size w12 wx))
      case first =>
        refine wp_region_held_drew (S := fun u => u.cell? ⟨w.heap.size, 0, none⟩ = some (.slice sa nS sk) ∧ u.cell? ⟨w.heap.size, 1, none⟩ = some (.slice ca nC ck) ∧ u.cell? ⟨w.heap.size + 1, 0, none⟩ = some (.int .i64 a) ∧ u.cell? ⟨w.heap.size + 1, 1, none⟩ = some (.int .i64 m)) (by kernel_rfl) (SA.out _ (Below.refl _ _).drew) (fun hHeld => ?_)
        refine takeD (i := 0) (v := .agg #[.slice sa nS sk, .slice ca nC ck]) (some 60) rfl rfl (by kernel_rfl) (by kernel_rfl) (by kernel_rfl) (fun _ _ _ h => h) (Or.inl ⟨by rfl, fun w hSw => by obtain ⟨s0, s1, s2, s3⟩ := hSw; go_simp⟩) hHeld ?_
        simp only [Act.put, List.setIfInBounds_toArray, List.set_cons_zero, List.set_cons_succ]
        refine takeD (i := 2) (v := .agg #[.int .i64 a, .int .i64 m]) (some 62) rfl rfl (by kernel_rfl) (by kernel_rfl) (by kernel_rfl) (fun _ _ _ h => h) (Or.inl ⟨by rfl, fun w hSw => by obtain ⟨s0, s1, s2, s3⟩ := hSw; go_simp⟩) hHeld ?_
        simp only [Act.put, List.setIfInBounds_toArray, List.set_cons_zero, List.set_cons_succ]
        have bs0 : Below w12.heap.size w12 w12.drew := (Below.refl _ _).drew
        refine wpAnyH_ready (rs := [1, 5]) (by kernel_rfl) (by simp) ?_
        refine AllReadyH.cons rfl (fun KK hK => ?_) (AllReadyH.cons rfl (fun KK hK => ?_) AllReadyH.nil)
        · skip
          go_simp
          refine (law_toDisk _ nS S nC A X w12.drew hS hC ((HI.out.below (BB.out.trans (bs0.mono BB.out.size))).wide (BB.out.trans (bs0.mono BB.out.size)).size)).mono ?_
          rintro e y145 ⟨o, rfl, hd, hb⟩
          obtain ⟨o147, o148, o149, o150, eo⟩ := hd.shape
          subst eo
          have DD151 := hide hd
          clear hd
          have bn146 := bs0.trans (hb.mono bs0.size)
          clear hb
          go_wp2_with fail
          refine hK.out _ _ (SA.out _ bn146) (fun hHeld => ?_)
          clear hK KK
          refine wpAnyH_ready (rs := [3, 5]) (by kernel_rfl) (by simp) ?_
          refine AllReadyH.cons rfl (fun KK hK => ?_) (AllReadyH.cons rfl (fun KK hK => ?_) AllReadyH.nil)
          · skip
            go_simp
            refine (law_toExtent a m y145).mono ?_
            rintro e y152 ⟨rfl, hb⟩
            have DD154 := hide (DD151.out.below hb)
            have bn153 := bn146.trans (hb.mono bn146.size)
            clear hb
            go_wp2_with fail
            refine hK.out _ _ (SA.out _ bn153) (fun hHeld => ?_)
            clear hK KK
            refine wpAnyH_ready (rs := [4, 5]) (by kernel_rfl) (by simp) ?_
            refine AllReadyH.cons rfl (fun KK hK => ?_) (AllReadyH.cons rfl (fun KK hK => ?_) AllReadyH.nil)
            · skip
              go_simp
              refine (IP.out y152 _ DD154.out.sli).mono ?_
              rintro e y155 ⟨rfl, hb⟩
              simp only [doutV]
              have bn156 := bn153.trans (hb.mono bn153.size)
              clear hb
              go_wp2_with fail
              refine hK.out _ _ (SA.out _ bn156) (fun hHeld => ?_)
              clear hK KK
              refine wpAnyH_ready (rs := [5]) (by kernel_rfl) (by simp) ?_
              refine AllReadyH.cons rfl (fun KK hK => ?_) AllReadyH.nil
              go_simp
              have hb0 := heap_alloc_new y155 (.cells #[.slice none 0 0, .slice none 0 0, .string ⟨#[]⟩, .int .i64 0] 30)
              have bl0 : Below y155.heap.size y155 (y155.alloc (.cells #[.slice none 0 0, .slice none 0 0, .string ⟨#[]⟩, .int .i64 0] 30)) := (Below.refl _ _).alloc (Nat.le_refl _) _
              obtain ⟨b159, hbe⟩ : ∃ b, b = y155.heap.size := ⟨_, rfl⟩
              have lb161 : y155.heap.size < (y155.alloc (.cells #[.slice none 0 0, .slice none 0 0, .string ⟨#[]⟩, .int .i64 0] 30)).heap.size := by simp
              have gb162 : w12.heap.size ≤ b159 := by rw [hbe]; exact bn156.size
              rw [← hbe] at hb0 lb161 ⊢
              have bn158 := bn156.trans (bl0.mono bn156.size)
              have hb160 := hide hb0
              clear hb0 bl0
              generalize y155.alloc (.cells #[.slice none 0 0, .slice none 0 0, .string ⟨#[]⟩, .int .i64 0] 30) = y157 at *
              refine hK.out _ _ (SA.out _ bn158) (fun hHeld => ?_)
              clear hK KK hbe
              refine wpAnyH_ready (rs := [6]) (by kernel_rfl) (by simp) ?_
              refine AllReadyH.cons rfl (fun KK hK => ?_) AllReadyH.nil
              have hb4 := hb160.out
              have cb0 : y157.cell? ⟨b159, 0, none⟩ = some (.slice none 0 0) := by simp [World.cell?, hb4]
              have fb0 : y157.frozen? ⟨b159, 0, none⟩ = false := by simp [World.frozen?, hb4]
              have cb1 : y157.cell? ⟨b159, 1, none⟩ = some (.slice none 0 0) := by simp [World.cell?, hb4]
              have fb1 : y157.frozen? ⟨b159, 1, none⟩ = false := by simp [World.frozen?, hb4]
              have cb2 : y157.cell? ⟨b159, 2, none⟩ = some (.string ⟨#[]⟩) := by simp [World.cell?, hb4]
              have fb2 : y157.frozen? ⟨b159, 2, none⟩ = false := by simp [World.frozen?, hb4]
              have cb3 : y157.cell? ⟨b159, 3, none⟩ = some (.int .i64 0) := by simp [World.cell?, hb4]
              have fb3 : y157.frozen? ⟨b159, 3, none⟩ = false := by simp [World.frozen?, hb4]
              have hb165 := hide (set4_blk y157 b159 _ _ _ _ (.slice none 0 0) (.slice none 0 0) (.string rt) (.int .i64 rc) _ hb4)
              have bn164 := below_set4 bn158 b159 gb162 (.slice none 0 0) (.slice none 0 0) (.string rt) (.int .i64 rc)
              have lb166 : b159 < ((((y157.setCell ⟨b159, 0, none⟩ (.slice none 0 0)).setCell ⟨b159, 1, none⟩ (.slice none 0 0)).setCell ⟨b159, 2, none⟩ (.string rt)).setCell ⟨b159, 3, none⟩ (.int .i64 rc)).heap.size := by simp only [World.setCell, Array.size_modify]; exact lb161
              clear hb4
              go_simp
              generalize ((((y157.setCell ⟨b159, 0, none⟩ (.slice none 0 0)).setCell ⟨b159, 1, none⟩ (.slice none 0 0)).setCell ⟨b159, 2, none⟩ (.string rt)).setCell ⟨b159, 3, none⟩ (.int .i64 rc)) = y163 at *
              refine hK.out _ _ (SA.out _ bn164) (fun hHeld => ?_)
              clear hK KK cb0 cb1 cb2 cb3 fb0 fb1 fb2 fb3
              refine wpAnyH_done (by kernel_rfl) ?_ _
              go_wp2_with fail
              go_meet
              case rel => exact ⟨b159, rfl, gb162, lb166, hb165, hide bn164⟩
            · skip
              go_simp
              have hb0 := heap_alloc_new y152 (.cells #[.slice none 0 0, .slice none 0 0, .string ⟨#[]⟩, .int .i64 0] 30)
              have bl0 : Below y152.heap.size y152 (y152.alloc (.cells #[.slice none 0 0, .slice none 0 0, .string ⟨#[]⟩, .int .i64 0] 30)) := (Below.refl _ _).alloc (Nat.le_refl _) _
              obtain ⟨b169, hbe⟩ : ∃ b, b = y152.heap.size := ⟨_, rfl⟩
              have lb171 : y152.heap.size < (y152.alloc (.cells #[.slice none 0 0, .slice none 0 0, .string ⟨#[]⟩, .int .i64 0] 30)).heap.size := by simp
              have gb172 : w12.heap.size ≤ b169 := by rw [hbe]; exact bn153.size
              rw [← hbe] at hb0 lb171 ⊢
              have DD173 := hide (DD154.out.below bl0)
              have bn168 := bn153.trans (bl0.mono bn153.size)
              have hb170 := hide hb0
              clear hb0 bl0
              generalize y152.alloc (.cells #[.slice none 0 0, .slice none 0 0, .string ⟨#[]⟩, .int .i64 0] 30) = y167 at *
              refine hK.out _ _ (SA.out _ bn168) (fun hHeld => ?_)
              clear hK KK hbe
              refine wpAnyH_ready (rs := [4]) (by kernel_rfl) (by simp) ?_
              refine AllReadyH.cons rfl (fun KK hK => ?_) AllReadyH.nil
              go_simp
              refine (IP.out y167 _ DD173.out.sli).mono ?_
              rintro e y174 ⟨rfl, hb⟩
              simp only [doutV]
              have bn175 := bn168.trans (hb.mono bn168.size)
              have hb176 := hide ((hb.block b169 lb171).trans hb170.out)
              have lb177 : b169 < y174.heap.size := Nat.lt_of_lt_of_le lb171 hb.size
              clear hb
              go_wp2_with fail
              refine hK.out _ _ (SA.out _ bn175) (fun hHeld => ?_)
              clear hK KK
              refine wpAnyH_ready (rs := [6]) (by kernel_rfl) (by simp) ?_
              refine AllReadyH.cons rfl (fun KK hK => ?_) AllReadyH.nil
              have hb4 := hb176.out
              have cb0 : y174.cell? ⟨b169, 0, none⟩ = some (.slice none 0 0) := by simp [World.cell?, hb4]
              have fb0 : y174.frozen? ⟨b169, 0, none⟩ = false := by simp [World.frozen?, hb4]
              have cb1 : y174.cell? ⟨b169, 1, none⟩ = some (.slice none 0 0) := by simp [World.cell?, hb4]
              have fb1 : y174.frozen? ⟨b169, 1, none⟩ = false := by simp [World.frozen?, hb4]
              have cb2 : y174.cell? ⟨b169, 2, none⟩ = some (.string ⟨#[]⟩) := by simp [World.cell?, hb4]
              have fb2 : y174.frozen? ⟨b169, 2, none⟩ = false := by simp [World.frozen?, hb4]
              have cb3 : y174.cell? ⟨b169, 3, none⟩ = some (.int .i64 0) := by simp [World.cell?, hb4]
              have fb3 : y174.frozen? ⟨b169, 3, none⟩ = false := by simp [World.frozen?, hb4]
              have hb181 := hide (set4_blk y174 b169 _ _ _ _ (.slice none 0 0) (.slice none 0 0) (.string rt) (.int .i64 rc) _ hb4)
              have bn180 := below_set4 bn175 b169 gb172 (.slice none 0 0) (.slice none 0 0) (.string rt) (.int .i64 rc)
              have lb182 : b169 < ((((y174.setCell ⟨b169, 0, none⟩ (.slice none 0 0)).setCell ⟨b169, 1, none⟩ (.slice none 0 0)).setCell ⟨b169, 2, none⟩ (.string rt)).setCell ⟨b169, 3, none⟩ (.int .i64 rc)).heap.size := by simp only [World.setCell, Array.size_modify]; exact lb177
              clear hb4
              go_simp
              generalize ((((y174.setCell ⟨b169, 0, none⟩ (.slice none 0 0)).setCell ⟨b169, 1, none⟩ (.slice none 0 0)).setCell ⟨b169, 2, none⟩ (.string rt)).setCell ⟨b169, 3, none⟩ (.int .i64 rc)) = y179 at *
              refine hK.out _ _ (SA.out _ bn180) (fun hHeld => ?_)
              clear hK KK cb0 cb1 cb2 cb3 fb0 fb1 fb2 fb3
              refine wpAnyH_done (by kernel_rfl) ?_ _
              go_wp2_with fail
              go_meet
              case rel => exact ⟨b169, rfl, gb172, lb182, hb181, hide bn180⟩
          · skip
            go_simp
            have hb0 := heap_alloc_new y145 (.cells #[.slice none 0 0, .slice none 0 0, .string ⟨#[]⟩, .int .i64 0] 30)
            have bl0 : Below y145.heap.size y145 (y145.alloc (.cells #[.slice none 0 0, .slice none 0 0, .string ⟨#[]⟩, .int .i64 0] 30)) := (Below.refl _ _).alloc (Nat.le_refl _) _
            obtain ⟨b185, hbe⟩ : ∃ b, b = y145.heap.size := ⟨_, rfl⟩
            have lb187 : y145.heap.size < (y145.alloc (.cells #[.slice none 0 0, .slice none 0 0, .string ⟨#[]⟩, .int .i64 0] 30)).heap.size := by simp
            have gb188 : w12.heap.size ≤ b185 := by rw [hbe]; exact bn146.size
            rw [← hbe] at hb0 lb187 ⊢
            have DD189 := hide (DD151.out.below bl0)
            have bn184 := bn146.trans (bl0.mono bn146.size)
            have hb186 := hide hb0
            clear hb0 bl0
            generalize y145.alloc (.cells #[.slice none 0 0, .slice none 0 0, .string ⟨#[]⟩, .int .i64 0] 30) = y183 at *
            refine hK.out _ _ (SA.out _ bn184) (fun hHeld => ?_)
            clear hK KK hbe
            refine wpAnyH_ready (rs := [3]) (by kernel_rfl) (by simp) ?_
            refine AllReadyH.cons rfl (fun KK hK => ?_) AllReadyH.nil
            go_simp
            refine (law_toExtent a m y183).mono ?_
            rintro e y190 ⟨rfl, hb⟩
            have DD192 := hide (DD189.out.below hb)
            have bn191 := bn184.trans (hb.mono bn184.size)
            have hb193 := hide ((hb.block b185 lb187).trans hb186.out)
            have lb194 : b185 < y190.heap.size := Nat.lt_of_lt_of_le lb187 hb.size
            clear hb
            go_wp2_with fail
            refine hK.out _ _ (SA.out _ bn191) (fun hHeld => ?_)
            clear hK KK
            refine wpAnyH_ready (rs := [4]) (by kernel_rfl) (by simp) ?_
            refine AllReadyH.cons rfl (fun KK hK => ?_) AllReadyH.nil
            go_simp
            refine (IP.out y190 _ DD192.out.sli).mono ?_
            rintro e y196 ⟨rfl, hb⟩
            simp only [doutV]
            have bn197 := bn191.trans (hb.mono bn191.size)
            have hb198 := hide ((hb.block b185 lb194).trans hb193.out)
            have lb199 : b185 < y196.heap.size := Nat.lt_of_lt_of_le lb194 hb.size
            clear hb
            go_wp2_with fail
            refine hK.out _ _ (SA.out _ bn197) (fun hHeld => ?_)
            clear hK KK
            refine wpAnyH_ready (rs := [6]) (by kernel_rfl) (by simp) ?_
            refine AllReadyH.cons rfl (fun KK hK => ?_) AllReadyH.nil
            have hb4 := hb198.out
            have cb0 : y196.cell? ⟨b185, 0, none⟩ = some (.slice none 0 0) := by simp [World.cell?, hb4]
            have fb0 : y196.frozen? ⟨b185, 0, none⟩ = false := by simp [World.frozen?, hb4]
            have cb1 : y196.cell? ⟨b185, 1, none⟩ = some (.slice none 0 0) := by simp [World.cell?, hb4]
            have fb1 : y196.frozen? ⟨b185, 1, none⟩ = false := by simp [World.frozen?, hb4]
            have cb2 : y196.cell? ⟨b185, 2, none⟩ = some (.string ⟨#[]⟩) := by simp [World.cell?, hb4]
            have fb2 : y196.frozen? ⟨b185, 2, none⟩ = false := by simp [World.frozen?, hb4]
            have cb3 : y196.cell? ⟨b185, 3, none⟩ = some (.int .i64 0) := by simp [World.cell?, hb4]
            have fb3 : y196.frozen? ⟨b185, 3, none⟩ = false := by simp [World.frozen?, hb4]
            have hb203 := hide (set4_blk y196 b185 _ _ _ _ (.slice none 0 0) (.slice none 0 0) (.string rt) (.int .i64 rc) _ hb4)
            have bn202 := below_set4 bn197 b185 gb188 (.slice none 0 0) (.slice none 0 0) (.string rt) (.int .i64 rc)
            have lb204 : b185 < ((((y196.setCell ⟨b185, 0, none⟩ (.slice none 0 0)).setCell ⟨b185, 1, none⟩ (.slice none 0 0)).setCell ⟨b185, 2, none⟩ (.string rt)).setCell ⟨b185, 3, none⟩ (.int .i64 rc)).heap.size := by simp only [World.setCell, Array.size_modify]; exact lb199
            clear hb4
            go_simp
            generalize ((((y196.setCell ⟨b185, 0, none⟩ (.slice none 0 0)).setCell ⟨b185, 1, none⟩ (.slice none 0 0)).setCell ⟨b185, 2, none⟩ (.string rt)).setCell ⟨b185, 3, none⟩ (.int .i64 rc)) = y201 at *
            refine hK.out _ _ (SA.out _ bn202) (fun hHeld => ?_)
            clear hK KK cb0 cb1 cb2 cb3 fb0 fb1 fb2 fb3
            refine wpAnyH_done (by kernel_rfl) ?_ _
            go_wp2_with fail
            go_meet
            case rel => exact ⟨b185, rfl, gb188, lb204, hb203, hide bn202⟩
        · skip
          go_simp
          have hb0 := heap_alloc_new w12 (.cells #[.slice none 0 0, .slice none 0 0, .string ⟨#[]⟩, .int .i64 0] 30)
          have bl0 : Below w12.heap.size w12 (w12.alloc (.cells #[.slice none 0 0, .slice none 0 0, .string ⟨#[]⟩, .int .i64 0] 30)) := (Below.refl _ _).alloc (Nat.le_refl _) _
          obtain ⟨b207, hbe⟩ : ∃ b, b = w12.heap.size := ⟨_, rfl⟩
          have lb209 : w12.heap.size < (w12.alloc (.cells #[.slice none 0 0, .slice none 0 0, .string ⟨#[]⟩, .int .i64 0] 30)).heap.size := by simp
          have gb210 : w12.heap.size ≤ b207 := by rw [hbe]; exact Nat.le_refl _
          rw [← hbe] at hb0 lb209 ⊢
          have bl1 : Below w12.heap.size w12 (w12.alloc (.cells #[.slice none 0 0, .slice none 0 0, .string ⟨#[]⟩, .int .i64 0] 30)).drew := bl0.drew
          have hb1 : (w12.alloc (.cells #[.slice none 0 0, .slice none 0 0, .string ⟨#[]⟩, .int .i64 0] 30)).drew.heap[b207]? = some (.cells #[.slice none 0 0, .slice none 0 0, .string ⟨#[]⟩, .int .i64 0] 30) := hb0
          have lb209d : b207 < (w12.alloc (.cells #[.slice none 0 0, .slice none 0 0, .string ⟨#[]⟩, .int .i64 0] 30)).drew.heap.size := lb209
          generalize (w12.alloc (.cells #[.slice none 0 0, .slice none 0 0, .string ⟨#[]⟩, .int .i64 0] 30)).drew = y205 at *
          have hb208 := hide hb1
          have bn206 := bl1
          clear hb0 bl0 hb1 bl1 lb209
          refine hK.out _ _ (SA.out _ bn206) (fun hHeld => ?_)
          clear hK KK hbe
          refine wpAnyH_ready (rs := [1]) (by kernel_rfl) (by simp) ?_
          refine AllReadyH.cons rfl (fun KK hK => ?_) AllReadyH.nil
          go_simp
          refine (law_toDisk _ nS S nC A X y205 hS hC ((HI.out.below (BB.out.trans (bn206.mono BB.out.size))).wide (BB.out.trans (bn206.mono BB.out.size)).size)).mono ?_
          rintro e y211 ⟨o, rfl, hd, hb⟩
          obtain ⟨o213, o214, o215, o216, eo⟩ := hd.shape
          subst eo
          have DD217 := hide hd
          clear hd
          have bn212 := bn206.trans (hb.mono bn206.size)
          have hb218 := hide ((hb.block b207 lb209d).trans hb208.out)
          have lb219 : b207 < y211.heap.size := Nat.lt_of_lt_of_le lb209d hb.size
          clear hb
          go_wp2_with fail
          refine hK.out _ _ (SA.out _ bn212) (fun hHeld => ?_)
          clear hK KK
          refine wpAnyH_ready (rs := [3]) (by kernel_rfl) (by simp) ?_
          refine AllReadyH.cons rfl (fun KK hK => ?_) AllReadyH.nil
          go_simp
          refine (law_toExtent a m y211).mono ?_
          rintro e y221 ⟨rfl, hb⟩
          have DD223 := hide (DD217.out.below hb)
          have bn222 := bn212.trans (hb.mono bn212.size)
          have hb224 := hide ((hb.block b207 lb219).trans hb218.out)
          have lb225 : b207 < y221.heap.size := Nat.lt_of_lt_of_le lb219 hb.size
          clear hb
          go_wp2_with fail
          refine hK.out _ _ (SA.out _ bn222) (fun hHeld => ?_)
          clear hK KK
          refine wpAnyH_ready (rs := [4]) (by kernel_rfl) (by simp) ?_
          refine AllReadyH.cons rfl (fun KK hK => ?_) AllReadyH.nil
          go_simp
          refine (IP.out y221 _ DD223.out.sli).mono ?_
          rintro e y227 ⟨rfl, hb⟩
          simp only [doutV]
          have bn228 := bn222.trans (hb.mono bn222.size)
          have hb229 := hide ((hb.block b207 lb225).trans hb224.out)
          have lb230 : b207 < y227.heap.size := Nat.lt_of_lt_of_le lb225 hb.size
          clear hb
          go_wp2_with fail
          refine hK.out _ _ (SA.out _ bn228) (fun hHeld => ?_)
          clear hK KK
          refine wpAnyH_ready (rs := [6]) (by kernel_rfl) (by simp) ?_
          refine AllReadyH.cons rfl (fun KK hK => ?_) AllReadyH.nil
          have hb4 := hb229.out
          have cb0 : y227.cell? ⟨b207, 0, none⟩ = some (.slice none 0 0) := by simp [World.cell?, hb4]
          have fb0 : y227.frozen? ⟨b207, 0, none⟩ = false := by simp [World.frozen?, hb4]
          have cb1 : y227.cell? ⟨b207, 1, none⟩ = some (.slice none 0 0) := by simp [World.cell?, hb4]
          have fb1 : y227.frozen? ⟨b207, 1, none⟩ = false := by simp [World.frozen?, hb4]
          have cb2 : y227.cell? ⟨b207, 2, none⟩ = some (.string ⟨#[]⟩) := by simp [World.cell?, hb4]
          have fb2 : y227.frozen? ⟨b207, 2, none⟩ = false := by simp [World.frozen?, hb4]
          have cb3 : y227.cell? ⟨b207, 3, none⟩ = some (.int .i64 0) := by simp [World.cell?, hb4]
          have fb3 : y227.frozen? ⟨b207, 3, none⟩ = false := by simp [World.frozen?, hb4]
          have hb234 := hide (set4_blk y227 b207 _ _ _ _ (.slice none 0 0) (.slice none 0 0) (.string rt) (.int .i64 rc) _ hb4)
          have bn233 := below_set4 bn228 b207 gb210 (.slice none 0 0) (.slice none 0 0) (.string rt) (.int .i64 rc)
          have lb235 : b207 < ((((y227.setCell ⟨b207, 0, none⟩ (.slice none 0 0)).setCell ⟨b207, 1, none⟩ (.slice none 0 0)).setCell ⟨b207, 2, none⟩ (.string rt)).setCell ⟨b207, 3, none⟩ (.int .i64 rc)).heap.size := by simp only [World.setCell, Array.size_modify]; exact lb230
          clear hb4
          go_simp
          generalize ((((y227.setCell ⟨b207, 0, none⟩ (.slice none 0 0)).setCell ⟨b207, 1, none⟩ (.slice none 0 0)).setCell ⟨b207, 2, none⟩ (.string rt)).setCell ⟨b207, 3, none⟩ (.int .i64 rc)) = y232 at *
          refine hK.out _ _ (SA.out _ bn233) (fun hHeld => ?_)
          clear hK KK cb0 cb1 cb2 cb3 fb0 fb1 fb2 fb3
          refine wpAnyH_done (by kernel_rfl) ?_ _
          go_wp2_with fail
          go_meet
          case rel => exact ⟨b207, rfl, gb210, lb235, hb234, hide bn233⟩
      case rest =>
        obtain ⟨B_ha, rfl, hbl, hbr, HX, HB⟩ := hcut
        obtain ⟨w13, hw⟩ : ∃ u, u = wc := ⟨_, rfl⟩
        subst hw
        have hb := HB.out
        have hz_w13 := hb.size
        replace LB_d := hide ((hb.block (w.heap.size) (by omega)).trans LB_d.out)
        replace LB_e := hide ((hb.block (w.heap.size + 1) (by omega)).trans LB_e.out)
        replace LB_wa := hide ((hb.block (B_wa) (by omega)).trans LB_wa.out)
        replace LB_x := hide ((hb.block (w3.heap.size) (by omega)).trans LB_x.out)
        replace LB_ga := hide ((hb.block (B_ga) (by omega)).trans LB_ga.out)
        replace BB := hide (BB.out.trans (hb.mono (by have := BB.out.size; omega)))
        clear hb HB SA
        have LB_ha := HX
        clear HX
        have ec_d0 : w13.cell? ⟨w.heap.size, 0, none⟩ = some (.slice sa nS sk) := by have h := LB_d.out; simp [World.cell?, h]
        have ec_d1 : w13.cell? ⟨w.heap.size, 1, none⟩ = some (.slice ca nC ck) := by have h := LB_d.out; simp [World.cell?, h]
        have ec_e0 : w13.cell? ⟨w.heap.size + 1, 0, none⟩ = some (.int .i64 a) := by have h := LB_e.out; simp [World.cell?, h]
        have ec_e1 : w13.cell? ⟨w.heap.size + 1, 1, none⟩ = some (.int .i64 m) := by have h := LB_e.out; simp [World.cell?, h]
        have ec_wa0 : w13.cell? ⟨B_wa, 0, none⟩ = some (.slice none 0 0) := by have h := LB_wa.out; simp [World.cell?, h]
        have ec_wa1 : w13.cell? ⟨B_wa, 1, none⟩ = some (.slice none 0 0) := by have h := LB_wa.out; simp [World.cell?, h]
        have ec_wa2 : w13.cell? ⟨B_wa, 2, none⟩ = some (.string rt) := by have h := LB_wa.out; simp [World.cell?, h]
        have ec_wa3 : w13.cell? ⟨B_wa, 3, none⟩ = some (.int .i64 rc) := by have h := LB_wa.out; simp [World.cell?, h]
        have ec_x0 : w13.cell? ⟨w3.heap.size, 0, none⟩ = some (.slice xa nS xb) := by have h := LB_x.out; simp [World.cell?, h]
        have ec_x1 : w13.cell? ⟨w3.heap.size, 1, none⟩ = some (.slice xc nC xd) := by have h := LB_x.out; simp [World.cell?, h]
        have ec_ga0 : w13.cell? ⟨B_ga, 0, none⟩ = some (.slice none 0 0) := by have h := LB_ga.out; simp [World.cell?, h]
        have ec_ga1 : w13.cell? ⟨B_ga, 1, none⟩ = some (.slice none 0 0) := by have h := LB_ga.out; simp [World.cell?, h]
        have ec_ga2 : w13.cell? ⟨B_ga, 2, none⟩ = some (.string rt) := by have h := LB_ga.out; simp [World.cell?, h]
        have ec_ga3 : w13.cell? ⟨B_ga, 3, none⟩ = some (.int .i64 rc) := by have h := LB_ga.out; simp [World.cell?, h]
        have ec_ha0 : w13.cell? ⟨B_ha, 0, none⟩ = some (.slice none 0 0) := by have h := LB_ha.out; simp [World.cell?, h]
        have ec_ha1 : w13.cell? ⟨B_ha, 1, none⟩ = some (.slice none 0 0) := by have h := LB_ha.out; simp [World.cell?, h]
        have ec_ha2 : w13.cell? ⟨B_ha, 2, none⟩ = some (.string rt) := by have h := LB_ha.out; simp [World.cell?, h]
        have ec_ha3 : w13.cell? ⟨B_ha, 3, none⟩ = some (.int .i64 rc) := by have h := LB_ha.out; simp [World.cell?, h]
        go_wp2_with fail
        refine (law_eqDiskOut _ _ _ _ rt rc 0 0 0 0 0 (fun _ => ⟨#[]⟩) 0 (fun _ => 0) (fun _ => ⟨#[]⟩) w13 (by omega) (by omega) (dskV_nil _ _ _ _ _) (dskV_nil _ _ _ _ _)).mono ?_
        rintro e w14 ⟨rfl, hb⟩
        clear ec_d0 ec_d1 ec_e0 ec_e1 ec_wa0 ec_wa1 ec_wa2 ec_wa3 ec_x0 ec_x1 ec_ga0 ec_ga1 ec_ga2 ec_ga3 ec_ha0 ec_ha1 ec_ha2 ec_ha3
        have hz_w14 := hb.size
        replace LB_d := hide ((hb.block (w.heap.size) (by omega)).trans LB_d.out)
        replace LB_e := hide ((hb.block (w.heap.size + 1) (by omega)).trans LB_e.out)
        replace LB_wa := hide ((hb.block (B_wa) (by omega)).trans LB_wa.out)
        replace LB_x := hide ((hb.block (w3.heap.size) (by omega)).trans LB_x.out)
        replace LB_ga := hide ((hb.block (B_ga) (by omega)).trans LB_ga.out)
        replace LB_ha := hide ((hb.block (B_ha) (by omega)).trans LB_ha.out)
        replace BB := hide (BB.out.trans (hb.mono (by have := BB.out.size; omega)))
        clear hb
        have ec_d0 : w14.cell? ⟨w.heap.size, 0, none⟩ = some (.slice sa nS sk) := by have h := LB_d.out; simp [World.cell?, h]
        have ec_d1 : w14.cell? ⟨w.heap.size, 1, none⟩ = some (.slice ca nC ck) := by have h := LB_d.out; simp [World.cell?, h]
        have ec_e0 : w14.cell? ⟨w.heap.size + 1, 0, none⟩ = some (.int .i64 a) := by have h := LB_e.out; simp [World.cell?, h]
        have ec_e1 : w14.cell? ⟨w.heap.size + 1, 1, none⟩ = some (.int .i64 m) := by have h := LB_e.out; simp [World.cell?, h]
        have ec_wa0 : w14.cell? ⟨B_wa, 0, none⟩ = some (.slice none 0 0) := by have h := LB_wa.out; simp [World.cell?, h]
        have ec_wa1 : w14.cell? ⟨B_wa, 1, none⟩ = some (.slice none 0 0) := by have h := LB_wa.out; simp [World.cell?, h]
        have ec_wa2 : w14.cell? ⟨B_wa, 2, none⟩ = some (.string rt) := by have h := LB_wa.out; simp [World.cell?, h]
        have ec_wa3 : w14.cell? ⟨B_wa, 3, none⟩ = some (.int .i64 rc) := by have h := LB_wa.out; simp [World.cell?, h]
        have ec_x0 : w14.cell? ⟨w3.heap.size, 0, none⟩ = some (.slice xa nS xb) := by have h := LB_x.out; simp [World.cell?, h]
        have ec_x1 : w14.cell? ⟨w3.heap.size, 1, none⟩ = some (.slice xc nC xd) := by have h := LB_x.out; simp [World.cell?, h]
        have ec_ga0 : w14.cell? ⟨B_ga, 0, none⟩ = some (.slice none 0 0) := by have h := LB_ga.out; simp [World.cell?, h]
        have ec_ga1 : w14.cell? ⟨B_ga, 1, none⟩ = some (.slice none 0 0) := by have h := LB_ga.out; simp [World.cell?, h]
        have ec_ga2 : w14.cell? ⟨B_ga, 2, none⟩ = some (.string rt) := by have h := LB_ga.out; simp [World.cell?, h]
        have ec_ga3 : w14.cell? ⟨B_ga, 3, none⟩ = some (.int .i64 rc) := by have h := LB_ga.out; simp [World.cell?, h]
        have ec_ha0 : w14.cell? ⟨B_ha, 0, none⟩ = some (.slice none 0 0) := by have h := LB_ha.out; simp [World.cell?, h]
        have ec_ha1 : w14.cell? ⟨B_ha, 1, none⟩ = some (.slice none 0 0) := by have h := LB_ha.out; simp [World.cell?, h]
        have ec_ha2 : w14.cell? ⟨B_ha, 2, none⟩ = some (.string rt) := by have h := LB_ha.out; simp [World.cell?, h]
        have ec_ha3 : w14.cell? ⟨B_ha, 3, none⟩ = some (.int .i64 rc) := by have h := LB_ha.out; simp [World.cell?, h]
        go_wp2_with fail
        refine (law_heldDiskOut _ _ rt rc 0 0 0 0 1 w14 (by omega) (by omega) (by omega) (dskV_nil _ _ _ _ _)).mono ?_
        rintro e w15 ⟨rfl, hb⟩
        clear ec_d0 ec_d1 ec_e0 ec_e1 ec_wa0 ec_wa1 ec_wa2 ec_wa3 ec_x0 ec_x1 ec_ga0 ec_ga1 ec_ga2 ec_ga3 ec_ha0 ec_ha1 ec_ha2 ec_ha3
        have hz_w15 := hb.size
        replace LB_d := hide ((hb.block (w.heap.size) (by omega)).trans LB_d.out)
        replace LB_e := hide ((hb.block (w.heap.size + 1) (by omega)).trans LB_e.out)
        replace LB_wa := hide ((hb.block (B_wa) (by omega)).trans LB_wa.out)
        replace LB_x := hide ((hb.block (w3.heap.size) (by omega)).trans LB_x.out)
        replace LB_ga := hide ((hb.block (B_ga) (by omega)).trans LB_ga.out)
        replace LB_ha := hide ((hb.block (B_ha) (by omega)).trans LB_ha.out)
        replace BB := hide (BB.out.trans (hb.mono (by have := BB.out.size; omega)))
        clear hb
        have ec_d0 : w15.cell? ⟨w.heap.size, 0, none⟩ = some (.slice sa nS sk) := by have h := LB_d.out; simp [World.cell?, h]
        have ec_d1 : w15.cell? ⟨w.heap.size, 1, none⟩ = some (.slice ca nC ck) := by have h := LB_d.out; simp [World.cell?, h]
        have ec_e0 : w15.cell? ⟨w.heap.size + 1, 0, none⟩ = some (.int .i64 a) := by have h := LB_e.out; simp [World.cell?, h]
        have ec_e1 : w15.cell? ⟨w.heap.size + 1, 1, none⟩ = some (.int .i64 m) := by have h := LB_e.out; simp [World.cell?, h]
        have ec_wa0 : w15.cell? ⟨B_wa, 0, none⟩ = some (.slice none 0 0) := by have h := LB_wa.out; simp [World.cell?, h]
        have ec_wa1 : w15.cell? ⟨B_wa, 1, none⟩ = some (.slice none 0 0) := by have h := LB_wa.out; simp [World.cell?, h]
        have ec_wa2 : w15.cell? ⟨B_wa, 2, none⟩ = some (.string rt) := by have h := LB_wa.out; simp [World.cell?, h]
        have ec_wa3 : w15.cell? ⟨B_wa, 3, none⟩ = some (.int .i64 rc) := by have h := LB_wa.out; simp [World.cell?, h]
        have ec_x0 : w15.cell? ⟨w3.heap.size, 0, none⟩ = some (.slice xa nS xb) := by have h := LB_x.out; simp [World.cell?, h]
        have ec_x1 : w15.cell? ⟨w3.heap.size, 1, none⟩ = some (.slice xc nC xd) := by have h := LB_x.out; simp [World.cell?, h]
        have ec_ga0 : w15.cell? ⟨B_ga, 0, none⟩ = some (.slice none 0 0) := by have h := LB_ga.out; simp [World.cell?, h]
        have ec_ga1 : w15.cell? ⟨B_ga, 1, none⟩ = some (.slice none 0 0) := by have h := LB_ga.out; simp [World.cell?, h]
        have ec_ga2 : w15.cell? ⟨B_ga, 2, none⟩ = some (.string rt) := by have h := LB_ga.out; simp [World.cell?, h]
        have ec_ga3 : w15.cell? ⟨B_ga, 3, none⟩ = some (.int .i64 rc) := by have h := LB_ga.out; simp [World.cell?, h]
        have ec_ha0 : w15.cell? ⟨B_ha, 0, none⟩ = some (.slice none 0 0) := by have h := LB_ha.out; simp [World.cell?, h]
        have ec_ha1 : w15.cell? ⟨B_ha, 1, none⟩ = some (.slice none 0 0) := by have h := LB_ha.out; simp [World.cell?, h]
        have ec_ha2 : w15.cell? ⟨B_ha, 2, none⟩ = some (.string rt) := by have h := LB_ha.out; simp [World.cell?, h]
        have ec_ha3 : w15.cell? ⟨B_ha, 3, none⟩ = some (.int .i64 rc) := by have h := LB_ha.out; simp [World.cell?, h]
        go_wp2_with fail
        go_ret
        exact ⟨rfl, BB.out⟩
end Go.Proofs.Ytipeelkmmjgehaa

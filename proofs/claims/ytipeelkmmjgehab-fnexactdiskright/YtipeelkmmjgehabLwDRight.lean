/- The walk over the law FnExactDiskRight (written by mklwd.py). -/
import Derived.Test.YtipeelkmmjgehabLwDisk2
import Derived.Test.YtipeelkmmjgehabDskV
import Derived.Test.YtipeelkmmjgehabHeldOne
import Derived.Test.YtipeelkmmjgehabDkR
namespace Go.Proofs.Ytipeelkmmjgehab
open Go Go.RowKit
set_option maxRecDepth 100000 in
set_option maxHeartbeats 3200000 in
theorem fnExactDiskRight_core (v : Value) (nS : Nat) (S : Nat → ByteArray) (nC : Nat) (A : Nat → Int) (X : Nat → ByteArray) (w : World)
    (hS : nS ≤ 9223372036854775807) (hC : nC ≤ 9223372036854775807) (hSz : ∀ j, j < nS → (S j).size ≤ 9223372036854775807) (hXz : ∀ j, j < nC → (X j).size ≤ 9223372036854775807)
    (hspec : nS ≤ 1048576 → nC ≤ 1048576 → (∀ j, j < nS → (S j).size ≤ 1048576) → (∀ j, j < nC → (X j).size ≤ 1048576) → ∀ (u : World) (x : Value), dskI u u.heap.size x nS S nC A X → Calls Try.prog 19 #[x] u fun e w1 => tells e (dskOk nS S nC A X) ∧ Below u.heap.size u w1)
    (himp : nS ≤ 1048576 → nC ≤ 1048576 → (∀ j, j < nS → (S j).size ≤ 1048576) → (∀ j, j < nC → (X j).size ≤ 1048576) → ∀ (u : World) (x : Value), dskI u u.heap.size x nS S nC A X → Calls Try.prog 14 #[x] u fun e w1 => tells e (dskOk nS S nC A X) ∧ Below u.heap.size u w1)
    (h : dskI w w.heap.size v nS S nC A X) :
    Calls Try.prog 4 #[v] w fun e w' => e = .returned (.bool true) ∧ Below w.heap.size w w' := by
  obtain ⟨sv, cv, rfl, h1, h2⟩ := h
  obtain ⟨sa, sk, e1⟩ : ∃ a c, sv = .slice a nS c := by obtain ⟨a, c, e, _⟩ := h1; exact ⟨a, c, e⟩
  obtain ⟨ca, ck, e2⟩ : ∃ a c, cv = .slice a nC c := by obtain ⟨a, c, e, _⟩ := h2; exact ⟨a, c, e⟩
  subst e1 e2
  have HI := hide (show dskI w w.heap.size (.agg #[.slice sa nS sk, .slice ca nC ck]) nS S nC A X from ⟨_, _, rfl, h1, h2⟩)
  have HZ := hide (And.intro hSz hXz)
  have SP := hide hspec
  have IP := hide himp
  clear h1 h2 hSz hXz hspec himp
  have BB := hide (Below.refl w.heap.size w)
  go_enter Try.func4, Try.ntmps4
  have al0 : Below w.heap.size w (w.alloc (.cells #[.slice sa nS sk, .slice ca nC ck] 41)) := (Below.refl _ _).alloc (Nat.le_refl _) _
  have al1 : (w.alloc (.cells #[.slice sa nS sk, .slice ca nC ck] 41)).heap[w.heap.size]? = some (.cells #[.slice sa nS sk, .slice ca nC ck] 41) := heap_alloc_new _ _
  have al2 : w.heap.size < (w.alloc (.cells #[.slice sa nS sk, .slice ca nC ck] 41)).heap.size := by simp
  have AL := hide (And.intro al0 al1)
  clear al0 al1
  go_wp2_with fail
  generalize (w.alloc (.cells #[.slice sa nS sk, .slice ca nC ck] 41)) = w1a at *
  obtain ⟨al0, al1⟩ := AL.out
  replace BB := hide (BB.out.trans (al0.mono (by have := BB.out.size; omega)))
  have LB_d := hide al1
  have hz_w1a := al2
  clear al0 al1 AL al2
  refine (law_szDisk _ nS S nC A X w1a hS hC HZ.out.1 HZ.out.2 1048576 (by omega) (by omega) ((HI.out.below BB.out).wide BB.out.size)).mono ?_
  rintro e w2 ⟨r, rfl, hr, hb⟩
  have hz_w2 := hb.size
  replace LB_d := hide ((hb.block (w.heap.size) (by omega)).trans LB_d.out)
  replace BB := hide (BB.out.trans (hb.mono (by have := BB.out.size; omega)))
  clear hb
  rcases hr with rfl | ⟨hr0, hr1, hz1, hz2⟩
  · have ec_d0 : w2.cell? ⟨w.heap.size, 0, none⟩ = some (.slice sa nS sk) := by have h := LB_d.out; simp [World.cell?, h]
    have ec_d1 : w2.cell? ⟨w.heap.size, 1, none⟩ = some (.slice ca nC ck) := by have h := LB_d.out; simp [World.cell?, h]
    go_wp2_with fail
    go_ret
    exact ⟨rfl, BB.out⟩
  have hr0n : ¬ r < 0 := by omega
  replace hS : nS ≤ 1048576 := by omega
  replace hC : nC ≤ 1048576 := by omega
  replace SP := hide (SP.out hS hC hz1 hz2)
  replace IP := hide (IP.out hS hC hz1 hz2)
  clear hz1 hz2 hr0 hr1
  have ec_d0 : w2.cell? ⟨w.heap.size, 0, none⟩ = some (.slice sa nS sk) := by have h := LB_d.out; simp [World.cell?, h]
  have ec_d1 : w2.cell? ⟨w.heap.size, 1, none⟩ = some (.slice ca nC ck) := by have h := LB_d.out; simp [World.cell?, h]
  go_wp2_with fail
  refine (law_toDisk _ nS S nC A X w2 hS hC ((HI.out.below BB.out).wide BB.out.size)).mono ?_
  rintro e w3 ⟨o, rfl, hd, hb⟩
  obtain ⟨ma, mb, mc, md, eo⟩ := hd.shape
  subst eo
  clear ec_d0 ec_d1
  have hz_w3 := hb.size
  replace LB_d := hide ((hb.block (w.heap.size) (by omega)).trans LB_d.out)
  replace BB := hide (BB.out.trans (hb.mono (by have := BB.out.size; omega)))
  clear hb
  have D_m := hide hd
  clear hd
  have ec_d0 : w3.cell? ⟨w.heap.size, 0, none⟩ = some (.slice sa nS sk) := by have h := LB_d.out; simp [World.cell?, h]
  have ec_d1 : w3.cell? ⟨w.heap.size, 1, none⟩ = some (.slice ca nC ck) := by have h := LB_d.out; simp [World.cell?, h]
  go_wp2_with fail
  refine (SP.out w3 _ (D_m.out.sli)).mono ?_
  rintro e w4 ⟨⟨rwa, rfl, hwa⟩, hb⟩
  clear ec_d0 ec_d1
  have hz_w4 := hb.size
  replace LB_d := hide ((hb.block (w.heap.size) (by omega)).trans LB_d.out)
  replace D_m := hide (D_m.out.below hb)
  replace BB := hide (BB.out.trans (hb.mono (by have := BB.out.size; omega)))
  clear hb
  have Hwa := hide hwa
  clear hwa
  have ec_d0 : w4.cell? ⟨w.heap.size, 0, none⟩ = some (.slice sa nS sk) := by have h := LB_d.out; simp [World.cell?, h]
  have ec_d1 : w4.cell? ⟨w.heap.size, 1, none⟩ = some (.slice ca nC ck) := by have h := LB_d.out; simp [World.cell?, h]
  go_wp2_with fail
  refine (law_toDisk _ nS S nC A X w4 hS hC ((HI.out.below BB.out).wide BB.out.size)).mono ?_
  rintro e w5 ⟨o, rfl, hd, hb⟩
  obtain ⟨xa, xb, xc, xd, eo⟩ := hd.shape
  subst eo
  clear ec_d0 ec_d1
  have hz_w5 := hb.size
  replace LB_d := hide ((hb.block (w.heap.size) (by omega)).trans LB_d.out)
  replace BB := hide (BB.out.trans (hb.mono (by have := BB.out.size; omega)))
  clear hb
  have D_x := hide hd
  clear hd
  have al0 : Below w5.heap.size w5 (w5.alloc (.cells #[.slice xa nS xb, .slice xc nC xd] 26)) := (Below.refl _ _).alloc (Nat.le_refl _) _
  have al1 : (w5.alloc (.cells #[.slice xa nS xb, .slice xc nC xd] 26)).heap[w5.heap.size]? = some (.cells #[.slice xa nS xb, .slice xc nC xd] 26) := heap_alloc_new _ _
  have al2 : w5.heap.size < (w5.alloc (.cells #[.slice xa nS xb, .slice xc nC xd] 26)).heap.size := by simp
  have AL := hide (And.intro al0 al1)
  clear al0 al1
  have ed_d0 : (w5.alloc (.cells #[.slice xa nS xb, .slice xc nC xd] 26)).cell? ⟨w.heap.size, 0, none⟩ = some (.slice sa nS sk) := by have h := (AL.out.1.block (w.heap.size) (by omega)).trans LB_d.out; simp [World.cell?, h]
  have ed_d1 : (w5.alloc (.cells #[.slice xa nS xb, .slice xc nC xd] 26)).cell? ⟨w.heap.size, 1, none⟩ = some (.slice ca nC ck) := by have h := (AL.out.1.block (w.heap.size) (by omega)).trans LB_d.out; simp [World.cell?, h]
  go_wp2_with fail
  generalize (w5.alloc (.cells #[.slice xa nS xb, .slice xc nC xd] 26)) = w6a at *
  clear ed_d0 ed_d1
  obtain ⟨al0, al1⟩ := AL.out
  replace LB_d := hide ((al0.block (w.heap.size) (by omega)).trans LB_d.out)
  replace D_x := hide (D_x.out.below al0)
  replace BB := hide (BB.out.trans (al0.mono (by have := BB.out.size; omega)))
  have LB_x := hide al1
  have hz_w6a := al2
  clear al0 al1 AL al2
  refine (IP.out w6a _ (D_x.out.sli)).mono ?_
  rintro e w7 ⟨⟨rga, rfl, hga⟩, hb⟩
  have hz_w7 := hb.size
  replace LB_d := hide ((hb.block (w.heap.size) (by omega)).trans LB_d.out)
  replace LB_x := hide ((hb.block (w5.heap.size) (by omega)).trans LB_x.out)
  replace D_x := hide (D_x.out.below hb)
  replace BB := hide (BB.out.trans (hb.mono (by have := BB.out.size; omega)))
  clear hb
  have Hga := hide hga
  clear hga
  obtain rfl : rga = rwa := Bool.eq_iff_iff.2 (Hga.out.trans Hwa.out.symm)
  have hbq : (rga != rga) = false := by simp
  have ec_d0 : w7.cell? ⟨w.heap.size, 0, none⟩ = some (.slice sa nS sk) := by have h := LB_d.out; simp [World.cell?, h]
  have ec_d1 : w7.cell? ⟨w.heap.size, 1, none⟩ = some (.slice ca nC ck) := by have h := LB_d.out; simp [World.cell?, h]
  have ec_x0 : w7.cell? ⟨w5.heap.size, 0, none⟩ = some (.slice xa nS xb) := by have h := LB_x.out; simp [World.cell?, h]
  have ec_x1 : w7.cell? ⟨w5.heap.size, 1, none⟩ = some (.slice xc nC xd) := by have h := LB_x.out; simp [World.cell?, h]
  go_wp2_with fail
  have SA : ∀ u : World, Below w7.heap.size w7 u → u.cell? ⟨w5.heap.size, 0, none⟩ = some (.slice xa nS xb) ∧ u.cell? ⟨w5.heap.size, 1, none⟩ = some (.slice xc nC xd) ∧ u.cell? ⟨w.heap.size, 0, none⟩ = some (.slice sa nS sk) ∧ u.cell? ⟨w.heap.size, 1, none⟩ = some (.slice ca nC ck) := fun u hu => by
    have hx := (hu.block (w5.heap.size) (by omega)).trans LB_x.out
    have hd := (hu.block (w.heap.size) (by omega)).trans LB_d.out
    exact ⟨by simp [World.cell?, hx], by simp [World.cell?, hx], by simp [World.cell?, hd], by simp [World.cell?, hd]⟩
  clear ec_d0 ec_d1 ec_x0 ec_x1
  refine wp_region_held_drew (S := fun u => u.cell? ⟨w5.heap.size, 0, none⟩ = some (.slice xa nS xb) ∧ u.cell? ⟨w5.heap.size, 1, none⟩ = some (.slice xc nC xd) ∧ u.cell? ⟨w.heap.size, 0, none⟩ = some (.slice sa nS sk) ∧ u.cell? ⟨w.heap.size, 1, none⟩ = some (.slice ca nC ck)) (by kernel_rfl) (SA _ (Below.refl _ _).drew) (fun hHeld => ?_)
  refine takeD (i := 0) (v := .agg #[.slice xa nS xb, .slice xc nC xd]) (some 22) rfl rfl (by kernel_rfl) (by kernel_rfl) (by kernel_rfl) (fun _ _ _ h => h) (Or.inl ⟨by rfl, fun w hSw => by obtain ⟨s0, s1, s2, s3⟩ := hSw; go_simp⟩) hHeld ?_
  simp only [Act.put, List.setIfInBounds_toArray, List.set_cons_zero, List.set_cons_succ]
  refine takeD (i := 1) (v := .agg #[.slice sa nS sk, .slice ca nC ck]) (some 23) rfl rfl (by kernel_rfl) (by kernel_rfl) (by kernel_rfl) (fun _ _ _ h => h) (Or.inl ⟨by rfl, fun w hSw => by obtain ⟨s0, s1, s2, s3⟩ := hSw; go_simp⟩) hHeld ?_
  simp only [Act.put, List.setIfInBounds_toArray, List.set_cons_zero, List.set_cons_succ]
  refine wpAnyH_ready (rs := [2]) (by kernel_rfl) (by simp) ?_
  refine AllReadyH.cons rfl (fun KK hK => ?_) AllReadyH.nil
  go_simp
  refine (law_toDisk _ nS S nC A X w7.drew hS hC ((HI.out.below BB.out.drew).wide BB.out.size)).mono ?_
  rintro e w8 ⟨o, rfl, hd, hb⟩
  obtain ⟨ya, yb, yc, yd, eo⟩ := hd.shape
  subst eo
  have b1 : Below w7.heap.size w7 w8 := (Below.refl _ _).drew.trans hb
  have hz_w8 := b1.size
  have DY := hide hd
  clear hd hb
  go_wp2_with fail
  refine hK.out _ _ (SA _ b1) (fun hHeld => ?_)
  clear hK KK
  refine wpAnyH_ready (rs := [3]) (by kernel_rfl) (by simp) ?_
  refine AllReadyH.cons rfl (fun KK hK => ?_) AllReadyH.nil
  go_simp
  refine (law_eqDisk _ _ _ _ _ _ nS S nC A X w8 hS hC (D_x.out.below b1) DY.out).mono ?_
  rintro e w9 ⟨rfl, hb⟩
  have b2 := b1.trans (hb.mono hz_w8)
  clear hb DY
  go_wp2_with fail
  refine hK.out _ _ (SA _ b2) (fun hHeld => ?_)
  clear hK KK
  refine takeD (i := 4) (v := .bool false) (some 26) rfl rfl (by kernel_rfl) (by kernel_rfl) (by kernel_rfl) (fun _ _ _ h => h) (Or.inl ⟨by rfl, fun w hSw => by go_simp⟩) hHeld ?_
  simp only [Act.put, List.setIfInBounds_toArray, List.set_cons_zero, List.set_cons_succ]
  refine wpAnyH_done (by kernel_rfl) ?_ _
  have hz_w9 := b2.size
  replace LB_d := hide ((b2.block (w.heap.size) (by omega)).trans LB_d.out)
  replace LB_x := hide ((b2.block (w5.heap.size) (by omega)).trans LB_x.out)
  replace D_x := hide (D_x.out.below b2)
  replace BB := hide (BB.out.trans (b2.mono (by have := BB.out.size; omega)))
  clear b1 b2 SA hHeld
  have ec_d0 : w9.cell? ⟨w.heap.size, 0, none⟩ = some (.slice sa nS sk) := by have h := LB_d.out; simp [World.cell?, h]
  have ec_d1 : w9.cell? ⟨w.heap.size, 1, none⟩ = some (.slice ca nC ck) := by have h := LB_d.out; simp [World.cell?, h]
  have ec_x0 : w9.cell? ⟨w5.heap.size, 0, none⟩ = some (.slice xa nS xb) := by have h := LB_x.out; simp [World.cell?, h]
  have ec_x1 : w9.cell? ⟨w5.heap.size, 1, none⟩ = some (.slice xc nC xd) := by have h := LB_x.out; simp [World.cell?, h]
  go_wp2_with fail
  go_ret
  exact ⟨rfl, BB.out⟩
end Go.Proofs.Ytipeelkmmjgehab

/- The walk over the law FnExactDiskCrash (written by mklwd.py). -/
import Derived.Test.YtipeelkmmjgehabLwDisk2
import Derived.Test.YtipeelkmmjgehabDskV
import Derived.Test.YtipeelkmmjgehabHeldOne
import Derived.Test.YtipeelkmmjgehabLwBoS
namespace Go.Proofs.Ytipeelkmmjgehab
open Go Go.RowKit
set_option maxRecDepth 100000 in
set_option maxHeartbeats 3200000 in
theorem fnExactDiskCrash_core (v : Value) (nS : Nat) (S : Nat → ByteArray) (nC : Nat) (A : Nat → Int) (X : Nat → ByteArray) (ka : Option Addr) (nK kk : Nat) (Kf : Nat → Bool) (hnK : nK ≤ 1048576) (rS : Nat) (RS : Nat → ByteArray) (rC : Nat) (RA : Nat → Int) (RX : Nat → ByteArray) (w : World) (hrS : rS ≤ 1048576) (hrC : rC ≤ 1048576)
    (hS : nS ≤ 9223372036854775807) (hC : nC ≤ 9223372036854775807) (hSz : ∀ j, j < nS → (S j).size ≤ 9223372036854775807) (hXz : ∀ j, j < nC → (X j).size ≤ 9223372036854775807)
    (hspec : nS ≤ 1048576 → nC ≤ 1048576 → (∀ j, j < nS → (S j).size ≤ 1048576) → (∀ j, j < nC → (X j).size ≤ 1048576) → ∀ (u : World) (x : Value) (ka : Option Addr) (kk : Nat), dskI u u.heap.size x nS S nC A X → booI u u.heap.size (.slice ka nK kk) nK Kf → Calls Try.prog 28 #[x, .slice ka nK kk] u fun e w1 => ∃ o, e = .returned o ∧ dskV w1 o u.heap.size w1.heap.size rS (sC RS) rC (wF RA RX) ∧ Below u.heap.size u w1)
    (himp : nS ≤ 1048576 → nC ≤ 1048576 → (∀ j, j < nS → (S j).size ≤ 1048576) → (∀ j, j < nC → (X j).size ≤ 1048576) → ∀ (u : World) (x : Value) (ka : Option Addr) (kk : Nat), dskI u u.heap.size x nS S nC A X → booI u u.heap.size (.slice ka nK kk) nK Kf → Calls Try.prog 15 #[x, .slice ka nK kk] u fun e w1 => ∃ o, e = .returned o ∧ dskV w1 o u.heap.size w1.heap.size rS (sC RS) rC (wF RA RX) ∧ Below u.heap.size u w1)
    (h : dskI w w.heap.size v nS S nC A X) (hkb : booI w w.heap.size (.slice ka nK kk) nK Kf) :
    Calls Try.prog 8 #[v, .slice ka nK kk] w fun e w' => e = .returned (.bool true) ∧ Below w.heap.size w w' := by
  obtain ⟨sv, cv, rfl, h1, h2⟩ := h
  obtain ⟨sa, sk, e1⟩ : ∃ a c, sv = .slice a nS c := by obtain ⟨a, c, e, _⟩ := h1; exact ⟨a, c, e⟩
  obtain ⟨ca, ck, e2⟩ : ∃ a c, cv = .slice a nC c := by obtain ⟨a, c, e, _⟩ := h2; exact ⟨a, c, e⟩
  subst e1 e2
  have HI := hide (show dskI w w.heap.size (.agg #[.slice sa nS sk, .slice ca nC ck]) nS S nC A X from ⟨_, _, rfl, h1, h2⟩)
  have HZ := hide (And.intro hSz hXz)
  have SP := hide hspec
  have IP := hide himp
  clear h1 h2 hSz hXz hspec himp
  have BB := hide (Below.refl w.heap.size w)
  have dK : decide ((1048576 : Int) < (nK : Int)) = false := decide_eq_false (by omega)
  have HK := hide hkb
  clear hkb
  go_enter Try.func8, Try.ntmps8
  have al0 : Below w.heap.size w (w.alloc (.cells #[.slice sa nS sk, .slice ca nC ck] 41)) := (Below.refl _ _).alloc (Nat.le_refl _) _
  have al1 : (w.alloc (.cells #[.slice sa nS sk, .slice ca nC ck] 41)).heap[w.heap.size]? = some (.cells #[.slice sa nS sk, .slice ca nC ck] 41) := heap_alloc_new _ _
  have al2 : w.heap.size < (w.alloc (.cells #[.slice sa nS sk, .slice ca nC ck] 41)).heap.size := by simp
  have AL := hide (And.intro al0 al1)
  clear al0 al1
  go_wp2_with fail
  generalize (w.alloc (.cells #[.slice sa nS sk, .slice ca nC ck] 41)) = w1a at *
  obtain ⟨al0, al1⟩ := AL.out
  replace BB := hide (BB.out.trans (al0.mono (by have := BB.out.size; omega)))
  have LB_d := hide al1
  have hz_w1a := al2
  clear al0 al1 AL al2
  refine (law_szDisk _ nS S nC A X w1a hS hC HZ.out.1 HZ.out.2 1048576 (by omega) (by omega) ((HI.out.below BB.out).wide BB.out.size)).mono ?_
  rintro e w2 ⟨r, rfl, hr, hb⟩
  have hz_w2 := hb.size
  replace LB_d := hide ((hb.block (w.heap.size) (by omega)).trans LB_d.out)
  replace BB := hide (BB.out.trans (hb.mono (by have := BB.out.size; omega)))
  clear hb
  rcases hr with rfl | ⟨hr0, hr1, hz1, hz2⟩
  · have ec_d0 : w2.cell? ⟨w.heap.size, 0, none⟩ = some (.slice sa nS sk) := by have h := LB_d.out; simp [World.cell?, h]
    have ec_d1 : w2.cell? ⟨w.heap.size, 1, none⟩ = some (.slice ca nC ck) := by have h := LB_d.out; simp [World.cell?, h]
    go_wp2_with fail
    go_ret
    exact ⟨rfl, BB.out⟩
  have hr0n : ¬ r < 0 := by omega
  replace hS : nS ≤ 1048576 := by omega
  replace hC : nC ≤ 1048576 := by omega
  replace SP := hide (SP.out hS hC hz1 hz2)
  replace IP := hide (IP.out hS hC hz1 hz2)
  clear hz1 hz2 hr0 hr1
  have ec_d0 : w2.cell? ⟨w.heap.size, 0, none⟩ = some (.slice sa nS sk) := by have h := LB_d.out; simp [World.cell?, h]
  have ec_d1 : w2.cell? ⟨w.heap.size, 1, none⟩ = some (.slice ca nC ck) := by have h := LB_d.out; simp [World.cell?, h]
  go_wp2_with fail
  refine (law_toDisk _ nS S nC A X w2 hS hC ((HI.out.below BB.out).wide BB.out.size)).mono ?_
  rintro e w3 ⟨o, rfl, hd, hb⟩
  obtain ⟨ma, mb, mc, md, eo⟩ := hd.shape
  subst eo
  clear ec_d0 ec_d1
  have hz_w3 := hb.size
  replace LB_d := hide ((hb.block (w.heap.size) (by omega)).trans LB_d.out)
  replace BB := hide (BB.out.trans (hb.mono (by have := BB.out.size; omega)))
  clear hb
  have D_m := hide hd
  clear hd
  have ec_d0 : w3.cell? ⟨w.heap.size, 0, none⟩ = some (.slice sa nS sk) := by have h := LB_d.out; simp [World.cell?, h]
  have ec_d1 : w3.cell? ⟨w.heap.size, 1, none⟩ = some (.slice ca nC ck) := by have h := LB_d.out; simp [World.cell?, h]
  go_wp2_with fail
  refine (law_toBo _ nK Kf w3 hnK ((HK.out.below BB.out).wide BB.out.size)).mono ?_
  rintro e w4 ⟨o, rfl, hv, hwi, hb⟩
  obtain ⟨kmp, kmq, eo⟩ := hv.shape
  subst eo
  clear ec_d0 ec_d1
  have hz_w4 := hb.size
  replace LB_d := hide ((hb.block (w.heap.size) (by omega)).trans LB_d.out)
  replace D_m := hide (D_m.out.below hb)
  replace BB := hide (BB.out.trans (hb.mono (by have := BB.out.size; omega)))
  clear hb
  have V_km := hide hv
  have I_km := hide hwi
  clear hv hwi
  have ec_d0 : w4.cell? ⟨w.heap.size, 0, none⟩ = some (.slice sa nS sk) := by have h := LB_d.out; simp [World.cell?, h]
  have ec_d1 : w4.cell? ⟨w.heap.size, 1, none⟩ = some (.slice ca nC ck) := by have h := LB_d.out; simp [World.cell?, h]
  go_wp2_with fail
  refine (SP.out w4 _ _ _ (D_m.out.sli) V_km.out.booI).mono ?_
  rintro e w5 ⟨o, rfl, hd, hb⟩
  obtain ⟨waa, wab, wac, wad, eo⟩ := hd.shape
  subst eo
  clear ec_d0 ec_d1
  have hz_w5 := hb.size
  replace LB_d := hide ((hb.block (w.heap.size) (by omega)).trans LB_d.out)
  replace D_m := hide (D_m.out.below hb)
  replace V_km := hide (V_km.out.below hb)
  replace BB := hide (BB.out.trans (hb.mono (by have := BB.out.size; omega)))
  clear hb
  have D_wa := hide hd
  clear hd
  have al0 : Below w5.heap.size w5 (w5.alloc (.cells #[.slice waa rS wab, .slice wac rC wad] 26)) := (Below.refl _ _).alloc (Nat.le_refl _) _
  have al1 : (w5.alloc (.cells #[.slice waa rS wab, .slice wac rC wad] 26)).heap[w5.heap.size]? = some (.cells #[.slice waa rS wab, .slice wac rC wad] 26) := heap_alloc_new _ _
  have al2 : w5.heap.size < (w5.alloc (.cells #[.slice waa rS wab, .slice wac rC wad] 26)).heap.size := by simp
  have AL := hide (And.intro al0 al1)
  clear al0 al1
  have ed_d0 : (w5.alloc (.cells #[.slice waa rS wab, .slice wac rC wad] 26)).cell? ⟨w.heap.size, 0, none⟩ = some (.slice sa nS sk) := by have h := (AL.out.1.block (w.heap.size) (by omega)).trans LB_d.out; simp [World.cell?, h]
  have ed_d1 : (w5.alloc (.cells #[.slice waa rS wab, .slice wac rC wad] 26)).cell? ⟨w.heap.size, 1, none⟩ = some (.slice ca nC ck) := by have h := (AL.out.1.block (w.heap.size) (by omega)).trans LB_d.out; simp [World.cell?, h]
  go_wp2_with fail
  generalize (w5.alloc (.cells #[.slice waa rS wab, .slice wac rC wad] 26)) = w6a at *
  clear ed_d0 ed_d1
  obtain ⟨al0, al1⟩ := AL.out
  replace LB_d := hide ((al0.block (w.heap.size) (by omega)).trans LB_d.out)
  replace D_wa := hide (D_wa.out.below al0)
  replace BB := hide (BB.out.trans (al0.mono (by have := BB.out.size; omega)))
  have LB_wa := hide al1
  have hz_w6a := al2
  clear al0 al1 AL al2
  refine (law_toDisk _ nS S nC A X w6a hS hC ((HI.out.below BB.out).wide BB.out.size)).mono ?_
  rintro e w7 ⟨o, rfl, hd, hb⟩
  obtain ⟨xa, xb, xc, xd, eo⟩ := hd.shape
  subst eo
  have hz_w7 := hb.size
  replace LB_d := hide ((hb.block (w.heap.size) (by omega)).trans LB_d.out)
  replace LB_wa := hide ((hb.block (w5.heap.size) (by omega)).trans LB_wa.out)
  replace D_wa := hide (D_wa.out.below hb)
  replace BB := hide (BB.out.trans (hb.mono (by have := BB.out.size; omega)))
  clear hb
  have D_x := hide hd
  clear hd
  have al0 : Below w7.heap.size w7 (w7.alloc (.cells #[.slice xa nS xb, .slice xc nC xd] 26)) := (Below.refl _ _).alloc (Nat.le_refl _) _
  have al1 : (w7.alloc (.cells #[.slice xa nS xb, .slice xc nC xd] 26)).heap[w7.heap.size]? = some (.cells #[.slice xa nS xb, .slice xc nC xd] 26) := heap_alloc_new _ _
  have al2 : w7.heap.size < (w7.alloc (.cells #[.slice xa nS xb, .slice xc nC xd] 26)).heap.size := by simp
  have AL := hide (And.intro al0 al1)
  clear al0 al1
  have ed_d0 : (w7.alloc (.cells #[.slice xa nS xb, .slice xc nC xd] 26)).cell? ⟨w.heap.size, 0, none⟩ = some (.slice sa nS sk) := by have h := (AL.out.1.block (w.heap.size) (by omega)).trans LB_d.out; simp [World.cell?, h]
  have ed_d1 : (w7.alloc (.cells #[.slice xa nS xb, .slice xc nC xd] 26)).cell? ⟨w.heap.size, 1, none⟩ = some (.slice ca nC ck) := by have h := (AL.out.1.block (w.heap.size) (by omega)).trans LB_d.out; simp [World.cell?, h]
  have ed_wa0 : (w7.alloc (.cells #[.slice xa nS xb, .slice xc nC xd] 26)).cell? ⟨w5.heap.size, 0, none⟩ = some (.slice waa rS wab) := by have h := (AL.out.1.block (w5.heap.size) (by omega)).trans LB_wa.out; simp [World.cell?, h]
  have ed_wa1 : (w7.alloc (.cells #[.slice xa nS xb, .slice xc nC xd] 26)).cell? ⟨w5.heap.size, 1, none⟩ = some (.slice wac rC wad) := by have h := (AL.out.1.block (w5.heap.size) (by omega)).trans LB_wa.out; simp [World.cell?, h]
  go_wp2_with fail
  generalize (w7.alloc (.cells #[.slice xa nS xb, .slice xc nC xd] 26)) = w8a at *
  clear ed_d0 ed_d1 ed_wa0 ed_wa1
  obtain ⟨al0, al1⟩ := AL.out
  replace LB_d := hide ((al0.block (w.heap.size) (by omega)).trans LB_d.out)
  replace LB_wa := hide ((al0.block (w5.heap.size) (by omega)).trans LB_wa.out)
  replace D_wa := hide (D_wa.out.below al0)
  replace D_x := hide (D_x.out.below al0)
  replace BB := hide (BB.out.trans (al0.mono (by have := BB.out.size; omega)))
  have LB_x := hide al1
  have hz_w8a := al2
  clear al0 al1 AL al2
  refine (law_toBo _ nK Kf w8a hnK ((HK.out.below BB.out).wide BB.out.size)).mono ?_
  rintro e w9 ⟨o, rfl, hv, hwi, hb⟩
  obtain ⟨kx1p, kx1q, eo⟩ := hv.shape
  subst eo
  have hz_w9 := hb.size
  replace LB_d := hide ((hb.block (w.heap.size) (by omega)).trans LB_d.out)
  replace LB_wa := hide ((hb.block (w5.heap.size) (by omega)).trans LB_wa.out)
  replace LB_x := hide ((hb.block (w7.heap.size) (by omega)).trans LB_x.out)
  replace D_wa := hide (D_wa.out.below hb)
  replace D_x := hide (D_x.out.below hb)
  replace BB := hide (BB.out.trans (hb.mono (by have := BB.out.size; omega)))
  clear hb
  have V_kx1 := hide hv
  have I_kx1 := hide hwi
  clear hv hwi
  have ec_d0 : w9.cell? ⟨w.heap.size, 0, none⟩ = some (.slice sa nS sk) := by have h := LB_d.out; simp [World.cell?, h]
  have ec_d1 : w9.cell? ⟨w.heap.size, 1, none⟩ = some (.slice ca nC ck) := by have h := LB_d.out; simp [World.cell?, h]
  have ec_wa0 : w9.cell? ⟨w5.heap.size, 0, none⟩ = some (.slice waa rS wab) := by have h := LB_wa.out; simp [World.cell?, h]
  have ec_wa1 : w9.cell? ⟨w5.heap.size, 1, none⟩ = some (.slice wac rC wad) := by have h := LB_wa.out; simp [World.cell?, h]
  have ec_x0 : w9.cell? ⟨w7.heap.size, 0, none⟩ = some (.slice xa nS xb) := by have h := LB_x.out; simp [World.cell?, h]
  have ec_x1 : w9.cell? ⟨w7.heap.size, 1, none⟩ = some (.slice xc nC xd) := by have h := LB_x.out; simp [World.cell?, h]
  go_wp2_with fail
  refine (IP.out w9 _ _ _ (D_x.out.sli) V_kx1.out.booI).mono ?_
  rintro e w10 ⟨o, rfl, hd, hb⟩
  obtain ⟨gaa, gab, gac, gad, eo⟩ := hd.shape
  subst eo
  clear ec_d0 ec_d1 ec_wa0 ec_wa1 ec_x0 ec_x1
  have hz_w10 := hb.size
  replace LB_d := hide ((hb.block (w.heap.size) (by omega)).trans LB_d.out)
  replace LB_wa := hide ((hb.block (w5.heap.size) (by omega)).trans LB_wa.out)
  replace LB_x := hide ((hb.block (w7.heap.size) (by omega)).trans LB_x.out)
  replace D_wa := hide (D_wa.out.below hb)
  replace D_x := hide (D_x.out.below hb)
  replace V_kx1 := hide (V_kx1.out.below hb)
  replace BB := hide (BB.out.trans (hb.mono (by have := BB.out.size; omega)))
  clear hb
  have D_ga := hide hd
  clear hd
  have al0 : Below w10.heap.size w10 (w10.alloc (.cells #[.slice gaa rS gab, .slice gac rC gad] 26)) := (Below.refl _ _).alloc (Nat.le_refl _) _
  have al1 : (w10.alloc (.cells #[.slice gaa rS gab, .slice gac rC gad] 26)).heap[w10.heap.size]? = some (.cells #[.slice gaa rS gab, .slice gac rC gad] 26) := heap_alloc_new _ _
  have al2 : w10.heap.size < (w10.alloc (.cells #[.slice gaa rS gab, .slice gac rC gad] 26)).heap.size := by simp
  have AL := hide (And.intro al0 al1)
  clear al0 al1
  have ed_d0 : (w10.alloc (.cells #[.slice gaa rS gab, .slice gac rC gad] 26)).cell? ⟨w.heap.size, 0, none⟩ = some (.slice sa nS sk) := by have h := (AL.out.1.block (w.heap.size) (by omega)).trans LB_d.out; simp [World.cell?, h]
  have ed_d1 : (w10.alloc (.cells #[.slice gaa rS gab, .slice gac rC gad] 26)).cell? ⟨w.heap.size, 1, none⟩ = some (.slice ca nC ck) := by have h := (AL.out.1.block (w.heap.size) (by omega)).trans LB_d.out; simp [World.cell?, h]
  have ed_wa0 : (w10.alloc (.cells #[.slice gaa rS gab, .slice gac rC gad] 26)).cell? ⟨w5.heap.size, 0, none⟩ = some (.slice waa rS wab) := by have h := (AL.out.1.block (w5.heap.size) (by omega)).trans LB_wa.out; simp [World.cell?, h]
  have ed_wa1 : (w10.alloc (.cells #[.slice gaa rS gab, .slice gac rC gad] 26)).cell? ⟨w5.heap.size, 1, none⟩ = some (.slice wac rC wad) := by have h := (AL.out.1.block (w5.heap.size) (by omega)).trans LB_wa.out; simp [World.cell?, h]
  have ed_x0 : (w10.alloc (.cells #[.slice gaa rS gab, .slice gac rC gad] 26)).cell? ⟨w7.heap.size, 0, none⟩ = some (.slice xa nS xb) := by have h := (AL.out.1.block (w7.heap.size) (by omega)).trans LB_x.out; simp [World.cell?, h]
  have ed_x1 : (w10.alloc (.cells #[.slice gaa rS gab, .slice gac rC gad] 26)).cell? ⟨w7.heap.size, 1, none⟩ = some (.slice xc nC xd) := by have h := (AL.out.1.block (w7.heap.size) (by omega)).trans LB_x.out; simp [World.cell?, h]
  go_wp2_with fail
  generalize (w10.alloc (.cells #[.slice gaa rS gab, .slice gac rC gad] 26)) = w11a at *
  clear ed_d0 ed_d1 ed_wa0 ed_wa1 ed_x0 ed_x1
  obtain ⟨al0, al1⟩ := AL.out
  replace LB_d := hide ((al0.block (w.heap.size) (by omega)).trans LB_d.out)
  replace LB_wa := hide ((al0.block (w5.heap.size) (by omega)).trans LB_wa.out)
  replace LB_x := hide ((al0.block (w7.heap.size) (by omega)).trans LB_x.out)
  replace D_wa := hide (D_wa.out.below al0)
  replace D_x := hide (D_x.out.below al0)
  replace D_ga := hide (D_ga.out.below al0)
  replace V_kx1 := hide (V_kx1.out.below al0)
  replace BB := hide (BB.out.trans (al0.mono (by have := BB.out.size; omega)))
  have LB_ga := hide al1
  have hz_w11a := al2
  clear al0 al1 AL al2
  refine (law_eqDisk _ _ _ _ _ _ rS RS rC RA RX w11a hrS hrC D_ga.out D_wa.out).mono ?_
  rintro e w12 ⟨rfl, hb⟩
  have hz_w12 := hb.size
  replace LB_d := hide ((hb.block (w.heap.size) (by omega)).trans LB_d.out)
  replace LB_wa := hide ((hb.block (w5.heap.size) (by omega)).trans LB_wa.out)
  replace LB_x := hide ((hb.block (w7.heap.size) (by omega)).trans LB_x.out)
  replace LB_ga := hide ((hb.block (w10.heap.size) (by omega)).trans LB_ga.out)
  replace D_wa := hide (D_wa.out.below hb)
  replace D_x := hide (D_x.out.below hb)
  replace D_ga := hide (D_ga.out.below hb)
  replace V_kx1 := hide (V_kx1.out.below hb)
  replace BB := hide (BB.out.trans (hb.mono (by have := BB.out.size; omega)))
  clear hb
  have ec_d0 : w12.cell? ⟨w.heap.size, 0, none⟩ = some (.slice sa nS sk) := by have h := LB_d.out; simp [World.cell?, h]
  have ec_d1 : w12.cell? ⟨w.heap.size, 1, none⟩ = some (.slice ca nC ck) := by have h := LB_d.out; simp [World.cell?, h]
  have ec_wa0 : w12.cell? ⟨w5.heap.size, 0, none⟩ = some (.slice waa rS wab) := by have h := LB_wa.out; simp [World.cell?, h]
  have ec_wa1 : w12.cell? ⟨w5.heap.size, 1, none⟩ = some (.slice wac rC wad) := by have h := LB_wa.out; simp [World.cell?, h]
  have ec_x0 : w12.cell? ⟨w7.heap.size, 0, none⟩ = some (.slice xa nS xb) := by have h := LB_x.out; simp [World.cell?, h]
  have ec_x1 : w12.cell? ⟨w7.heap.size, 1, none⟩ = some (.slice xc nC xd) := by have h := LB_x.out; simp [World.cell?, h]
  have ec_ga0 : w12.cell? ⟨w10.heap.size, 0, none⟩ = some (.slice gaa rS gab) := by have h := LB_ga.out; simp [World.cell?, h]
  have ec_ga1 : w12.cell? ⟨w10.heap.size, 1, none⟩ = some (.slice gac rC gad) := by have h := LB_ga.out; simp [World.cell?, h]
  go_wp2_with fail
  have SA : ∀ u : World, Below w12.heap.size w12 u → u.cell? ⟨w7.heap.size, 0, none⟩ = some (.slice xa nS xb) ∧ u.cell? ⟨w7.heap.size, 1, none⟩ = some (.slice xc nC xd) ∧ u.cell? ⟨w.heap.size, 0, none⟩ = some (.slice sa nS sk) ∧ u.cell? ⟨w.heap.size, 1, none⟩ = some (.slice ca nC ck) := fun u hu => by
    have hx := (hu.block (w7.heap.size) (by omega)).trans LB_x.out
    have hd := (hu.block (w.heap.size) (by omega)).trans LB_d.out
    exact ⟨by simp [World.cell?, hx], by simp [World.cell?, hx], by simp [World.cell?, hd], by simp [World.cell?, hd]⟩
  clear ec_d0 ec_d1 ec_wa0 ec_wa1 ec_x0 ec_x1 ec_ga0 ec_ga1
  refine wp_region_held_drew (S := fun u => u.cell? ⟨w7.heap.size, 0, none⟩ = some (.slice xa nS xb) ∧ u.cell? ⟨w7.heap.size, 1, none⟩ = some (.slice xc nC xd) ∧ u.cell? ⟨w.heap.size, 0, none⟩ = some (.slice sa nS sk) ∧ u.cell? ⟨w.heap.size, 1, none⟩ = some (.slice ca nC ck)) (by kernel_rfl) (SA _ (Below.refl _ _).drew) (fun hHeld => ?_)
  refine takeD (i := 0) (v := .agg #[.slice xa nS xb, .slice xc nC xd]) (some 38) rfl rfl (by kernel_rfl) (by kernel_rfl) (by kernel_rfl) (fun _ _ _ h => h) (Or.inl ⟨by rfl, fun w hSw => by obtain ⟨s0, s1, s2, s3⟩ := hSw; go_simp⟩) hHeld ?_
  simp only [Act.put, List.setIfInBounds_toArray, List.set_cons_zero, List.set_cons_succ]
  refine takeD (i := 1) (v := .agg #[.slice sa nS sk, .slice ca nC ck]) (some 39) rfl rfl (by kernel_rfl) (by kernel_rfl) (by kernel_rfl) (fun _ _ _ h => h) (Or.inl ⟨by rfl, fun w hSw => by obtain ⟨s0, s1, s2, s3⟩ := hSw; go_simp⟩) hHeld ?_
  simp only [Act.put, List.setIfInBounds_toArray, List.set_cons_zero, List.set_cons_succ]
  refine wpAnyH_ready (rs := [2]) (by kernel_rfl) (by simp) ?_
  refine AllReadyH.cons rfl (fun KK hK => ?_) AllReadyH.nil
  go_simp
  refine (law_toDisk _ nS S nC A X w12.drew hS hC ((HI.out.below BB.out.drew).wide BB.out.size)).mono ?_
  rintro e w13 ⟨o, rfl, hd, hb⟩
  obtain ⟨ya, yb, yc, yd, eo⟩ := hd.shape
  subst eo
  have b1 : Below w12.heap.size w12 w13 := (Below.refl _ _).drew.trans hb
  have hz_w13 := b1.size
  have DY := hide hd
  clear hd hb
  go_wp2_with fail
  refine hK.out _ _ (SA _ b1) (fun hHeld => ?_)
  clear hK KK
  refine wpAnyH_ready (rs := [3]) (by kernel_rfl) (by simp) ?_
  refine AllReadyH.cons rfl (fun KK hK => ?_) AllReadyH.nil
  go_simp
  refine (law_eqDisk _ _ _ _ _ _ nS S nC A X w13 hS hC (D_x.out.below b1) DY.out).mono ?_
  rintro e w14 ⟨rfl, hb⟩
  have b2 := b1.trans (hb.mono hz_w13)
  clear hb DY
  go_wp2_with fail
  refine hK.out _ _ (SA _ b2) (fun hHeld => ?_)
  clear hK KK
  refine takeD (i := 4) (v := .bool false) (some 42) rfl rfl (by kernel_rfl) (by kernel_rfl) (by kernel_rfl) (fun _ _ _ h => h) (Or.inl ⟨by rfl, fun w hSw => by go_simp⟩) hHeld ?_
  simp only [Act.put, List.setIfInBounds_toArray, List.set_cons_zero, List.set_cons_succ]
  refine wpAnyH_done (by kernel_rfl) ?_ _
  have hz_w14 := b2.size
  replace LB_d := hide ((b2.block (w.heap.size) (by omega)).trans LB_d.out)
  replace LB_wa := hide ((b2.block (w5.heap.size) (by omega)).trans LB_wa.out)
  replace LB_x := hide ((b2.block (w7.heap.size) (by omega)).trans LB_x.out)
  replace LB_ga := hide ((b2.block (w10.heap.size) (by omega)).trans LB_ga.out)
  replace D_wa := hide (D_wa.out.below b2)
  replace D_x := hide (D_x.out.below b2)
  replace D_ga := hide (D_ga.out.below b2)
  replace V_kx1 := hide (V_kx1.out.below b2)
  replace BB := hide (BB.out.trans (b2.mono (by have := BB.out.size; omega)))
  clear b1 b2 SA hHeld
  have ec_d0 : w14.cell? ⟨w.heap.size, 0, none⟩ = some (.slice sa nS sk) := by have h := LB_d.out; simp [World.cell?, h]
  have ec_d1 : w14.cell? ⟨w.heap.size, 1, none⟩ = some (.slice ca nC ck) := by have h := LB_d.out; simp [World.cell?, h]
  have ec_wa0 : w14.cell? ⟨w5.heap.size, 0, none⟩ = some (.slice waa rS wab) := by have h := LB_wa.out; simp [World.cell?, h]
  have ec_wa1 : w14.cell? ⟨w5.heap.size, 1, none⟩ = some (.slice wac rC wad) := by have h := LB_wa.out; simp [World.cell?, h]
  have ec_x0 : w14.cell? ⟨w7.heap.size, 0, none⟩ = some (.slice xa nS xb) := by have h := LB_x.out; simp [World.cell?, h]
  have ec_x1 : w14.cell? ⟨w7.heap.size, 1, none⟩ = some (.slice xc nC xd) := by have h := LB_x.out; simp [World.cell?, h]
  have ec_ga0 : w14.cell? ⟨w10.heap.size, 0, none⟩ = some (.slice gaa rS gab) := by have h := LB_ga.out; simp [World.cell?, h]
  have ec_ga1 : w14.cell? ⟨w10.heap.size, 1, none⟩ = some (.slice gac rC gad) := by have h := LB_ga.out; simp [World.cell?, h]
  go_wp2_with fail
  refine (law_toBo _ nK Kf w14 hnK ((HK.out.below BB.out).wide BB.out.size)).mono ?_
  rintro e w15 ⟨o, rfl, hv, hwi, hb⟩
  obtain ⟨kyp, kyq, eo⟩ := hv.shape
  subst eo
  clear ec_d0 ec_d1 ec_wa0 ec_wa1 ec_x0 ec_x1 ec_ga0 ec_ga1
  have hz_w15 := hb.size
  replace LB_d := hide ((hb.block (w.heap.size) (by omega)).trans LB_d.out)
  replace LB_wa := hide ((hb.block (w5.heap.size) (by omega)).trans LB_wa.out)
  replace LB_x := hide ((hb.block (w7.heap.size) (by omega)).trans LB_x.out)
  replace LB_ga := hide ((hb.block (w10.heap.size) (by omega)).trans LB_ga.out)
  replace D_wa := hide (D_wa.out.below hb)
  replace D_x := hide (D_x.out.below hb)
  replace D_ga := hide (D_ga.out.below hb)
  replace V_kx1 := hide (V_kx1.out.below hb)
  replace BB := hide (BB.out.trans (hb.mono (by have := BB.out.size; omega)))
  clear hb
  have V_ky := hide hv
  have I_ky := hide hwi
  clear hv hwi
  have ec_d0 : w15.cell? ⟨w.heap.size, 0, none⟩ = some (.slice sa nS sk) := by have h := LB_d.out; simp [World.cell?, h]
  have ec_d1 : w15.cell? ⟨w.heap.size, 1, none⟩ = some (.slice ca nC ck) := by have h := LB_d.out; simp [World.cell?, h]
  have ec_wa0 : w15.cell? ⟨w5.heap.size, 0, none⟩ = some (.slice waa rS wab) := by have h := LB_wa.out; simp [World.cell?, h]
  have ec_wa1 : w15.cell? ⟨w5.heap.size, 1, none⟩ = some (.slice wac rC wad) := by have h := LB_wa.out; simp [World.cell?, h]
  have ec_x0 : w15.cell? ⟨w7.heap.size, 0, none⟩ = some (.slice xa nS xb) := by have h := LB_x.out; simp [World.cell?, h]
  have ec_x1 : w15.cell? ⟨w7.heap.size, 1, none⟩ = some (.slice xc nC xd) := by have h := LB_x.out; simp [World.cell?, h]
  have ec_ga0 : w15.cell? ⟨w10.heap.size, 0, none⟩ = some (.slice gaa rS gab) := by have h := LB_ga.out; simp [World.cell?, h]
  have ec_ga1 : w15.cell? ⟨w10.heap.size, 1, none⟩ = some (.slice gac rC gad) := by have h := LB_ga.out; simp [World.cell?, h]
  go_wp2_with fail
  refine (law_eqBool _ _ nK Kf w15 hnK V_kx1.out V_ky.out).mono ?_
  rintro e w16 ⟨rfl, hb⟩
  clear ec_d0 ec_d1 ec_wa0 ec_wa1 ec_x0 ec_x1 ec_ga0 ec_ga1
  have hz_w16 := hb.size
  replace LB_d := hide ((hb.block (w.heap.size) (by omega)).trans LB_d.out)
  replace LB_wa := hide ((hb.block (w5.heap.size) (by omega)).trans LB_wa.out)
  replace LB_x := hide ((hb.block (w7.heap.size) (by omega)).trans LB_x.out)
  replace LB_ga := hide ((hb.block (w10.heap.size) (by omega)).trans LB_ga.out)
  replace D_wa := hide (D_wa.out.below hb)
  replace D_x := hide (D_x.out.below hb)
  replace D_ga := hide (D_ga.out.below hb)
  replace V_kx1 := hide (V_kx1.out.below hb)
  replace V_ky := hide (V_ky.out.below hb)
  replace BB := hide (BB.out.trans (hb.mono (by have := BB.out.size; omega)))
  clear hb
  have ec_d0 : w16.cell? ⟨w.heap.size, 0, none⟩ = some (.slice sa nS sk) := by have h := LB_d.out; simp [World.cell?, h]
  have ec_d1 : w16.cell? ⟨w.heap.size, 1, none⟩ = some (.slice ca nC ck) := by have h := LB_d.out; simp [World.cell?, h]
  have ec_wa0 : w16.cell? ⟨w5.heap.size, 0, none⟩ = some (.slice waa rS wab) := by have h := LB_wa.out; simp [World.cell?, h]
  have ec_wa1 : w16.cell? ⟨w5.heap.size, 1, none⟩ = some (.slice wac rC wad) := by have h := LB_wa.out; simp [World.cell?, h]
  have ec_x0 : w16.cell? ⟨w7.heap.size, 0, none⟩ = some (.slice xa nS xb) := by have h := LB_x.out; simp [World.cell?, h]
  have ec_x1 : w16.cell? ⟨w7.heap.size, 1, none⟩ = some (.slice xc nC xd) := by have h := LB_x.out; simp [World.cell?, h]
  have ec_ga0 : w16.cell? ⟨w10.heap.size, 0, none⟩ = some (.slice gaa rS gab) := by have h := LB_ga.out; simp [World.cell?, h]
  have ec_ga1 : w16.cell? ⟨w10.heap.size, 1, none⟩ = some (.slice gac rC gad) := by have h := LB_ga.out; simp [World.cell?, h]
  go_wp2_with fail
  refine (law_markDisk _ (w6a.heap.size) (w7.heap.size) nS S nC _ 1 w16 hS hC (by omega) (by omega) D_x.out).mono ?_
  rintro e w17 ⟨rfl, hm, ho⟩
  clear ec_d0 ec_d1 ec_wa0 ec_wa1 ec_x0 ec_x1 ec_ga0 ec_ga1
  have hz_w17 := ho.size
  replace LB_d := hide ((ho.block (w.heap.size) (by omega) (by omega)).trans LB_d.out)
  replace LB_wa := hide ((ho.block (w5.heap.size) (by omega) (by omega)).trans LB_wa.out)
  replace LB_x := hide ((ho.block (w7.heap.size) (by omega) (by omega)).trans LB_x.out)
  replace LB_ga := hide ((ho.block (w10.heap.size) (by omega) (by omega)).trans LB_ga.out)
  replace D_wa := hide (D_wa.out.only ho (by omega))
  replace D_ga := hide (D_ga.out.only ho (by omega))
  replace V_kx1 := hide (V_kx1.out.only ho I_kx1.out (by omega))
  replace BB := hide (BB.out.trans (ho.below (by omega) |>.mono (by omega)))
  clear hm
  clear ho
  obtain ⟨kx, hkx⟩ : ∃ kx, kx = 1 + nS + 2 * nC := ⟨_, rfl⟩
  rw [← hkx]
  have hkx0 : ¬ (kx : Int) < 0 := by omega
  have hkx2 : kx ≤ 4194304 := by omega
  clear hkx
  have ec_d0 : w17.cell? ⟨w.heap.size, 0, none⟩ = some (.slice sa nS sk) := by have h := LB_d.out; simp [World.cell?, h]
  have ec_d1 : w17.cell? ⟨w.heap.size, 1, none⟩ = some (.slice ca nC ck) := by have h := LB_d.out; simp [World.cell?, h]
  have ec_wa0 : w17.cell? ⟨w5.heap.size, 0, none⟩ = some (.slice waa rS wab) := by have h := LB_wa.out; simp [World.cell?, h]
  have ec_wa1 : w17.cell? ⟨w5.heap.size, 1, none⟩ = some (.slice wac rC wad) := by have h := LB_wa.out; simp [World.cell?, h]
  have ec_x0 : w17.cell? ⟨w7.heap.size, 0, none⟩ = some (.slice xa nS xb) := by have h := LB_x.out; simp [World.cell?, h]
  have ec_x1 : w17.cell? ⟨w7.heap.size, 1, none⟩ = some (.slice xc nC xd) := by have h := LB_x.out; simp [World.cell?, h]
  have ec_ga0 : w17.cell? ⟨w10.heap.size, 0, none⟩ = some (.slice gaa rS gab) := by have h := LB_ga.out; simp [World.cell?, h]
  have ec_ga1 : w17.cell? ⟨w10.heap.size, 1, none⟩ = some (.slice gac rC gad) := by have h := LB_ga.out; simp [World.cell?, h]
  go_wp2_with fail
  refine (law_markBool _ nK kx _ w17 hnK (by omega) V_kx1.out).mono ?_
  rintro e w18 ⟨rfl, _, hgr⟩
  have ho := Only.of_grown hgr I_kx1.out
  clear hgr
  clear ec_d0 ec_d1 ec_wa0 ec_wa1 ec_x0 ec_x1 ec_ga0 ec_ga1
  have hz_w18 := ho.size
  replace LB_d := hide ((ho.block (w.heap.size) (by omega) (by omega)).trans LB_d.out)
  replace LB_wa := hide ((ho.block (w5.heap.size) (by omega) (by omega)).trans LB_wa.out)
  replace LB_x := hide ((ho.block (w7.heap.size) (by omega) (by omega)).trans LB_x.out)
  replace LB_ga := hide ((ho.block (w10.heap.size) (by omega) (by omega)).trans LB_ga.out)
  replace D_wa := hide (D_wa.out.only ho (by omega))
  replace D_ga := hide (D_ga.out.only ho (by omega))
  replace BB := hide (BB.out.trans (ho.below (by omega) |>.mono (by omega)))
  clear ho
  obtain ⟨ky2, hky2⟩ : ∃ ky, ky = kx + nK := ⟨_, rfl⟩
  rw [← hky2]
  have hky0 : ¬ (ky2 : Int) < 0 := by omega
  clear hky2
  have ec_d0 : w18.cell? ⟨w.heap.size, 0, none⟩ = some (.slice sa nS sk) := by have h := LB_d.out; simp [World.cell?, h]
  have ec_d1 : w18.cell? ⟨w.heap.size, 1, none⟩ = some (.slice ca nC ck) := by have h := LB_d.out; simp [World.cell?, h]
  have ec_wa0 : w18.cell? ⟨w5.heap.size, 0, none⟩ = some (.slice waa rS wab) := by have h := LB_wa.out; simp [World.cell?, h]
  have ec_wa1 : w18.cell? ⟨w5.heap.size, 1, none⟩ = some (.slice wac rC wad) := by have h := LB_wa.out; simp [World.cell?, h]
  have ec_x0 : w18.cell? ⟨w7.heap.size, 0, none⟩ = some (.slice xa nS xb) := by have h := LB_x.out; simp [World.cell?, h]
  have ec_x1 : w18.cell? ⟨w7.heap.size, 1, none⟩ = some (.slice xc nC xd) := by have h := LB_x.out; simp [World.cell?, h]
  have ec_ga0 : w18.cell? ⟨w10.heap.size, 0, none⟩ = some (.slice gaa rS gab) := by have h := LB_ga.out; simp [World.cell?, h]
  have ec_ga1 : w18.cell? ⟨w10.heap.size, 1, none⟩ = some (.slice gac rC gad) := by have h := LB_ga.out; simp [World.cell?, h]
  go_wp2_with fail
  refine (law_eqDisk _ _ _ _ _ _ rS RS rC RA RX w18 hrS hrC D_ga.out D_wa.out).mono ?_
  rintro e w19 ⟨rfl, hb⟩
  clear ec_d0 ec_d1 ec_wa0 ec_wa1 ec_x0 ec_x1 ec_ga0 ec_ga1
  have hz_w19 := hb.size
  replace LB_d := hide ((hb.block (w.heap.size) (by omega)).trans LB_d.out)
  replace LB_wa := hide ((hb.block (w5.heap.size) (by omega)).trans LB_wa.out)
  replace LB_x := hide ((hb.block (w7.heap.size) (by omega)).trans LB_x.out)
  replace LB_ga := hide ((hb.block (w10.heap.size) (by omega)).trans LB_ga.out)
  replace D_wa := hide (D_wa.out.below hb)
  replace D_ga := hide (D_ga.out.below hb)
  replace BB := hide (BB.out.trans (hb.mono (by have := BB.out.size; omega)))
  clear hb
  have ec_d0 : w19.cell? ⟨w.heap.size, 0, none⟩ = some (.slice sa nS sk) := by have h := LB_d.out; simp [World.cell?, h]
  have ec_d1 : w19.cell? ⟨w.heap.size, 1, none⟩ = some (.slice ca nC ck) := by have h := LB_d.out; simp [World.cell?, h]
  have ec_wa0 : w19.cell? ⟨w5.heap.size, 0, none⟩ = some (.slice waa rS wab) := by have h := LB_wa.out; simp [World.cell?, h]
  have ec_wa1 : w19.cell? ⟨w5.heap.size, 1, none⟩ = some (.slice wac rC wad) := by have h := LB_wa.out; simp [World.cell?, h]
  have ec_x0 : w19.cell? ⟨w7.heap.size, 0, none⟩ = some (.slice xa nS xb) := by have h := LB_x.out; simp [World.cell?, h]
  have ec_x1 : w19.cell? ⟨w7.heap.size, 1, none⟩ = some (.slice xc nC xd) := by have h := LB_x.out; simp [World.cell?, h]
  have ec_ga0 : w19.cell? ⟨w10.heap.size, 0, none⟩ = some (.slice gaa rS gab) := by have h := LB_ga.out; simp [World.cell?, h]
  have ec_ga1 : w19.cell? ⟨w10.heap.size, 1, none⟩ = some (.slice gac rC gad) := by have h := LB_ga.out; simp [World.cell?, h]
  go_wp2_with fail
  refine (law_markDisk _ (w9.heap.size) (w10.heap.size) rS RS rC _ 1 w19 hrS hrC (by omega) (by omega) D_ga.out).mono ?_
  rintro e w20 ⟨rfl, hm, ho⟩
  clear ec_d0 ec_d1 ec_wa0 ec_wa1 ec_x0 ec_x1 ec_ga0 ec_ga1
  have hz_w20 := ho.size
  replace LB_d := hide ((ho.block (w.heap.size) (by omega) (by omega)).trans LB_d.out)
  replace LB_wa := hide ((ho.block (w5.heap.size) (by omega) (by omega)).trans LB_wa.out)
  replace LB_x := hide ((ho.block (w7.heap.size) (by omega) (by omega)).trans LB_x.out)
  replace LB_ga := hide ((ho.block (w10.heap.size) (by omega) (by omega)).trans LB_ga.out)
  replace D_wa := hide (D_wa.out.only ho (by omega))
  replace BB := hide (BB.out.trans (ho.below (by omega) |>.mono (by omega)))
  have D_MV := hide hm
  clear hm
  clear ho
  obtain ⟨q, hq⟩ : ∃ q, q = 1 + rS + 2 * rC := ⟨_, rfl⟩
  have HQ := hide hq
  rw [← hq]
  have hq0 : ¬ (q : Int) < 0 := by omega
  clear hq
  have ec_d0 : w20.cell? ⟨w.heap.size, 0, none⟩ = some (.slice sa nS sk) := by have h := LB_d.out; simp [World.cell?, h]
  have ec_d1 : w20.cell? ⟨w.heap.size, 1, none⟩ = some (.slice ca nC ck) := by have h := LB_d.out; simp [World.cell?, h]
  have ec_wa0 : w20.cell? ⟨w5.heap.size, 0, none⟩ = some (.slice waa rS wab) := by have h := LB_wa.out; simp [World.cell?, h]
  have ec_wa1 : w20.cell? ⟨w5.heap.size, 1, none⟩ = some (.slice wac rC wad) := by have h := LB_wa.out; simp [World.cell?, h]
  have ec_x0 : w20.cell? ⟨w7.heap.size, 0, none⟩ = some (.slice xa nS xb) := by have h := LB_x.out; simp [World.cell?, h]
  have ec_x1 : w20.cell? ⟨w7.heap.size, 1, none⟩ = some (.slice xc nC xd) := by have h := LB_x.out; simp [World.cell?, h]
  have ec_ga0 : w20.cell? ⟨w10.heap.size, 0, none⟩ = some (.slice gaa rS gab) := by have h := LB_ga.out; simp [World.cell?, h]
  have ec_ga1 : w20.cell? ⟨w10.heap.size, 1, none⟩ = some (.slice gac rC gad) := by have h := LB_ga.out; simp [World.cell?, h]
  go_wp2_with fail
  refine (law_heldDisk _ (w9.heap.size) (w10.heap.size) rS rC 1 w20 hrS hrC (by omega) D_MV.out).mono ?_
  rintro e w21 ⟨rfl, hb⟩
  rw [← HQ.out]
  clear ec_d0 ec_d1 ec_wa0 ec_wa1 ec_x0 ec_x1 ec_ga0 ec_ga1
  have hz_w21 := hb.size
  replace LB_d := hide ((hb.block (w.heap.size) (by omega)).trans LB_d.out)
  replace LB_wa := hide ((hb.block (w5.heap.size) (by omega)).trans LB_wa.out)
  replace LB_x := hide ((hb.block (w7.heap.size) (by omega)).trans LB_x.out)
  replace LB_ga := hide ((hb.block (w10.heap.size) (by omega)).trans LB_ga.out)
  replace D_wa := hide (D_wa.out.below hb)
  replace D_MV := hide (D_MV.out.below hb)
  replace BB := hide (BB.out.trans (hb.mono (by have := BB.out.size; omega)))
  clear hb
  have ec_d0 : w21.cell? ⟨w.heap.size, 0, none⟩ = some (.slice sa nS sk) := by have h := LB_d.out; simp [World.cell?, h]
  have ec_d1 : w21.cell? ⟨w.heap.size, 1, none⟩ = some (.slice ca nC ck) := by have h := LB_d.out; simp [World.cell?, h]
  have ec_wa0 : w21.cell? ⟨w5.heap.size, 0, none⟩ = some (.slice waa rS wab) := by have h := LB_wa.out; simp [World.cell?, h]
  have ec_wa1 : w21.cell? ⟨w5.heap.size, 1, none⟩ = some (.slice wac rC wad) := by have h := LB_wa.out; simp [World.cell?, h]
  have ec_x0 : w21.cell? ⟨w7.heap.size, 0, none⟩ = some (.slice xa nS xb) := by have h := LB_x.out; simp [World.cell?, h]
  have ec_x1 : w21.cell? ⟨w7.heap.size, 1, none⟩ = some (.slice xc nC xd) := by have h := LB_x.out; simp [World.cell?, h]
  have ec_ga0 : w21.cell? ⟨w10.heap.size, 0, none⟩ = some (.slice gaa rS gab) := by have h := LB_ga.out; simp [World.cell?, h]
  have ec_ga1 : w21.cell? ⟨w10.heap.size, 1, none⟩ = some (.slice gac rC gad) := by have h := LB_ga.out; simp [World.cell?, h]
  go_wp2_with fail
  refine (law_toDisk _ nS S nC A X w21 hS hC ((HI.out.below BB.out).wide BB.out.size)).mono ?_
  rintro e w22 ⟨o, rfl, hd, hb⟩
  obtain ⟨za, zb, zc, zd, eo⟩ := hd.shape
  subst eo
  clear ec_d0 ec_d1 ec_wa0 ec_wa1 ec_x0 ec_x1 ec_ga0 ec_ga1
  have hz_w22 := hb.size
  replace LB_d := hide ((hb.block (w.heap.size) (by omega)).trans LB_d.out)
  replace LB_wa := hide ((hb.block (w5.heap.size) (by omega)).trans LB_wa.out)
  replace LB_x := hide ((hb.block (w7.heap.size) (by omega)).trans LB_x.out)
  replace LB_ga := hide ((hb.block (w10.heap.size) (by omega)).trans LB_ga.out)
  replace D_wa := hide (D_wa.out.below hb)
  replace D_MV := hide (D_MV.out.below hb)
  replace BB := hide (BB.out.trans (hb.mono (by have := BB.out.size; omega)))
  clear hb
  have D_z := hide hd
  clear hd
  have ec_d0 : w22.cell? ⟨w.heap.size, 0, none⟩ = some (.slice sa nS sk) := by have h := LB_d.out; simp [World.cell?, h]
  have ec_d1 : w22.cell? ⟨w.heap.size, 1, none⟩ = some (.slice ca nC ck) := by have h := LB_d.out; simp [World.cell?, h]
  have ec_wa0 : w22.cell? ⟨w5.heap.size, 0, none⟩ = some (.slice waa rS wab) := by have h := LB_wa.out; simp [World.cell?, h]
  have ec_wa1 : w22.cell? ⟨w5.heap.size, 1, none⟩ = some (.slice wac rC wad) := by have h := LB_wa.out; simp [World.cell?, h]
  have ec_x0 : w22.cell? ⟨w7.heap.size, 0, none⟩ = some (.slice xa nS xb) := by have h := LB_x.out; simp [World.cell?, h]
  have ec_x1 : w22.cell? ⟨w7.heap.size, 1, none⟩ = some (.slice xc nC xd) := by have h := LB_x.out; simp [World.cell?, h]
  have ec_ga0 : w22.cell? ⟨w10.heap.size, 0, none⟩ = some (.slice gaa rS gab) := by have h := LB_ga.out; simp [World.cell?, h]
  have ec_ga1 : w22.cell? ⟨w10.heap.size, 1, none⟩ = some (.slice gac rC gad) := by have h := LB_ga.out; simp [World.cell?, h]
  go_wp2_with fail
  refine (law_toBo _ nK Kf w22 hnK ((HK.out.below BB.out).wide BB.out.size)).mono ?_
  rintro e w23 ⟨o, rfl, hv, hwi, hb⟩
  obtain ⟨kzp, kzq, eo⟩ := hv.shape
  subst eo
  clear ec_d0 ec_d1 ec_wa0 ec_wa1 ec_x0 ec_x1 ec_ga0 ec_ga1
  have hz_w23 := hb.size
  replace LB_d := hide ((hb.block (w.heap.size) (by omega)).trans LB_d.out)
  replace LB_wa := hide ((hb.block (w5.heap.size) (by omega)).trans LB_wa.out)
  replace LB_x := hide ((hb.block (w7.heap.size) (by omega)).trans LB_x.out)
  replace LB_ga := hide ((hb.block (w10.heap.size) (by omega)).trans LB_ga.out)
  replace D_wa := hide (D_wa.out.below hb)
  replace D_MV := hide (D_MV.out.below hb)
  replace D_z := hide (D_z.out.below hb)
  replace BB := hide (BB.out.trans (hb.mono (by have := BB.out.size; omega)))
  clear hb
  have V_kz := hide hv
  have I_kz := hide hwi
  clear hv hwi
  have ec_d0 : w23.cell? ⟨w.heap.size, 0, none⟩ = some (.slice sa nS sk) := by have h := LB_d.out; simp [World.cell?, h]
  have ec_d1 : w23.cell? ⟨w.heap.size, 1, none⟩ = some (.slice ca nC ck) := by have h := LB_d.out; simp [World.cell?, h]
  have ec_wa0 : w23.cell? ⟨w5.heap.size, 0, none⟩ = some (.slice waa rS wab) := by have h := LB_wa.out; simp [World.cell?, h]
  have ec_wa1 : w23.cell? ⟨w5.heap.size, 1, none⟩ = some (.slice wac rC wad) := by have h := LB_wa.out; simp [World.cell?, h]
  have ec_x0 : w23.cell? ⟨w7.heap.size, 0, none⟩ = some (.slice xa nS xb) := by have h := LB_x.out; simp [World.cell?, h]
  have ec_x1 : w23.cell? ⟨w7.heap.size, 1, none⟩ = some (.slice xc nC xd) := by have h := LB_x.out; simp [World.cell?, h]
  have ec_ga0 : w23.cell? ⟨w10.heap.size, 0, none⟩ = some (.slice gaa rS gab) := by have h := LB_ga.out; simp [World.cell?, h]
  have ec_ga1 : w23.cell? ⟨w10.heap.size, 1, none⟩ = some (.slice gac rC gad) := by have h := LB_ga.out; simp [World.cell?, h]
  go_wp2_with fail
  refine (IP.out w23 _ _ _ (D_z.out.sli) V_kz.out.booI).mono ?_
  rintro e w24 ⟨o, rfl, hd, hb⟩
  obtain ⟨haa, hab, hac, had, eo⟩ := hd.shape
  subst eo
  clear ec_d0 ec_d1 ec_wa0 ec_wa1 ec_x0 ec_x1 ec_ga0 ec_ga1
  have hz_w24 := hb.size
  replace LB_d := hide ((hb.block (w.heap.size) (by omega)).trans LB_d.out)
  replace LB_wa := hide ((hb.block (w5.heap.size) (by omega)).trans LB_wa.out)
  replace LB_x := hide ((hb.block (w7.heap.size) (by omega)).trans LB_x.out)
  replace LB_ga := hide ((hb.block (w10.heap.size) (by omega)).trans LB_ga.out)
  replace D_wa := hide (D_wa.out.below hb)
  replace D_MV := hide (D_MV.out.below hb)
  replace D_z := hide (D_z.out.below hb)
  replace V_kz := hide (V_kz.out.below hb)
  replace BB := hide (BB.out.trans (hb.mono (by have := BB.out.size; omega)))
  clear hb
  have D_ha := hide hd
  clear hd
  have al0 : Below w24.heap.size w24 (w24.alloc (.cells #[.slice haa rS hab, .slice hac rC had] 26)) := (Below.refl _ _).alloc (Nat.le_refl _) _
  have al1 : (w24.alloc (.cells #[.slice haa rS hab, .slice hac rC had] 26)).heap[w24.heap.size]? = some (.cells #[.slice haa rS hab, .slice hac rC had] 26) := heap_alloc_new _ _
  have al2 : w24.heap.size < (w24.alloc (.cells #[.slice haa rS hab, .slice hac rC had] 26)).heap.size := by simp
  have AL := hide (And.intro al0 al1)
  clear al0 al1
  have ed_d0 : (w24.alloc (.cells #[.slice haa rS hab, .slice hac rC had] 26)).cell? ⟨w.heap.size, 0, none⟩ = some (.slice sa nS sk) := by have h := (AL.out.1.block (w.heap.size) (by omega)).trans LB_d.out; simp [World.cell?, h]
  have ed_d1 : (w24.alloc (.cells #[.slice haa rS hab, .slice hac rC had] 26)).cell? ⟨w.heap.size, 1, none⟩ = some (.slice ca nC ck) := by have h := (AL.out.1.block (w.heap.size) (by omega)).trans LB_d.out; simp [World.cell?, h]
  have ed_wa0 : (w24.alloc (.cells #[.slice haa rS hab, .slice hac rC had] 26)).cell? ⟨w5.heap.size, 0, none⟩ = some (.slice waa rS wab) := by have h := (AL.out.1.block (w5.heap.size) (by omega)).trans LB_wa.out; simp [World.cell?, h]
  have ed_wa1 : (w24.alloc (.cells #[.slice haa rS hab, .slice hac rC had] 26)).cell? ⟨w5.heap.size, 1, none⟩ = some (.slice wac rC wad) := by have h := (AL.out.1.block (w5.heap.size) (by omega)).trans LB_wa.out; simp [World.cell?, h]
  have ed_x0 : (w24.alloc (.cells #[.slice haa rS hab, .slice hac rC had] 26)).cell? ⟨w7.heap.size, 0, none⟩ = some (.slice xa nS xb) := by have h := (AL.out.1.block (w7.heap.size) (by omega)).trans LB_x.out; simp [World.cell?, h]
  have ed_x1 : (w24.alloc (.cells #[.slice haa rS hab, .slice hac rC had] 26)).cell? ⟨w7.heap.size, 1, none⟩ = some (.slice xc nC xd) := by have h := (AL.out.1.block (w7.heap.size) (by omega)).trans LB_x.out; simp [World.cell?, h]
  have ed_ga0 : (w24.alloc (.cells #[.slice haa rS hab, .slice hac rC had] 26)).cell? ⟨w10.heap.size, 0, none⟩ = some (.slice gaa rS gab) := by have h := (AL.out.1.block (w10.heap.size) (by omega)).trans LB_ga.out; simp [World.cell?, h]
  have ed_ga1 : (w24.alloc (.cells #[.slice haa rS hab, .slice hac rC had] 26)).cell? ⟨w10.heap.size, 1, none⟩ = some (.slice gac rC gad) := by have h := (AL.out.1.block (w10.heap.size) (by omega)).trans LB_ga.out; simp [World.cell?, h]
  go_wp2_with fail
  generalize (w24.alloc (.cells #[.slice haa rS hab, .slice hac rC had] 26)) = w25a at *
  clear ed_d0 ed_d1 ed_wa0 ed_wa1 ed_x0 ed_x1 ed_ga0 ed_ga1
  obtain ⟨al0, al1⟩ := AL.out
  replace LB_d := hide ((al0.block (w.heap.size) (by omega)).trans LB_d.out)
  replace LB_wa := hide ((al0.block (w5.heap.size) (by omega)).trans LB_wa.out)
  replace LB_x := hide ((al0.block (w7.heap.size) (by omega)).trans LB_x.out)
  replace LB_ga := hide ((al0.block (w10.heap.size) (by omega)).trans LB_ga.out)
  replace D_wa := hide (D_wa.out.below al0)
  replace D_MV := hide (D_MV.out.below al0)
  replace D_ha := hide (D_ha.out.below al0)
  replace BB := hide (BB.out.trans (al0.mono (by have := BB.out.size; omega)))
  have LB_ha := hide al1
  have hz_w25a := al2
  clear al0 al1 AL al2
  refine (law_eqDisk _ _ _ _ _ _ rS RS rC RA RX w25a hrS hrC D_ha.out D_wa.out).mono ?_
  rintro e w26 ⟨rfl, hb⟩
  have hz_w26 := hb.size
  replace LB_d := hide ((hb.block (w.heap.size) (by omega)).trans LB_d.out)
  replace LB_wa := hide ((hb.block (w5.heap.size) (by omega)).trans LB_wa.out)
  replace LB_x := hide ((hb.block (w7.heap.size) (by omega)).trans LB_x.out)
  replace LB_ga := hide ((hb.block (w10.heap.size) (by omega)).trans LB_ga.out)
  replace LB_ha := hide ((hb.block (w24.heap.size) (by omega)).trans LB_ha.out)
  replace D_wa := hide (D_wa.out.below hb)
  replace D_MV := hide (D_MV.out.below hb)
  replace D_ha := hide (D_ha.out.below hb)
  replace BB := hide (BB.out.trans (hb.mono (by have := BB.out.size; omega)))
  clear hb
  have ec_d0 : w26.cell? ⟨w.heap.size, 0, none⟩ = some (.slice sa nS sk) := by have h := LB_d.out; simp [World.cell?, h]
  have ec_d1 : w26.cell? ⟨w.heap.size, 1, none⟩ = some (.slice ca nC ck) := by have h := LB_d.out; simp [World.cell?, h]
  have ec_wa0 : w26.cell? ⟨w5.heap.size, 0, none⟩ = some (.slice waa rS wab) := by have h := LB_wa.out; simp [World.cell?, h]
  have ec_wa1 : w26.cell? ⟨w5.heap.size, 1, none⟩ = some (.slice wac rC wad) := by have h := LB_wa.out; simp [World.cell?, h]
  have ec_x0 : w26.cell? ⟨w7.heap.size, 0, none⟩ = some (.slice xa nS xb) := by have h := LB_x.out; simp [World.cell?, h]
  have ec_x1 : w26.cell? ⟨w7.heap.size, 1, none⟩ = some (.slice xc nC xd) := by have h := LB_x.out; simp [World.cell?, h]
  have ec_ga0 : w26.cell? ⟨w10.heap.size, 0, none⟩ = some (.slice gaa rS gab) := by have h := LB_ga.out; simp [World.cell?, h]
  have ec_ga1 : w26.cell? ⟨w10.heap.size, 1, none⟩ = some (.slice gac rC gad) := by have h := LB_ga.out; simp [World.cell?, h]
  have ec_ha0 : w26.cell? ⟨w24.heap.size, 0, none⟩ = some (.slice haa rS hab) := by have h := LB_ha.out; simp [World.cell?, h]
  have ec_ha1 : w26.cell? ⟨w24.heap.size, 1, none⟩ = some (.slice hac rC had) := by have h := LB_ha.out; simp [World.cell?, h]
  go_wp2_with fail
  refine (law_heldDisk _ (w9.heap.size) (w10.heap.size) rS rC 1 w26 hrS hrC (by omega) D_MV.out).mono ?_
  rintro e w27 ⟨rfl, hb⟩
  rw [← HQ.out]
  clear ec_d0 ec_d1 ec_wa0 ec_wa1 ec_x0 ec_x1 ec_ga0 ec_ga1 ec_ha0 ec_ha1
  have hz_w27 := hb.size
  replace LB_d := hide ((hb.block (w.heap.size) (by omega)).trans LB_d.out)
  replace LB_wa := hide ((hb.block (w5.heap.size) (by omega)).trans LB_wa.out)
  replace LB_x := hide ((hb.block (w7.heap.size) (by omega)).trans LB_x.out)
  replace LB_ga := hide ((hb.block (w10.heap.size) (by omega)).trans LB_ga.out)
  replace LB_ha := hide ((hb.block (w24.heap.size) (by omega)).trans LB_ha.out)
  replace D_MV := hide (D_MV.out.below hb)
  replace BB := hide (BB.out.trans (hb.mono (by have := BB.out.size; omega)))
  clear hb
  have ec_d0 : w27.cell? ⟨w.heap.size, 0, none⟩ = some (.slice sa nS sk) := by have h := LB_d.out; simp [World.cell?, h]
  have ec_d1 : w27.cell? ⟨w.heap.size, 1, none⟩ = some (.slice ca nC ck) := by have h := LB_d.out; simp [World.cell?, h]
  have ec_wa0 : w27.cell? ⟨w5.heap.size, 0, none⟩ = some (.slice waa rS wab) := by have h := LB_wa.out; simp [World.cell?, h]
  have ec_wa1 : w27.cell? ⟨w5.heap.size, 1, none⟩ = some (.slice wac rC wad) := by have h := LB_wa.out; simp [World.cell?, h]
  have ec_x0 : w27.cell? ⟨w7.heap.size, 0, none⟩ = some (.slice xa nS xb) := by have h := LB_x.out; simp [World.cell?, h]
  have ec_x1 : w27.cell? ⟨w7.heap.size, 1, none⟩ = some (.slice xc nC xd) := by have h := LB_x.out; simp [World.cell?, h]
  have ec_ga0 : w27.cell? ⟨w10.heap.size, 0, none⟩ = some (.slice gaa rS gab) := by have h := LB_ga.out; simp [World.cell?, h]
  have ec_ga1 : w27.cell? ⟨w10.heap.size, 1, none⟩ = some (.slice gac rC gad) := by have h := LB_ga.out; simp [World.cell?, h]
  have ec_ha0 : w27.cell? ⟨w24.heap.size, 0, none⟩ = some (.slice haa rS hab) := by have h := LB_ha.out; simp [World.cell?, h]
  have ec_ha1 : w27.cell? ⟨w24.heap.size, 1, none⟩ = some (.slice hac rC had) := by have h := LB_ha.out; simp [World.cell?, h]
  go_wp2_with fail
  go_ret
  exact ⟨rfl, BB.out⟩
end Go.Proofs.Ytipeelkmmjgehab

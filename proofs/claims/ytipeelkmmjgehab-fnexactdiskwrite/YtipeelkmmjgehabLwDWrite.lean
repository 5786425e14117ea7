/- The walk over the law FnExactDiskWrite (written by mklwd.py). -/
import Derived.Test.YtipeelkmmjgehabLwDisk3
import Derived.Test.YtipeelkmmjgehabDskV
import Derived.Test.YtipeelkmmjgehabHeldOne
import Derived.Test.YtipeelkmmjgehabShape2
namespace Go.Proofs.Ytipeelkmmjgehab
open Go Go.RowKit
set_option maxRecDepth 100000 in
set_option maxHeartbeats 3200000 in
theorem fnExactDiskWrite_core (v : Value) (nS : Nat) (S : Nat → ByteArray) (nC : Nat) (A : Nat → Int) (X : Nat → ByteArray) (at_ : Int) (txt : ByteArray) (ht : txt.size ≤ 1048576) (rt : ByteArray) (rc : Int) (rS : Nat) (RS : Nat → ByteArray) (rC : Nat) (RA : Nat → Int) (RX : Nat → ByteArray) (w : World) (hrS : rS ≤ 1048576) (hrC : rC ≤ 1048576)
    (hS : nS ≤ 9223372036854775807) (hC : nC ≤ 9223372036854775807) (hSz : ∀ j, j < nS → (S j).size ≤ 9223372036854775807) (hXz : ∀ j, j < nC → (X j).size ≤ 9223372036854775807)
    (hspec : nS ≤ 1048576 → nC ≤ 1048576 → (∀ j, j < nS → (S j).size ≤ 1048576) → (∀ j, j < nC → (X j).size ≤ 1048576) → ∀ (u : World) (x : Value), dskI u u.heap.size x nS S nC A X → Calls Try.prog 11 #[x, .int .i64 at_, .string txt] u fun e w1 => ∃ so co, e = .returned (.agg #[so, co, .string rt, .int .i64 rc]) ∧ dskV w1 (.agg #[so, co]) u.heap.size w1.heap.size rS (sC RS) rC (wF RA RX) ∧ Below u.heap.size u w1)
    (himp : nS ≤ 1048576 → nC ≤ 1048576 → (∀ j, j < nS → (S j).size ≤ 1048576) → (∀ j, j < nC → (X j).size ≤ 1048576) → ∀ (u : World) (x : Value), dskI u u.heap.size x nS S nC A X → Calls Try.prog 10 #[x, .int .i64 at_, .string txt] u fun e w1 => ∃ so co, e = .returned (.agg #[so, co, .string rt, .int .i64 rc]) ∧ dskV w1 (.agg #[so, co]) u.heap.size w1.heap.size rS (sC RS) rC (wF RA RX) ∧ Below u.heap.size u w1)
    (h : dskI w w.heap.size v nS S nC A X) :
    Calls Try.prog 5 #[v, .int .i64 at_, .string txt] w fun e w' => e = .returned (.bool true) ∧ Below w.heap.size w w' := by
  obtain ⟨sv, cv, rfl, h1, h2⟩ := h
  obtain ⟨sa, sk, e1⟩ : ∃ a c, sv = .slice a nS c := by obtain ⟨a, c, e, _⟩ := h1; exact ⟨a, c, e⟩
  obtain ⟨ca, ck, e2⟩ : ∃ a c, cv = .slice a nC c := by obtain ⟨a, c, e, _⟩ := h2; exact ⟨a, c, e⟩
  subst e1 e2
  have HI := hide (show dskI w w.heap.size (.agg #[.slice sa nS sk, .slice ca nC ck]) nS S nC A X from ⟨_, _, rfl, h1, h2⟩)
  have HZ := hide (And.intro hSz hXz)
  have SP := hide hspec
  have IP := hide himp
  clear h1 h2 hSz hXz hspec himp
  have BB := hide (Below.refl w.heap.size w)
  have dt : decide ((1048576 : Int) < (txt.size : Int)) = false := decide_eq_false (by omega)
  go_enter Try.func5, Try.ntmps5
  have al0 : Below w.heap.size w (w.alloc (.cells #[.slice sa nS sk, .slice ca nC ck] 41)) := (Below.refl _ _).alloc (Nat.le_refl _) _
  have al1 : (w.alloc (.cells #[.slice sa nS sk, .slice ca nC ck] 41)).heap[w.heap.size]? = some (.cells #[.slice sa nS sk, .slice ca nC ck] 41) := heap_alloc_new _ _
  have al2 : w.heap.size < (w.alloc (.cells #[.slice sa nS sk, .slice ca nC ck] 41)).heap.size := by simp
  have AL := hide (And.intro al0 al1)
  clear al0 al1
  go_wp2_with fail
  generalize (w.alloc (.cells #[.slice sa nS sk, .slice ca nC ck] 41)) = w1a at *
  obtain ⟨al0, al1⟩ := AL.out
  replace BB := hide (BB.out.trans (al0.mono (by have := BB.out.size; omega)))
  have LB_d := hide al1
  have hz_w1a := al2
  clear al0 al1 AL al2
  refine (law_szDisk _ nS S nC A X w1a hS hC HZ.out.1 HZ.out.2 1048576 (by omega) (by omega) ((HI.out.below BB.out).wide BB.out.size)).mono ?_
  rintro e w2 ⟨r, rfl, hr, hb⟩
  have hz_w2 := hb.size
  replace LB_d := hide ((hb.block (w.heap.size) (by omega)).trans LB_d.out)
  replace BB := hide (BB.out.trans (hb.mono (by have := BB.out.size; omega)))
  clear hb
  rcases hr with rfl | ⟨hr0, hr1, hz1, hz2⟩
  · have ec_d0 : w2.cell? ⟨w.heap.size, 0, none⟩ = some (.slice sa nS sk) := by have h := LB_d.out; simp [World.cell?, h]
    have ec_d1 : w2.cell? ⟨w.heap.size, 1, none⟩ = some (.slice ca nC ck) := by have h := LB_d.out; simp [World.cell?, h]
    go_wp2_with fail
    go_ret
    exact ⟨rfl, BB.out⟩
  have hr0n : ¬ r < 0 := by omega
  replace hS : nS ≤ 1048576 := by omega
  replace hC : nC ≤ 1048576 := by omega
  replace SP := hide (SP.out hS hC hz1 hz2)
  replace IP := hide (IP.out hS hC hz1 hz2)
  clear hz1 hz2 hr0 hr1
  have ec_d0 : w2.cell? ⟨w.heap.size, 0, none⟩ = some (.slice sa nS sk) := by have h := LB_d.out; simp [World.cell?, h]
  have ec_d1 : w2.cell? ⟨w.heap.size, 1, none⟩ = some (.slice ca nC ck) := by have h := LB_d.out; simp [World.cell?, h]
  go_wp2_with fail
  refine (law_toDisk _ nS S nC A X w2 hS hC ((HI.out.below BB.out).wide BB.out.size)).mono ?_
  rintro e w3 ⟨o, rfl, hd, hb⟩
  obtain ⟨ma, mb, mc, md, eo⟩ := hd.shape
  subst eo
  clear ec_d0 ec_d1
  have hz_w3 := hb.size
  replace LB_d := hide ((hb.block (w.heap.size) (by omega)).trans LB_d.out)
  replace BB := hide (BB.out.trans (hb.mono (by have := BB.out.size; omega)))
  clear hb
  have D_m := hide hd
  clear hd
  have ec_d0 : w3.cell? ⟨w.heap.size, 0, none⟩ = some (.slice sa nS sk) := by have h := LB_d.out; simp [World.cell?, h]
  have ec_d1 : w3.cell? ⟨w.heap.size, 1, none⟩ = some (.slice ca nC ck) := by have h := LB_d.out; simp [World.cell?, h]
  go_wp2_with fail
  refine (SP.out w3 _ (D_m.out.sli)).mono ?_
  rintro e w4 ⟨so, co, rfl, hd, hb⟩
  obtain ⟨waa, wab, wac, wad, eo1, eo2⟩ := hd.shape2
  subst eo1 eo2
  clear ec_d0 ec_d1
  have hz_w4 := hb.size
  replace LB_d := hide ((hb.block (w.heap.size) (by omega)).trans LB_d.out)
  replace D_m := hide (D_m.out.below hb)
  replace BB := hide (BB.out.trans (hb.mono (by have := BB.out.size; omega)))
  clear hb
  have D_wa := hide hd
  clear hd
  have al0 : Below w4.heap.size w4 (w4.alloc (.cells #[.slice waa rS wab, .slice wac rC wad, .string rt, .int .i64 rc] 30)) := (Below.refl _ _).alloc (Nat.le_refl _) _
  have al1 : (w4.alloc (.cells #[.slice waa rS wab, .slice wac rC wad, .string rt, .int .i64 rc] 30)).heap[w4.heap.size]? = some (.cells #[.slice waa rS wab, .slice wac rC wad, .string rt, .int .i64 rc] 30) := heap_alloc_new _ _
  have al2 : w4.heap.size < (w4.alloc (.cells #[.slice waa rS wab, .slice wac rC wad, .string rt, .int .i64 rc] 30)).heap.size := by simp
  have AL := hide (And.intro al0 al1)
  clear al0 al1
  have ed_d0 : (w4.alloc (.cells #[.slice waa rS wab, .slice wac rC wad, .string rt, .int .i64 rc] 30)).cell? ⟨w.heap.size, 0, none⟩ = some (.slice sa nS sk) := by have h := (AL.out.1.block (w.heap.size) (by omega)).trans LB_d.out; simp [World.cell?, h]
  have ed_d1 : (w4.alloc (.cells #[.slice waa rS wab, .slice wac rC wad, .string rt, .int .i64 rc] 30)).cell? ⟨w.heap.size, 1, none⟩ = some (.slice ca nC ck) := by have h := (AL.out.1.block (w.heap.size) (by omega)).trans LB_d.out; simp [World.cell?, h]
  go_wp2_with fail
  generalize (w4.alloc (.cells #[.slice waa rS wab, .slice wac rC wad, .string rt, .int .i64 rc] 30)) = w5a at *
  clear ed_d0 ed_d1
  obtain ⟨al0, al1⟩ := AL.out
  replace LB_d := hide ((al0.block (w.heap.size) (by omega)).trans LB_d.out)
  replace D_wa := hide (D_wa.out.below al0)
  replace BB := hide (BB.out.trans (al0.mono (by have := BB.out.size; omega)))
  have LB_wa := hide al1
  have hz_w5a := al2
  clear al0 al1 AL al2
  refine (law_toDisk _ nS S nC A X w5a hS hC ((HI.out.below BB.out).wide BB.out.size)).mono ?_
  rintro e w6 ⟨o, rfl, hd, hb⟩
  obtain ⟨xa, xb, xc, xd, eo⟩ := hd.shape
  subst eo
  have hz_w6 := hb.size
  replace LB_d := hide ((hb.block (w.heap.size) (by omega)).trans LB_d.out)
  replace LB_wa := hide ((hb.block (w4.heap.size) (by omega)).trans LB_wa.out)
  replace D_wa := hide (D_wa.out.below hb)
  replace BB := hide (BB.out.trans (hb.mono (by have := BB.out.size; omega)))
  clear hb
  have D_x := hide hd
  clear hd
  have al0 : Below w6.heap.size w6 (w6.alloc (.cells #[.slice xa nS xb, .slice xc nC xd] 26)) := (Below.refl _ _).alloc (Nat.le_refl _) _
  have al1 : (w6.alloc (.cells #[.slice xa nS xb, .slice xc nC xd] 26)).heap[w6.heap.size]? = some (.cells #[.slice xa nS xb, .slice xc nC xd] 26) := heap_alloc_new _ _
  have al2 : w6.heap.size < (w6.alloc (.cells #[.slice xa nS xb, .slice xc nC xd] 26)).heap.size := by simp
  have AL := hide (And.intro al0 al1)
  clear al0 al1
  have ed_d0 : (w6.alloc (.cells #[.slice xa nS xb, .slice xc nC xd] 26)).cell? ⟨w.heap.size, 0, none⟩ = some (.slice sa nS sk) := by have h := (AL.out.1.block (w.heap.size) (by omega)).trans LB_d.out; simp [World.cell?, h]
  have ed_d1 : (w6.alloc (.cells #[.slice xa nS xb, .slice xc nC xd] 26)).cell? ⟨w.heap.size, 1, none⟩ = some (.slice ca nC ck) := by have h := (AL.out.1.block (w.heap.size) (by omega)).trans LB_d.out; simp [World.cell?, h]
  have ed_wa0 : (w6.alloc (.cells #[.slice xa nS xb, .slice xc nC xd] 26)).cell? ⟨w4.heap.size, 0, none⟩ = some (.slice waa rS wab) := by have h := (AL.out.1.block (w4.heap.size) (by omega)).trans LB_wa.out; simp [World.cell?, h]
  have ed_wa1 : (w6.alloc (.cells #[.slice xa nS xb, .slice xc nC xd] 26)).cell? ⟨w4.heap.size, 1, none⟩ = some (.slice wac rC wad) := by have h := (AL.out.1.block (w4.heap.size) (by omega)).trans LB_wa.out; simp [World.cell?, h]
  have ed_wa2 : (w6.alloc (.cells #[.slice xa nS xb, .slice xc nC xd] 26)).cell? ⟨w4.heap.size, 2, none⟩ = some (.string rt) := by have h := (AL.out.1.block (w4.heap.size) (by omega)).trans LB_wa.out; simp [World.cell?, h]
  have ed_wa3 : (w6.alloc (.cells #[.slice xa nS xb, .slice xc nC xd] 26)).cell? ⟨w4.heap.size, 3, none⟩ = some (.int .i64 rc) := by have h := (AL.out.1.block (w4.heap.size) (by omega)).trans LB_wa.out; simp [World.cell?, h]
  go_wp2_with fail
  generalize (w6.alloc (.cells #[.slice xa nS xb, .slice xc nC xd] 26)) = w7a at *
  clear ed_d0 ed_d1 ed_wa0 ed_wa1 ed_wa2 ed_wa3
  obtain ⟨al0, al1⟩ := AL.out
  replace LB_d := hide ((al0.block (w.heap.size) (by omega)).trans LB_d.out)
  replace LB_wa := hide ((al0.block (w4.heap.size) (by omega)).trans LB_wa.out)
  replace D_wa := hide (D_wa.out.below al0)
  replace D_x := hide (D_x.out.below al0)
  replace BB := hide (BB.out.trans (al0.mono (by have := BB.out.size; omega)))
  have LB_x := hide al1
  have hz_w7a := al2
  clear al0 al1 AL al2
  refine (IP.out w7a _ (D_x.out.sli)).mono ?_
  rintro e w8 ⟨so, co, rfl, hd, hb⟩
  obtain ⟨gaa, gab, gac, gad, eo1, eo2⟩ := hd.shape2
  subst eo1 eo2
  have hz_w8 := hb.size
  replace LB_d := hide ((hb.block (w.heap.size) (by omega)).trans LB_d.out)
  replace LB_wa := hide ((hb.block (w4.heap.size) (by omega)).trans LB_wa.out)
  replace LB_x := hide ((hb.block (w6.heap.size) (by omega)).trans LB_x.out)
  replace D_wa := hide (D_wa.out.below hb)
  replace D_x := hide (D_x.out.below hb)
  replace BB := hide (BB.out.trans (hb.mono (by have := BB.out.size; omega)))
  clear hb
  have D_ga := hide hd
  clear hd
  have al0 : Below w8.heap.size w8 (w8.alloc (.cells #[.slice gaa rS gab, .slice gac rC gad, .string rt, .int .i64 rc] 30)) := (Below.refl _ _).alloc (Nat.le_refl _) _
  have al1 : (w8.alloc (.cells #[.slice gaa rS gab, .slice gac rC gad, .string rt, .int .i64 rc] 30)).heap[w8.heap.size]? = some (.cells #[.slice gaa rS gab, .slice gac rC gad, .string rt, .int .i64 rc] 30) := heap_alloc_new _ _
  have al2 : w8.heap.size < (w8.alloc (.cells #[.slice gaa rS gab, .slice gac rC gad, .string rt, .int .i64 rc] 30)).heap.size := by simp
  have AL := hide (And.intro al0 al1)
  clear al0 al1
  have ed_d0 : (w8.alloc (.cells #[.slice gaa rS gab, .slice gac rC gad, .string rt, .int .i64 rc] 30)).cell? ⟨w.heap.size, 0, none⟩ = some (.slice sa nS sk) := by have h := (AL.out.1.block (w.heap.size) (by omega)).trans LB_d.out; simp [World.cell?, h]
  have ed_d1 : (w8.alloc (.cells #[.slice gaa rS gab, .slice gac rC gad, .string rt, .int .i64 rc] 30)).cell? ⟨w.heap.size, 1, none⟩ = some (.slice ca nC ck) := by have h := (AL.out.1.block (w.heap.size) (by omega)).trans LB_d.out; simp [World.cell?, h]
  have ed_wa0 : (w8.alloc (.cells #[.slice gaa rS gab, .slice gac rC gad, .string rt, .int .i64 rc] 30)).cell? ⟨w4.heap.size, 0, none⟩ = some (.slice waa rS wab) := by have h := (AL.out.1.block (w4.heap.size) (by omega)).trans LB_wa.out; simp [World.cell?, h]
  have ed_wa1 : (w8.alloc (.cells #[.slice gaa rS gab, .slice gac rC gad, .string rt, .int .i64 rc] 30)).cell? ⟨w4.heap.size, 1, none⟩ = some (.slice wac rC wad) := by have h := (AL.out.1.block (w4.heap.size) (by omega)).trans LB_wa.out; simp [World.cell?, h]
  have ed_wa2 : (w8.alloc (.cells #[.slice gaa rS gab, .slice gac rC gad, .string rt, .int .i64 rc] 30)).cell? ⟨w4.heap.size, 2, none⟩ = some (.string rt) := by have h := (AL.out.1.block (w4.heap.size) (by omega)).trans LB_wa.out; simp [World.cell?, h]
  have ed_wa3 : (w8.alloc (.cells #[.slice gaa rS gab, .slice gac rC gad, .string rt, .int .i64 rc] 30)).cell? ⟨w4.heap.size, 3, none⟩ = some (.int .i64 rc) := by have h := (AL.out.1.block (w4.heap.size) (by omega)).trans LB_wa.out; simp [World.cell?, h]
  have ed_x0 : (w8.alloc (.cells #[.slice gaa rS gab, .slice gac rC gad, .string rt, .int .i64 rc] 30)).cell? ⟨w6.heap.size, 0, none⟩ = some (.slice xa nS xb) := by have h := (AL.out.1.block (w6.heap.size) (by omega)).trans LB_x.out; simp [World.cell?, h]
  have ed_x1 : (w8.alloc (.cells #[.slice gaa rS gab, .slice gac rC gad, .string rt, .int .i64 rc] 30)).cell? ⟨w6.heap.size, 1, none⟩ = some (.slice xc nC xd) := by have h := (AL.out.1.block (w6.heap.size) (by omega)).trans LB_x.out; simp [World.cell?, h]
  go_wp2_with fail
  generalize (w8.alloc (.cells #[.slice gaa rS gab, .slice gac rC gad, .string rt, .int .i64 rc] 30)) = w9a at *
  clear ed_d0 ed_d1 ed_wa0 ed_wa1 ed_wa2 ed_wa3 ed_x0 ed_x1
  obtain ⟨al0, al1⟩ := AL.out
  replace LB_d := hide ((al0.block (w.heap.size) (by omega)).trans LB_d.out)
  replace LB_wa := hide ((al0.block (w4.heap.size) (by omega)).trans LB_wa.out)
  replace LB_x := hide ((al0.block (w6.heap.size) (by omega)).trans LB_x.out)
  replace D_wa := hide (D_wa.out.below al0)
  replace D_x := hide (D_x.out.below al0)
  replace D_ga := hide (D_ga.out.below al0)
  replace BB := hide (BB.out.trans (al0.mono (by have := BB.out.size; omega)))
  have LB_ga := hide al1
  have hz_w9a := al2
  clear al0 al1 AL al2
  refine (law_eqDiskOut _ _ _ _ rt rc _ _ _ _ rS RS rC RA RX w9a hrS hrC D_ga.out D_wa.out).mono ?_
  rintro e w10 ⟨rfl, hb⟩
  have hz_w10 := hb.size
  replace LB_d := hide ((hb.block (w.heap.size) (by omega)).trans LB_d.out)
  replace LB_wa := hide ((hb.block (w4.heap.size) (by omega)).trans LB_wa.out)
  replace LB_x := hide ((hb.block (w6.heap.size) (by omega)).trans LB_x.out)
  replace LB_ga := hide ((hb.block (w8.heap.size) (by omega)).trans LB_ga.out)
  replace D_wa := hide (D_wa.out.below hb)
  replace D_x := hide (D_x.out.below hb)
  replace D_ga := hide (D_ga.out.below hb)
  replace BB := hide (BB.out.trans (hb.mono (by have := BB.out.size; omega)))
  clear hb
  have ec_d0 : w10.cell? ⟨w.heap.size, 0, none⟩ = some (.slice sa nS sk) := by have h := LB_d.out; simp [World.cell?, h]
  have ec_d1 : w10.cell? ⟨w.heap.size, 1, none⟩ = some (.slice ca nC ck) := by have h := LB_d.out; simp [World.cell?, h]
  have ec_wa0 : w10.cell? ⟨w4.heap.size, 0, none⟩ = some (.slice waa rS wab) := by have h := LB_wa.out; simp [World.cell?, h]
  have ec_wa1 : w10.cell? ⟨w4.heap.size, 1, none⟩ = some (.slice wac rC wad) := by have h := LB_wa.out; simp [World.cell?, h]
  have ec_wa2 : w10.cell? ⟨w4.heap.size, 2, none⟩ = some (.string rt) := by have h := LB_wa.out; simp [World.cell?, h]
  have ec_wa3 : w10.cell? ⟨w4.heap.size, 3, none⟩ = some (.int .i64 rc) := by have h := LB_wa.out; simp [World.cell?, h]
  have ec_x0 : w10.cell? ⟨w6.heap.size, 0, none⟩ = some (.slice xa nS xb) := by have h := LB_x.out; simp [World.cell?, h]
  have ec_x1 : w10.cell? ⟨w6.heap.size, 1, none⟩ = some (.slice xc nC xd) := by have h := LB_x.out; simp [World.cell?, h]
  have ec_ga0 : w10.cell? ⟨w8.heap.size, 0, none⟩ = some (.slice gaa rS gab) := by have h := LB_ga.out; simp [World.cell?, h]
  have ec_ga1 : w10.cell? ⟨w8.heap.size, 1, none⟩ = some (.slice gac rC gad) := by have h := LB_ga.out; simp [World.cell?, h]
  have ec_ga2 : w10.cell? ⟨w8.heap.size, 2, none⟩ = some (.string rt) := by have h := LB_ga.out; simp [World.cell?, h]
  have ec_ga3 : w10.cell? ⟨w8.heap.size, 3, none⟩ = some (.int .i64 rc) := by have h := LB_ga.out; simp [World.cell?, h]
  go_wp2_with fail
  have SA : ∀ u : World, Below w10.heap.size w10 u → u.cell? ⟨w6.heap.size, 0, none⟩ = some (.slice xa nS xb) ∧ u.cell? ⟨w6.heap.size, 1, none⟩ = some (.slice xc nC xd) ∧ u.cell? ⟨w.heap.size, 0, none⟩ = some (.slice sa nS sk) ∧ u.cell? ⟨w.heap.size, 1, none⟩ = some (.slice ca nC ck) := fun u hu => by
    have hx := (hu.block (w6.heap.size) (by omega)).trans LB_x.out
    have hd := (hu.block (w.heap.size) (by omega)).trans LB_d.out
    exact ⟨by simp [World.cell?, hx], by simp [World.cell?, hx], by simp [World.cell?, hd], by simp [World.cell?, hd]⟩
  clear ec_d0 ec_d1 ec_wa0 ec_wa1 ec_wa2 ec_wa3 ec_x0 ec_x1 ec_ga0 ec_ga1 ec_ga2 ec_ga3
  refine wp_region_held_drew (S := fun u => u.cell? ⟨w6.heap.size, 0, none⟩ = some (.slice xa nS xb) ∧ u.cell? ⟨w6.heap.size, 1, none⟩ = some (.slice xc nC xd) ∧ u.cell? ⟨w.heap.size, 0, none⟩ = some (.slice sa nS sk) ∧ u.cell? ⟨w.heap.size, 1, none⟩ = some (.slice ca nC ck)) (by kernel_rfl) (SA _ (Below.refl _ _).drew) (fun hHeld => ?_)
  refine takeD (i := 0) (v := .agg #[.slice xa nS xb, .slice xc nC xd]) (some 38) rfl rfl (by kernel_rfl) (by kernel_rfl) (by kernel_rfl) (fun _ _ _ h => h) (Or.inl ⟨by rfl, fun w hSw => by obtain ⟨s0, s1, s2, s3⟩ := hSw; go_simp⟩) hHeld ?_
  simp only [Act.put, List.setIfInBounds_toArray, List.set_cons_zero, List.set_cons_succ]
  refine takeD (i := 1) (v := .agg #[.slice sa nS sk, .slice ca nC ck]) (some 39) rfl rfl (by kernel_rfl) (by kernel_rfl) (by kernel_rfl) (fun _ _ _ h => h) (Or.inl ⟨by rfl, fun w hSw => by obtain ⟨s0, s1, s2, s3⟩ := hSw; go_simp⟩) hHeld ?_
  simp only [Act.put, List.setIfInBounds_toArray, List.set_cons_zero, List.set_cons_succ]
  refine wpAnyH_ready (rs := [2]) (by kernel_rfl) (by simp) ?_
  refine AllReadyH.cons rfl (fun KK hK => ?_) AllReadyH.nil
  go_simp
  refine (law_toDisk _ nS S nC A X w10.drew hS hC ((HI.out.below BB.out.drew).wide BB.out.size)).mono ?_
  rintro e w11 ⟨o, rfl, hd, hb⟩
  obtain ⟨ya, yb, yc, yd, eo⟩ := hd.shape
  subst eo
  have b1 : Below w10.heap.size w10 w11 := (Below.refl _ _).drew.trans hb
  have hz_w11 := b1.size
  have DY := hide hd
  clear hd hb
  go_wp2_with fail
  refine hK.out _ _ (SA _ b1) (fun hHeld => ?_)
  clear hK KK
  refine wpAnyH_ready (rs := [3]) (by kernel_rfl) (by simp) ?_
  refine AllReadyH.cons rfl (fun KK hK => ?_) AllReadyH.nil
  go_simp
  refine (law_eqDisk _ _ _ _ _ _ nS S nC A X w11 hS hC (D_x.out.below b1) DY.out).mono ?_
  rintro e w12 ⟨rfl, hb⟩
  have b2 := b1.trans (hb.mono hz_w11)
  clear hb DY
  go_wp2_with fail
  refine hK.out _ _ (SA _ b2) (fun hHeld => ?_)
  clear hK KK
  refine takeD (i := 4) (v := .bool false) (some 42) rfl rfl (by kernel_rfl) (by kernel_rfl) (by kernel_rfl) (fun _ _ _ h => h) (Or.inl ⟨by rfl, fun w hSw => by go_simp⟩) hHeld ?_
  simp only [Act.put, List.setIfInBounds_toArray, List.set_cons_zero, List.set_cons_succ]
  refine wpAnyH_done (by kernel_rfl) ?_ _
  have hz_w12 := b2.size
  replace LB_d := hide ((b2.block (w.heap.size) (by omega)).trans LB_d.out)
  replace LB_wa := hide ((b2.block (w4.heap.size) (by omega)).trans LB_wa.out)
  replace LB_x := hide ((b2.block (w6.heap.size) (by omega)).trans LB_x.out)
  replace LB_ga := hide ((b2.block (w8.heap.size) (by omega)).trans LB_ga.out)
  replace D_wa := hide (D_wa.out.below b2)
  replace D_x := hide (D_x.out.below b2)
  replace D_ga := hide (D_ga.out.below b2)
  replace BB := hide (BB.out.trans (b2.mono (by have := BB.out.size; omega)))
  clear b1 b2 SA hHeld
  have ec_d0 : w12.cell? ⟨w.heap.size, 0, none⟩ = some (.slice sa nS sk) := by have h := LB_d.out; simp [World.cell?, h]
  have ec_d1 : w12.cell? ⟨w.heap.size, 1, none⟩ = some (.slice ca nC ck) := by have h := LB_d.out; simp [World.cell?, h]
  have ec_wa0 : w12.cell? ⟨w4.heap.size, 0, none⟩ = some (.slice waa rS wab) := by have h := LB_wa.out; simp [World.cell?, h]
  have ec_wa1 : w12.cell? ⟨w4.heap.size, 1, none⟩ = some (.slice wac rC wad) := by have h := LB_wa.out; simp [World.cell?, h]
  have ec_wa2 : w12.cell? ⟨w4.heap.size, 2, none⟩ = some (.string rt) := by have h := LB_wa.out; simp [World.cell?, h]
  have ec_wa3 : w12.cell? ⟨w4.heap.size, 3, none⟩ = some (.int .i64 rc) := by have h := LB_wa.out; simp [World.cell?, h]
  have ec_x0 : w12.cell? ⟨w6.heap.size, 0, none⟩ = some (.slice xa nS xb) := by have h := LB_x.out; simp [World.cell?, h]
  have ec_x1 : w12.cell? ⟨w6.heap.size, 1, none⟩ = some (.slice xc nC xd) := by have h := LB_x.out; simp [World.cell?, h]
  have ec_ga0 : w12.cell? ⟨w8.heap.size, 0, none⟩ = some (.slice gaa rS gab) := by have h := LB_ga.out; simp [World.cell?, h]
  have ec_ga1 : w12.cell? ⟨w8.heap.size, 1, none⟩ = some (.slice gac rC gad) := by have h := LB_ga.out; simp [World.cell?, h]
  have ec_ga2 : w12.cell? ⟨w8.heap.size, 2, none⟩ = some (.string rt) := by have h := LB_ga.out; simp [World.cell?, h]
  have ec_ga3 : w12.cell? ⟨w8.heap.size, 3, none⟩ = some (.int .i64 rc) := by have h := LB_ga.out; simp [World.cell?, h]
  go_wp2_with fail
  refine (law_markDisk _ (w5a.heap.size) (w6.heap.size) nS S nC _ 1 w12 hS hC (by omega) (by omega) D_x.out).mono ?_
  rintro e w13 ⟨rfl, hm, ho⟩
  clear ec_d0 ec_d1 ec_wa0 ec_wa1 ec_wa2 ec_wa3 ec_x0 ec_x1 ec_ga0 ec_ga1 ec_ga2 ec_ga3
  have hz_w13 := ho.size
  replace LB_d := hide ((ho.block (w.heap.size) (by omega) (by omega)).trans LB_d.out)
  replace LB_wa := hide ((ho.block (w4.heap.size) (by omega) (by omega)).trans LB_wa.out)
  replace LB_x := hide ((ho.block (w6.heap.size) (by omega) (by omega)).trans LB_x.out)
  replace LB_ga := hide ((ho.block (w8.heap.size) (by omega) (by omega)).trans LB_ga.out)
  replace D_wa := hide (D_wa.out.only ho (by omega))
  replace D_ga := hide (D_ga.out.only ho (by omega))
  replace BB := hide (BB.out.trans (ho.below (by omega) |>.mono (by omega)))
  clear hm
  clear ho
  obtain ⟨kx, hkx⟩ : ∃ kx, kx = 1 + nS + 2 * nC := ⟨_, rfl⟩
  rw [← hkx]
  have hkx0 : ¬ (kx : Int) < 0 := by omega
  have hkx2 : kx ≤ 4194304 := by omega
  clear hkx
  have ec_d0 : w13.cell? ⟨w.heap.size, 0, none⟩ = some (.slice sa nS sk) := by have h := LB_d.out; simp [World.cell?, h]
  have ec_d1 : w13.cell? ⟨w.heap.size, 1, none⟩ = some (.slice ca nC ck) := by have h := LB_d.out; simp [World.cell?, h]
  have ec_wa0 : w13.cell? ⟨w4.heap.size, 0, none⟩ = some (.slice waa rS wab) := by have h := LB_wa.out; simp [World.cell?, h]
  have ec_wa1 : w13.cell? ⟨w4.heap.size, 1, none⟩ = some (.slice wac rC wad) := by have h := LB_wa.out; simp [World.cell?, h]
  have ec_wa2 : w13.cell? ⟨w4.heap.size, 2, none⟩ = some (.string rt) := by have h := LB_wa.out; simp [World.cell?, h]
  have ec_wa3 : w13.cell? ⟨w4.heap.size, 3, none⟩ = some (.int .i64 rc) := by have h := LB_wa.out; simp [World.cell?, h]
  have ec_x0 : w13.cell? ⟨w6.heap.size, 0, none⟩ = some (.slice xa nS xb) := by have h := LB_x.out; simp [World.cell?, h]
  have ec_x1 : w13.cell? ⟨w6.heap.size, 1, none⟩ = some (.slice xc nC xd) := by have h := LB_x.out; simp [World.cell?, h]
  have ec_ga0 : w13.cell? ⟨w8.heap.size, 0, none⟩ = some (.slice gaa rS gab) := by have h := LB_ga.out; simp [World.cell?, h]
  have ec_ga1 : w13.cell? ⟨w8.heap.size, 1, none⟩ = some (.slice gac rC gad) := by have h := LB_ga.out; simp [World.cell?, h]
  have ec_ga2 : w13.cell? ⟨w8.heap.size, 2, none⟩ = some (.string rt) := by have h := LB_ga.out; simp [World.cell?, h]
  have ec_ga3 : w13.cell? ⟨w8.heap.size, 3, none⟩ = some (.int .i64 rc) := by have h := LB_ga.out; simp [World.cell?, h]
  go_wp2_with fail
  refine (law_eqDiskOut _ _ _ _ rt rc _ _ _ _ rS RS rC RA RX w13 hrS hrC D_ga.out D_wa.out).mono ?_
  rintro e w14 ⟨rfl, hb⟩
  clear ec_d0 ec_d1 ec_wa0 ec_wa1 ec_wa2 ec_wa3 ec_x0 ec_x1 ec_ga0 ec_ga1 ec_ga2 ec_ga3
  have hz_w14 := hb.size
  replace LB_d := hide ((hb.block (w.heap.size) (by omega)).trans LB_d.out)
  replace LB_wa := hide ((hb.block (w4.heap.size) (by omega)).trans LB_wa.out)
  replace LB_x := hide ((hb.block (w6.heap.size) (by omega)).trans LB_x.out)
  replace LB_ga := hide ((hb.block (w8.heap.size) (by omega)).trans LB_ga.out)
  replace D_wa := hide (D_wa.out.below hb)
  replace D_ga := hide (D_ga.out.below hb)
  replace BB := hide (BB.out.trans (hb.mono (by have := BB.out.size; omega)))
  clear hb
  have ec_d0 : w14.cell? ⟨w.heap.size, 0, none⟩ = some (.slice sa nS sk) := by have h := LB_d.out; simp [World.cell?, h]
  have ec_d1 : w14.cell? ⟨w.heap.size, 1, none⟩ = some (.slice ca nC ck) := by have h := LB_d.out; simp [World.cell?, h]
  have ec_wa0 : w14.cell? ⟨w4.heap.size, 0, none⟩ = some (.slice waa rS wab) := by have h := LB_wa.out; simp [World.cell?, h]
  have ec_wa1 : w14.cell? ⟨w4.heap.size, 1, none⟩ = some (.slice wac rC wad) := by have h := LB_wa.out; simp [World.cell?, h]
  have ec_wa2 : w14.cell? ⟨w4.heap.size, 2, none⟩ = some (.string rt) := by have h := LB_wa.out; simp [World.cell?, h]
  have ec_wa3 : w14.cell? ⟨w4.heap.size, 3, none⟩ = some (.int .i64 rc) := by have h := LB_wa.out; simp [World.cell?, h]
  have ec_x0 : w14.cell? ⟨w6.heap.size, 0, none⟩ = some (.slice xa nS xb) := by have h := LB_x.out; simp [World.cell?, h]
  have ec_x1 : w14.cell? ⟨w6.heap.size, 1, none⟩ = some (.slice xc nC xd) := by have h := LB_x.out; simp [World.cell?, h]
  have ec_ga0 : w14.cell? ⟨w8.heap.size, 0, none⟩ = some (.slice gaa rS gab) := by have h := LB_ga.out; simp [World.cell?, h]
  have ec_ga1 : w14.cell? ⟨w8.heap.size, 1, none⟩ = some (.slice gac rC gad) := by have h := LB_ga.out; simp [World.cell?, h]
  have ec_ga2 : w14.cell? ⟨w8.heap.size, 2, none⟩ = some (.string rt) := by have h := LB_ga.out; simp [World.cell?, h]
  have ec_ga3 : w14.cell? ⟨w8.heap.size, 3, none⟩ = some (.int .i64 rc) := by have h := LB_ga.out; simp [World.cell?, h]
  go_wp2_with fail
  refine (law_markDiskOut _ _ rt rc (w7a.heap.size) (w8.heap.size) rS RS rC _ 1 w14 hrS hrC (by omega) (by omega) D_ga.out).mono ?_
  rintro e w15 ⟨rfl, hm, ho⟩
  clear ec_d0 ec_d1 ec_wa0 ec_wa1 ec_wa2 ec_wa3 ec_x0 ec_x1 ec_ga0 ec_ga1 ec_ga2 ec_ga3
  have hz_w15 := ho.size
  replace LB_d := hide ((ho.block (w.heap.size) (by omega) (by omega)).trans LB_d.out)
  replace LB_wa := hide ((ho.block (w4.heap.size) (by omega) (by omega)).trans LB_wa.out)
  replace LB_x := hide ((ho.block (w6.heap.size) (by omega) (by omega)).trans LB_x.out)
  replace LB_ga := hide ((ho.block (w8.heap.size) (by omega) (by omega)).trans LB_ga.out)
  replace D_wa := hide (D_wa.out.only ho (by omega))
  replace BB := hide (BB.out.trans (ho.below (by omega) |>.mono (by omega)))
  have D_MV := hide hm
  clear hm
  clear ho
  obtain ⟨q, hq⟩ : ∃ q, q = 1 + rS + 2 * rC := ⟨_, rfl⟩
  have HQ := hide hq
  rw [← hq]
  have hq0 : ¬ (q : Int) < 0 := by omega
  clear hq
  have ec_d0 : w15.cell? ⟨w.heap.size, 0, none⟩ = some (.slice sa nS sk) := by have h := LB_d.out; simp [World.cell?, h]
  have ec_d1 : w15.cell? ⟨w.heap.size, 1, none⟩ = some (.slice ca nC ck) := by have h := LB_d.out; simp [World.cell?, h]
  have ec_wa0 : w15.cell? ⟨w4.heap.size, 0, none⟩ = some (.slice waa rS wab) := by have h := LB_wa.out; simp [World.cell?, h]
  have ec_wa1 : w15.cell? ⟨w4.heap.size, 1, none⟩ = some (.slice wac rC wad) := by have h := LB_wa.out; simp [World.cell?, h]
  have ec_wa2 : w15.cell? ⟨w4.heap.size, 2, none⟩ = some (.string rt) := by have h := LB_wa.out; simp [World.cell?, h]
  have ec_wa3 : w15.cell? ⟨w4.heap.size, 3, none⟩ = some (.int .i64 rc) := by have h := LB_wa.out; simp [World.cell?, h]
  have ec_x0 : w15.cell? ⟨w6.heap.size, 0, none⟩ = some (.slice xa nS xb) := by have h := LB_x.out; simp [World.cell?, h]
  have ec_x1 : w15.cell? ⟨w6.heap.size, 1, none⟩ = some (.slice xc nC xd) := by have h := LB_x.out; simp [World.cell?, h]
  have ec_ga0 : w15.cell? ⟨w8.heap.size, 0, none⟩ = some (.slice gaa rS gab) := by have h := LB_ga.out; simp [World.cell?, h]
  have ec_ga1 : w15.cell? ⟨w8.heap.size, 1, none⟩ = some (.slice gac rC gad) := by have h := LB_ga.out; simp [World.cell?, h]
  have ec_ga2 : w15.cell? ⟨w8.heap.size, 2, none⟩ = some (.string rt) := by have h := LB_ga.out; simp [World.cell?, h]
  have ec_ga3 : w15.cell? ⟨w8.heap.size, 3, none⟩ = some (.int .i64 rc) := by have h := LB_ga.out; simp [World.cell?, h]
  go_wp2_with fail
  refine (law_heldDiskOut _ _ rt rc (w7a.heap.size) (w8.heap.size) rS rC 1 w15 hrS hrC (by omega) D_MV.out).mono ?_
  rintro e w16 ⟨rfl, hb⟩
  rw [← HQ.out]
  clear ec_d0 ec_d1 ec_wa0 ec_wa1 ec_wa2 ec_wa3 ec_x0 ec_x1 ec_ga0 ec_ga1 ec_ga2 ec_ga3
  have hz_w16 := hb.size
  replace LB_d := hide ((hb.block (w.heap.size) (by omega)).trans LB_d.out)
  replace LB_wa := hide ((hb.block (w4.heap.size) (by omega)).trans LB_wa.out)
  replace LB_x := hide ((hb.block (w6.heap.size) (by omega)).trans LB_x.out)
  replace LB_ga := hide ((hb.block (w8.heap.size) (by omega)).trans LB_ga.out)
  replace D_wa := hide (D_wa.out.below hb)
  replace D_MV := hide (D_MV.out.below hb)
  replace BB := hide (BB.out.trans (hb.mono (by have := BB.out.size; omega)))
  clear hb
  have ec_d0 : w16.cell? ⟨w.heap.size, 0, none⟩ = some (.slice sa nS sk) := by have h := LB_d.out; simp [World.cell?, h]
  have ec_d1 : w16.cell? ⟨w.heap.size, 1, none⟩ = some (.slice ca nC ck) := by have h := LB_d.out; simp [World.cell?, h]
  have ec_wa0 : w16.cell? ⟨w4.heap.size, 0, none⟩ = some (.slice waa rS wab) := by have h := LB_wa.out; simp [World.cell?, h]
  have ec_wa1 : w16.cell? ⟨w4.heap.size, 1, none⟩ = some (.slice wac rC wad) := by have h := LB_wa.out; simp [World.cell?, h]
  have ec_wa2 : w16.cell? ⟨w4.heap.size, 2, none⟩ = some (.string rt) := by have h := LB_wa.out; simp [World.cell?, h]
  have ec_wa3 : w16.cell? ⟨w4.heap.size, 3, none⟩ = some (.int .i64 rc) := by have h := LB_wa.out; simp [World.cell?, h]
  have ec_x0 : w16.cell? ⟨w6.heap.size, 0, none⟩ = some (.slice xa nS xb) := by have h := LB_x.out; simp [World.cell?, h]
  have ec_x1 : w16.cell? ⟨w6.heap.size, 1, none⟩ = some (.slice xc nC xd) := by have h := LB_x.out; simp [World.cell?, h]
  have ec_ga0 : w16.cell? ⟨w8.heap.size, 0, none⟩ = some (.slice gaa rS gab) := by have h := LB_ga.out; simp [World.cell?, h]
  have ec_ga1 : w16.cell? ⟨w8.heap.size, 1, none⟩ = some (.slice gac rC gad) := by have h := LB_ga.out; simp [World.cell?, h]
  have ec_ga2 : w16.cell? ⟨w8.heap.size, 2, none⟩ = some (.string rt) := by have h := LB_ga.out; simp [World.cell?, h]
  have ec_ga3 : w16.cell? ⟨w8.heap.size, 3, none⟩ = some (.int .i64 rc) := by have h := LB_ga.out; simp [World.cell?, h]
  go_wp2_with fail
  refine (law_toDisk _ nS S nC A X w16 hS hC ((HI.out.below BB.out).wide BB.out.size)).mono ?_
  rintro e w17 ⟨o, rfl, hd, hb⟩
  obtain ⟨za, zb, zc, zd, eo⟩ := hd.shape
  subst eo
  clear ec_d0 ec_d1 ec_wa0 ec_wa1 ec_wa2 ec_wa3 ec_x0 ec_x1 ec_ga0 ec_ga1 ec_ga2 ec_ga3
  have hz_w17 := hb.size
  replace LB_d := hide ((hb.block (w.heap.size) (by omega)).trans LB_d.out)
  replace LB_wa := hide ((hb.block (w4.heap.size) (by omega)).trans LB_wa.out)
  replace LB_x := hide ((hb.block (w6.heap.size) (by omega)).trans LB_x.out)
  replace LB_ga := hide ((hb.block (w8.heap.size) (by omega)).trans LB_ga.out)
  replace D_wa := hide (D_wa.out.below hb)
  replace D_MV := hide (D_MV.out.below hb)
  replace BB := hide (BB.out.trans (hb.mono (by have := BB.out.size; omega)))
  clear hb
  have D_z := hide hd
  clear hd
  have ec_d0 : w17.cell? ⟨w.heap.size, 0, none⟩ = some (.slice sa nS sk) := by have h := LB_d.out; simp [World.cell?, h]
  have ec_d1 : w17.cell? ⟨w.heap.size, 1, none⟩ = some (.slice ca nC ck) := by have h := LB_d.out; simp [World.cell?, h]
  have ec_wa0 : w17.cell? ⟨w4.heap.size, 0, none⟩ = some (.slice waa rS wab) := by have h := LB_wa.out; simp [World.cell?, h]
  have ec_wa1 : w17.cell? ⟨w4.heap.size, 1, none⟩ = some (.slice wac rC wad) := by have h := LB_wa.out; simp [World.cell?, h]
  have ec_wa2 : w17.cell? ⟨w4.heap.size, 2, none⟩ = some (.string rt) := by have h := LB_wa.out; simp [World.cell?, h]
  have ec_wa3 : w17.cell? ⟨w4.heap.size, 3, none⟩ = some (.int .i64 rc) := by have h := LB_wa.out; simp [World.cell?, h]
  have ec_x0 : w17.cell? ⟨w6.heap.size, 0, none⟩ = some (.slice xa nS xb) := by have h := LB_x.out; simp [World.cell?, h]
  have ec_x1 : w17.cell? ⟨w6.heap.size, 1, none⟩ = some (.slice xc nC xd) := by have h := LB_x.out; simp [World.cell?, h]
  have ec_ga0 : w17.cell? ⟨w8.heap.size, 0, none⟩ = some (.slice gaa rS gab) := by have h := LB_ga.out; simp [World.cell?, h]
  have ec_ga1 : w17.cell? ⟨w8.heap.size, 1, none⟩ = some (.slice gac rC gad) := by have h := LB_ga.out; simp [World.cell?, h]
  have ec_ga2 : w17.cell? ⟨w8.heap.size, 2, none⟩ = some (.string rt) := by have h := LB_ga.out; simp [World.cell?, h]
  have ec_ga3 : w17.cell? ⟨w8.heap.size, 3, none⟩ = some (.int .i64 rc) := by have h := LB_ga.out; simp [World.cell?, h]
  go_wp2_with fail
  refine (IP.out w17 _ (D_z.out.sli)).mono ?_
  rintro e w18 ⟨so, co, rfl, hd, hb⟩
  obtain ⟨haa, hab, hac, had, eo1, eo2⟩ := hd.shape2
  subst eo1 eo2
  clear ec_d0 ec_d1 ec_wa0 ec_wa1 ec_wa2 ec_wa3 ec_x0 ec_x1 ec_ga0 ec_ga1 ec_ga2 ec_ga3
  have hz_w18 := hb.size
  replace LB_d := hide ((hb.block (w.heap.size) (by omega)).trans LB_d.out)
  replace LB_wa := hide ((hb.block (w4.heap.size) (by omega)).trans LB_wa.out)
  replace LB_x := hide ((hb.block (w6.heap.size) (by omega)).trans LB_x.out)
  replace LB_ga := hide ((hb.block (w8.heap.size) (by omega)).trans LB_ga.out)
  replace D_wa := hide (D_wa.out.below hb)
  replace D_MV := hide (D_MV.out.below hb)
  replace D_z := hide (D_z.out.below hb)
  replace BB := hide (BB.out.trans (hb.mono (by have := BB.out.size; omega)))
  clear hb
  have D_ha := hide hd
  clear hd
  have al0 : Below w18.heap.size w18 (w18.alloc (.cells #[.slice haa rS hab, .slice hac rC had, .string rt, .int .i64 rc] 30)) := (Below.refl _ _).alloc (Nat.le_refl _) _
  have al1 : (w18.alloc (.cells #[.slice haa rS hab, .slice hac rC had, .string rt, .int .i64 rc] 30)).heap[w18.heap.size]? = some (.cells #[.slice haa rS hab, .slice hac rC had, .string rt, .int .i64 rc] 30) := heap_alloc_new _ _
  have al2 : w18.heap.size < (w18.alloc (.cells #[.slice haa rS hab, .slice hac rC had, .string rt, .int .i64 rc] 30)).heap.size := by simp
  have AL := hide (And.intro al0 al1)
  clear al0 al1
  have ed_d0 : (w18.alloc (.cells #[.slice haa rS hab, .slice hac rC had, .string rt, .int .i64 rc] 30)).cell? ⟨w.heap.size, 0, none⟩ = some (.slice sa nS sk) := by have h := (AL.out.1.block (w.heap.size) (by omega)).trans LB_d.out; simp [World.cell?, h]
  have ed_d1 : (w18.alloc (.cells #[.slice haa rS hab, .slice hac rC had, .string rt, .int .i64 rc] 30)).cell? ⟨w.heap.size, 1, none⟩ = some (.slice ca nC ck) := by have h := (AL.out.1.block (w.heap.size) (by omega)).trans LB_d.out; simp [World.cell?, h]
  have ed_wa0 : (w18.alloc (.cells #[.slice haa rS hab, .slice hac rC had, .string rt, .int .i64 rc] 30)).cell? ⟨w4.heap.size, 0, none⟩ = some (.slice waa rS wab) := by have h := (AL.out.1.block (w4.heap.size) (by omega)).trans LB_wa.out; simp [World.cell?, h]
  have ed_wa1 : (w18.alloc (.cells #[.slice haa rS hab, .slice hac rC had, .string rt, .int .i64 rc] 30)).cell? ⟨w4.heap.size, 1, none⟩ = some (.slice wac rC wad) := by have h := (AL.out.1.block (w4.heap.size) (by omega)).trans LB_wa.out; simp [World.cell?, h]
  have ed_wa2 : (w18.alloc (.cells #[.slice haa rS hab, .slice hac rC had, .string rt, .int .i64 rc] 30)).cell? ⟨w4.heap.size, 2, none⟩ = some (.string rt) := by have h := (AL.out.1.block (w4.heap.size) (by omega)).trans LB_wa.out; simp [World.cell?, h]
  have ed_wa3 : (w18.alloc (.cells #[.slice haa rS hab, .slice hac rC had, .string rt, .int .i64 rc] 30)).cell? ⟨w4.heap.size, 3, none⟩ = some (.int .i64 rc) := by have h := (AL.out.1.block (w4.heap.size) (by omega)).trans LB_wa.out; simp [World.cell?, h]
  have ed_x0 : (w18.alloc (.cells #[.slice haa rS hab, .slice hac rC had, .string rt, .int .i64 rc] 30)).cell? ⟨w6.heap.size, 0, none⟩ = some (.slice xa nS xb) := by have h := (AL.out.1.block (w6.heap.size) (by omega)).trans LB_x.out; simp [World.cell?, h]
  have ed_x1 : (w18.alloc (.cells #[.slice haa rS hab, .slice hac rC had, .string rt, .int .i64 rc] 30)).cell? ⟨w6.heap.size, 1, none⟩ = some (.slice xc nC xd) := by have h := (AL.out.1.block (w6.heap.size) (by omega)).trans LB_x.out; simp [World.cell?, h]
  have ed_ga0 : (w18.alloc (.cells #[.slice haa rS hab, .slice hac rC had, .string rt, .int .i64 rc] 30)).cell? ⟨w8.heap.size, 0, none⟩ = some (.slice gaa rS gab) := by have h := (AL.out.1.block (w8.heap.size) (by omega)).trans LB_ga.out; simp [World.cell?, h]
  have ed_ga1 : (w18.alloc (.cells #[.slice haa rS hab, .slice hac rC had, .string rt, .int .i64 rc] 30)).cell? ⟨w8.heap.size, 1, none⟩ = some (.slice gac rC gad) := by have h := (AL.out.1.block (w8.heap.size) (by omega)).trans LB_ga.out; simp [World.cell?, h]
  have ed_ga2 : (w18.alloc (.cells #[.slice haa rS hab, .slice hac rC had, .string rt, .int .i64 rc] 30)).cell? ⟨w8.heap.size, 2, none⟩ = some (.string rt) := by have h := (AL.out.1.block (w8.heap.size) (by omega)).trans LB_ga.out; simp [World.cell?, h]
  have ed_ga3 : (w18.alloc (.cells #[.slice haa rS hab, .slice hac rC had, .string rt, .int .i64 rc] 30)).cell? ⟨w8.heap.size, 3, none⟩ = some (.int .i64 rc) := by have h := (AL.out.1.block (w8.heap.size) (by omega)).trans LB_ga.out; simp [World.cell?, h]
  go_wp2_with fail
  generalize (w18.alloc (.cells #[.slice haa rS hab, .slice hac rC had, .string rt, .int .i64 rc] 30)) = w19a at *
  clear ed_d0 ed_d1 ed_wa0 ed_wa1 ed_wa2 ed_wa3 ed_x0 ed_x1 ed_ga0 ed_ga1 ed_ga2 ed_ga3
  obtain ⟨al0, al1⟩ := AL.out
  replace LB_d := hide ((al0.block (w.heap.size) (by omega)).trans LB_d.out)
  replace LB_wa := hide ((al0.block (w4.heap.size) (by omega)).trans LB_wa.out)
  replace LB_x := hide ((al0.block (w6.heap.size) (by omega)).trans LB_x.out)
  replace LB_ga := hide ((al0.block (w8.heap.size) (by omega)).trans LB_ga.out)
  replace D_wa := hide (D_wa.out.below al0)
  replace D_MV := hide (D_MV.out.below al0)
  replace D_ha := hide (D_ha.out.below al0)
  replace BB := hide (BB.out.trans (al0.mono (by have := BB.out.size; omega)))
  have LB_ha := hide al1
  have hz_w19a := al2
  clear al0 al1 AL al2
  refine (law_eqDiskOut _ _ _ _ rt rc _ _ _ _ rS RS rC RA RX w19a hrS hrC D_ha.out D_wa.out).mono ?_
  rintro e w20 ⟨rfl, hb⟩
  have hz_w20 := hb.size
  replace LB_d := hide ((hb.block (w.heap.size) (by omega)).trans LB_d.out)
  replace LB_wa := hide ((hb.block (w4.heap.size) (by omega)).trans LB_wa.out)
  replace LB_x := hide ((hb.block (w6.heap.size) (by omega)).trans LB_x.out)
  replace LB_ga := hide ((hb.block (w8.heap.size) (by omega)).trans LB_ga.out)
  replace LB_ha := hide ((hb.block (w18.heap.size) (by omega)).trans LB_ha.out)
  replace D_wa := hide (D_wa.out.below hb)
  replace D_MV := hide (D_MV.out.below hb)
  replace D_ha := hide (D_ha.out.below hb)
  replace BB := hide (BB.out.trans (hb.mono (by have := BB.out.size; omega)))
  clear hb
  have ec_d0 : w20.cell? ⟨w.heap.size, 0, none⟩ = some (.slice sa nS sk) := by have h := LB_d.out; simp [World.cell?, h]
  have ec_d1 : w20.cell? ⟨w.heap.size, 1, none⟩ = some (.slice ca nC ck) := by have h := LB_d.out; simp [World.cell?, h]
  have ec_wa0 : w20.cell? ⟨w4.heap.size, 0, none⟩ = some (.slice waa rS wab) := by have h := LB_wa.out; simp [World.cell?, h]
  have ec_wa1 : w20.cell? ⟨w4.heap.size, 1, none⟩ = some (.slice wac rC wad) := by have h := LB_wa.out; simp [World.cell?, h]
  have ec_wa2 : w20.cell? ⟨w4.heap.size, 2, none⟩ = some (.string rt) := by have h := LB_wa.out; simp [World.cell?, h]
  have ec_wa3 : w20.cell? ⟨w4.heap.size, 3, none⟩ = some (.int .i64 rc) := by have h := LB_wa.out; simp [World.cell?, h]
  have ec_x0 : w20.cell? ⟨w6.heap.size, 0, none⟩ = some (.slice xa nS xb) := by have h := LB_x.out; simp [World.cell?, h]
  have ec_x1 : w20.cell? ⟨w6.heap.size, 1, none⟩ = some (.slice xc nC xd) := by have h := LB_x.out; simp [World.cell?, h]
  have ec_ga0 : w20.cell? ⟨w8.heap.size, 0, none⟩ = some (.slice gaa rS gab) := by have h := LB_ga.out; simp [World.cell?, h]
  have ec_ga1 : w20.cell? ⟨w8.heap.size, 1, none⟩ = some (.slice gac rC gad) := by have h := LB_ga.out; simp [World.cell?, h]
  have ec_ga2 : w20.cell? ⟨w8.heap.size, 2, none⟩ = some (.string rt) := by have h := LB_ga.out; simp [World.cell?, h]
  have ec_ga3 : w20.cell? ⟨w8.heap.size, 3, none⟩ = some (.int .i64 rc) := by have h := LB_ga.out; simp [World.cell?, h]
  have ec_ha0 : w20.cell? ⟨w18.heap.size, 0, none⟩ = some (.slice haa rS hab) := by have h := LB_ha.out; simp [World.cell?, h]
  have ec_ha1 : w20.cell? ⟨w18.heap.size, 1, none⟩ = some (.slice hac rC had) := by have h := LB_ha.out; simp [World.cell?, h]
  have ec_ha2 : w20.cell? ⟨w18.heap.size, 2, none⟩ = some (.string rt) := by have h := LB_ha.out; simp [World.cell?, h]
  have ec_ha3 : w20.cell? ⟨w18.heap.size, 3, none⟩ = some (.int .i64 rc) := by have h := LB_ha.out; simp [World.cell?, h]
  go_wp2_with fail
  refine (law_heldDiskOut _ _ rt rc (w7a.heap.size) (w8.heap.size) rS rC 1 w20 hrS hrC (by omega) D_MV.out).mono ?_
  rintro e w21 ⟨rfl, hb⟩
  rw [← HQ.out]
  clear ec_d0 ec_d1 ec_wa0 ec_wa1 ec_wa2 ec_wa3 ec_x0 ec_x1 ec_ga0 ec_ga1 ec_ga2 ec_ga3 ec_ha0 ec_ha1 ec_ha2 ec_ha3
  have hz_w21 := hb.size
  replace LB_d := hide ((hb.block (w.heap.size) (by omega)).trans LB_d.out)
  replace LB_wa := hide ((hb.block (w4.heap.size) (by omega)).trans LB_wa.out)
  replace LB_x := hide ((hb.block (w6.heap.size) (by omega)).trans LB_x.out)
  replace LB_ga := hide ((hb.block (w8.heap.size) (by omega)).trans LB_ga.out)
  replace LB_ha := hide ((hb.block (w18.heap.size) (by omega)).trans LB_ha.out)
  replace D_MV := hide (D_MV.out.below hb)
  replace BB := hide (BB.out.trans (hb.mono (by have := BB.out.size; omega)))
  clear hb
  have ec_d0 : w21.cell? ⟨w.heap.size, 0, none⟩ = some (.slice sa nS sk) := by have h := LB_d.out; simp [World.cell?, h]
  have ec_d1 : w21.cell? ⟨w.heap.size, 1, none⟩ = some (.slice ca nC ck) := by have h := LB_d.out; simp [World.cell?, h]
  have ec_wa0 : w21.cell? ⟨w4.heap.size, 0, none⟩ = some (.slice waa rS wab) := by have h := LB_wa.out; simp [World.cell?, h]
  have ec_wa1 : w21.cell? ⟨w4.heap.size, 1, none⟩ = some (.slice wac rC wad) := by have h := LB_wa.out; simp [World.cell?, h]
  have ec_wa2 : w21.cell? ⟨w4.heap.size, 2, none⟩ = some (.string rt) := by have h := LB_wa.out; simp [World.cell?, h]
  have ec_wa3 : w21.cell? ⟨w4.heap.size, 3, none⟩ = some (.int .i64 rc) := by have h := LB_wa.out; simp [World.cell?, h]
  have ec_x0 : w21.cell? ⟨w6.heap.size, 0, none⟩ = some (.slice xa nS xb) := by have h := LB_x.out; simp [World.cell?, h]
  have ec_x1 : w21.cell? ⟨w6.heap.size, 1, none⟩ = some (.slice xc nC xd) := by have h := LB_x.out; simp [World.cell?, h]
  have ec_ga0 : w21.cell? ⟨w8.heap.size, 0, none⟩ = some (.slice gaa rS gab) := by have h := LB_ga.out; simp [World.cell?, h]
  have ec_ga1 : w21.cell? ⟨w8.heap.size, 1, none⟩ = some (.slice gac rC gad) := by have h := LB_ga.out; simp [World.cell?, h]
  have ec_ga2 : w21.cell? ⟨w8.heap.size, 2, none⟩ = some (.string rt) := by have h := LB_ga.out; simp [World.cell?, h]
  have ec_ga3 : w21.cell? ⟨w8.heap.size, 3, none⟩ = some (.int .i64 rc) := by have h := LB_ga.out; simp [World.cell?, h]
  have ec_ha0 : w21.cell? ⟨w18.heap.size, 0, none⟩ = some (.slice haa rS hab) := by have h := LB_ha.out; simp [World.cell?, h]
  have ec_ha1 : w21.cell? ⟨w18.heap.size, 1, none⟩ = some (.slice hac rC had) := by have h := LB_ha.out; simp [World.cell?, h]
  have ec_ha2 : w21.cell? ⟨w18.heap.size, 2, none⟩ = some (.string rt) := by have h := LB_ha.out; simp [World.cell?, h]
  have ec_ha3 : w21.cell? ⟨w18.heap.size, 3, none⟩ = some (.int .i64 rc) := by have h := LB_ha.out; simp [World.cell?, h]
  go_wp2_with fail
  go_ret
  exact ⟨rfl, BB.out⟩
end Go.Proofs.Ytipeelkmmjgehab

/- Shape2, LwExPatch, DoutNil, ExtPt, DwExP, OpenDisk, one behind the other. -/
import Derived.Test.YtipeelkmmjgehaaLwDisk
import Derived.Test.YtipeelkmmjgehaaLwDisk3
import Derived.Test.YtipeelkmmjgehaaDskV
import Derived.Test.YtipeelkmmjgehaaHeldOne
import Derived.Test.YtipeelkmmjgehaaRows
import Derived.Test.YtipeelkmmjgehaaExtT
import Derived.Test.YtipeelkmmjgehaaExtPp
import Derived.Test.YtipeelkmmjgehaaExtPs
import Derived.ProofKit
import Derived.OpenShut
import Derived.Deep.Slices
import Derived.Lib.SmallJoins
/- What a disk in memory looks like. -/
namespace Go.Proofs.Ytipeelkmmjgehaa
open Go Go.RowKit
theorem dskV.shape2 {w : World} {s c : Value} {lo hi nS : Nat} {fS : Nat → Value} {nC : Nat} {fC : Nat → Value} (h : dskV w (.agg #[s, c]) lo hi nS fS nC fC) : ∃ a b d f, s = .slice a nS b ∧ c = .slice d nC f := by
  obtain ⟨sv, cv, e, h1, h2, _⟩ := h
  cases e
  obtain ⟨a, b, e1⟩ := valM_slice h1
  obtain ⟨c, d, e2⟩ := valM_slice h2
  exact ⟨a, b, c, d, e1, e2⟩
end Go.Proofs.Ytipeelkmmjgehaa
/- The walk over the law FnExactExtentPatch (written by mklwd.py). -/
namespace Go.Proofs.Ytipeelkmmjgehaa
open Go Go.RowKit
set_option maxRecDepth 100000 in
set_option maxHeartbeats 3200000 in
theorem fnExactExtentPatch_core (v : Value) (nS : Nat) (S : Nat → ByteArray) (nC : Nat) (A : Nat → Int) (X : Nat → ByteArray) (at_ : Int) (txt : ByteArray) (ht : txt.size ≤ 1048576) (rt : ByteArray) (rc : Int) (rS : Nat) (RS : Nat → ByteArray) (rC : Nat) (RA : Nat → Int) (RX : Nat → ByteArray) (w : World) (hrS : rS ≤ 1048576) (hrC : rC ≤ 1048576)
    (hS : nS ≤ 9223372036854775807) (hC : nC ≤ 9223372036854775807) (hSz : ∀ j, j < nS → (S j).size ≤ 9223372036854775807) (hXz : ∀ j, j < nC → (X j).size ≤ 9223372036854775807)
    (hspec : nS ≤ 1048576 → nC ≤ 1048576 → (∀ j, j < nS → (S j).size ≤ 1048576) → (∀ j, j < nC → (X j).size ≤ 1048576) → ∀ (u : World) (x : Value), dskI u u.heap.size x nS S nC A X → Calls Try.prog 11 #[x, .int .i64 at_, .string txt] u fun e w1 => ∃ so co, e = .returned (.agg #[so, co, .string rt, .int .i64 rc]) ∧ dskV w1 (.agg #[so, co]) u.heap.size w1.heap.size rS (sC RS) rC (wF RA RX) ∧ Below u.heap.size u w1)
    (himp : nS ≤ 1048576 → nC ≤ 1048576 → (∀ j, j < nS → (S j).size ≤ 1048576) → (∀ j, j < nC → (X j).size ≤ 1048576) → ∀ (u : World) (x : Value), dskI u u.heap.size x nS S nC A X → Calls Try.prog 10 #[x, .int .i64 at_, .string txt] u fun e w1 => ∃ so co, e = .returned (.agg #[so, co, .string rt, .int .i64 rc]) ∧ dskV w1 (.agg #[so, co]) u.heap.size w1.heap.size rS (sC RS) rC (wF RA RX) ∧ Below u.heap.size u w1)
    (h : dskI w w.heap.size v nS S nC A X) :
    Calls Try.prog 7 #[v, .int .i64 at_, .string txt] w fun e w' => e = .returned (.bool true) ∧ Below w.heap.size w w' := by
  obtain ⟨sv, cv, rfl, h1, h2⟩ := h
  obtain ⟨sa, sk, e1⟩ : ∃ a c, sv = .slice a nS c := by obtain ⟨a, c, e, _⟩ := h1; exact ⟨a, c, e⟩
  obtain ⟨ca, ck, e2⟩ : ∃ a c, cv = .slice a nC c := by obtain ⟨a, c, e, _⟩ := h2; exact ⟨a, c, e⟩
  subst e1 e2
  have HI := hide (show dskI w w.heap.size (.agg #[.slice sa nS sk, .slice ca nC ck]) nS S nC A X from ⟨_, _, rfl, h1, h2⟩)
  have HZ := hide (And.intro hSz hXz)
  have SP := hide hspec
  have IP := hide himp
  clear h1 h2 hSz hXz hspec himp
  have BB := hide (Below.refl w.heap.size w)
  have dt : decide ((1048576 : Int) < (txt.size : Int)) = false := decide_eq_false (by omega)
  go_enter Try.func7, Try.ntmps7
  have al0 : Below w.heap.size w (w.alloc (.cells #[.slice sa nS sk, .slice ca nC ck] 45)) := (Below.refl _ _).alloc (Nat.le_refl _) _
  have al1 : (w.alloc (.cells #[.slice sa nS sk, .slice ca nC ck] 45)).heap[w.heap.size]? = some (.cells #[.slice sa nS sk, .slice ca nC ck] 45) := heap_alloc_new _ _
  have al2 : w.heap.size < (w.alloc (.cells #[.slice sa nS sk, .slice ca nC ck] 45)).heap.size := by simp
  have AL := hide (And.intro al0 al1)
  clear al0 al1
  go_wp2_with fail
  generalize (w.alloc (.cells #[.slice sa nS sk, .slice ca nC ck] 45)) = w1a at *
  obtain ⟨al0, al1⟩ := AL.out
  replace BB := hide (BB.out.trans (al0.mono (by have := BB.out.size; omega)))
  have LB_d := hide al1
  have hz_w1a := al2
  clear al0 al1 AL al2
  refine (law_szDisk _ nS S nC A X w1a hS hC HZ.out.1 HZ.out.2 1048576 (by omega) (by omega) ((HI.out.below BB.out).wide BB.out.size)).mono ?_
  rintro e w2 ⟨r, rfl, hr, hb⟩
  have hz_w2 := hb.size
  replace LB_d := hide ((hb.block (w.heap.size) (by omega)).trans LB_d.out)
  replace BB := hide (BB.out.trans (hb.mono (by have := BB.out.size; omega)))
  clear hb
  rcases hr with rfl | ⟨hr0, hr1, hz1, hz2⟩
  · have ec_d0 : w2.cell? ⟨w.heap.size, 0, none⟩ = some (.slice sa nS sk) := by have h := LB_d.out; simp [World.cell?, h]
    have ec_d1 : w2.cell? ⟨w.heap.size, 1, none⟩ = some (.slice ca nC ck) := by have h := LB_d.out; simp [World.cell?, h]
    go_wp2_with fail
    go_ret
    exact ⟨rfl, BB.out⟩
  have hr0n : ¬ r < 0 := by omega
  replace hS : nS ≤ 1048576 := by omega
  replace hC : nC ≤ 1048576 := by omega
  replace SP := hide (SP.out hS hC hz1 hz2)
  replace IP := hide (IP.out hS hC hz1 hz2)
  clear hz1 hz2 hr0 hr1
  have ec_d0 : w2.cell? ⟨w.heap.size, 0, none⟩ = some (.slice sa nS sk) := by have h := LB_d.out; simp [World.cell?, h]
  have ec_d1 : w2.cell? ⟨w.heap.size, 1, none⟩ = some (.slice ca nC ck) := by have h := LB_d.out; simp [World.cell?, h]
  go_wp2_with fail
  refine (law_toDisk _ nS S nC A X w2 hS hC ((HI.out.below BB.out).wide BB.out.size)).mono ?_
  rintro e w3 ⟨o, rfl, hd, hb⟩
  obtain ⟨ma, mb, mc, md, eo⟩ := hd.shape
  subst eo
  clear ec_d0 ec_d1
  have hz_w3 := hb.size
  replace LB_d := hide ((hb.block (w.heap.size) (by omega)).trans LB_d.out)
  replace BB := hide (BB.out.trans (hb.mono (by have := BB.out.size; omega)))
  clear hb
  have D_m := hide hd
  clear hd
  have ec_d0 : w3.cell? ⟨w.heap.size, 0, none⟩ = some (.slice sa nS sk) := by have h := LB_d.out; simp [World.cell?, h]
  have ec_d1 : w3.cell? ⟨w.heap.size, 1, none⟩ = some (.slice ca nC ck) := by have h := LB_d.out; simp [World.cell?, h]
  go_wp2_with fail
  refine (SP.out w3 _ (D_m.out.sli)).mono ?_
  rintro e w4 ⟨so, co, rfl, hd, hb⟩
  obtain ⟨waa, wab, wac, wad, eo1, eo2⟩ := hd.shape2
  subst eo1 eo2
  clear ec_d0 ec_d1
  have hz_w4 := hb.size
  replace LB_d := hide ((hb.block (w.heap.size) (by omega)).trans LB_d.out)
  replace D_m := hide (D_m.out.below hb)
  replace BB := hide (BB.out.trans (hb.mono (by have := BB.out.size; omega)))
  clear hb
  have D_wa := hide hd
  clear hd
  have al0 : Below w4.heap.size w4 (w4.alloc (.cells #[.slice waa rS wab, .slice wac rC wad, .string rt, .int .i64 rc] 30)) := (Below.refl _ _).alloc (Nat.le_refl _) _
  have al1 : (w4.alloc (.cells #[.slice waa rS wab, .slice wac rC wad, .string rt, .int .i64 rc] 30)).heap[w4.heap.size]? = some (.cells #[.slice waa rS wab, .slice wac rC wad, .string rt, .int .i64 rc] 30) := heap_alloc_new _ _
  have al2 : w4.heap.size < (w4.alloc (.cells #[.slice waa rS wab, .slice wac rC wad, .string rt, .int .i64 rc] 30)).heap.size := by simp
  have AL := hide (And.intro al0 al1)
  clear al0 al1
  have ed_d0 : (w4.alloc (.cells #[.slice waa rS wab, .slice wac rC wad, .string rt, .int .i64 rc] 30)).cell? ⟨w.heap.size, 0, none⟩ = some (.slice sa nS sk) := by have h := (AL.out.1.block (w.heap.size) (by omega)).trans LB_d.out; simp [World.cell?, h]
  have ed_d1 : (w4.alloc (.cells #[.slice waa rS wab, .slice wac rC wad, .string rt, .int .i64 rc] 30)).cell? ⟨w.heap.size, 1, none⟩ = some (.slice ca nC ck) := by have h := (AL.out.1.block (w.heap.size) (by omega)).trans LB_d.out; simp [World.cell?, h]
  go_wp2_with fail
  generalize (w4.alloc (.cells #[.slice waa rS wab, .slice wac rC wad, .string rt, .int .i64 rc] 30)) = w5a at *
  clear ed_d0 ed_d1
  obtain ⟨al0, al1⟩ := AL.out
  replace LB_d := hide ((al0.block (w.heap.size) (by omega)).trans LB_d.out)
  replace D_wa := hide (D_wa.out.below al0)
  replace BB := hide (BB.out.trans (al0.mono (by have := BB.out.size; omega)))
  have LB_wa := hide al1
  have hz_w5a := al2
  clear al0 al1 AL al2
  refine (law_toDisk _ nS S nC A X w5a hS hC ((HI.out.below BB.out).wide BB.out.size)).mono ?_
  rintro e w6 ⟨o, rfl, hd, hb⟩
  obtain ⟨xa, xb, xc, xd, eo⟩ := hd.shape
  subst eo
  have hz_w6 := hb.size
  replace LB_d := hide ((hb.block (w.heap.size) (by omega)).trans LB_d.out)
  replace LB_wa := hide ((hb.block (w4.heap.size) (by omega)).trans LB_wa.out)
  replace D_wa := hide (D_wa.out.below hb)
  replace BB := hide (BB.out.trans (hb.mono (by have := BB.out.size; omega)))
  clear hb
  have D_x := hide hd
  clear hd
  have al0 : Below w6.heap.size w6 (w6.alloc (.cells #[.slice xa nS xb, .slice xc nC xd] 26)) := (Below.refl _ _).alloc (Nat.le_refl _) _
  have al1 : (w6.alloc (.cells #[.slice xa nS xb, .slice xc nC xd] 26)).heap[w6.heap.size]? = some (.cells #[.slice xa nS xb, .slice xc nC xd] 26) := heap_alloc_new _ _
  have al2 : w6.heap.size < (w6.alloc (.cells #[.slice xa nS xb, .slice xc nC xd] 26)).heap.size := by simp
  have AL := hide (And.intro al0 al1)
  clear al0 al1
  have ed_d0 : (w6.alloc (.cells #[.slice xa nS xb, .slice xc nC xd] 26)).cell? ⟨w.heap.size, 0, none⟩ = some (.slice sa nS sk) := by have h := (AL.out.1.block (w.heap.size) (by omega)).trans LB_d.out; simp [World.cell?, h]
  have ed_d1 : (w6.alloc (.cells #[.slice xa nS xb, .slice xc nC xd] 26)).cell? ⟨w.heap.size, 1, none⟩ = some (.slice ca nC ck) := by have h := (AL.out.1.block (w.heap.size) (by omega)).trans LB_d.out; simp [World.cell?, h]
  have ed_wa0 : (w6.alloc (.cells #[.slice xa nS xb, .slice xc nC xd] 26)).cell? ⟨w4.heap.size, 0, none⟩ = some (.slice waa rS wab) := by have h := (AL.out.1.block (w4.heap.size) (by omega)).trans LB_wa.out; simp [World.cell?, h]
  have ed_wa1 : (w6.alloc (.cells #[.slice xa nS xb, .slice xc nC xd] 26)).cell? ⟨w4.heap.size, 1, none⟩ = some (.slice wac rC wad) := by have h := (AL.out.1.block (w4.heap.size) (by omega)).trans LB_wa.out; simp [World.cell?, h]
  have ed_wa2 : (w6.alloc (.cells #[.slice xa nS xb, .slice xc nC xd] 26)).cell? ⟨w4.heap.size, 2, none⟩ = some (.string rt) := by have h := (AL.out.1.block (w4.heap.size) (by omega)).trans LB_wa.out; simp [World.cell?, h]
  have ed_wa3 : (w6.alloc (.cells #[.slice xa nS xb, .slice xc nC xd] 26)).cell? ⟨w4.heap.size, 3, none⟩ = some (.int .i64 rc) := by have h := (AL.out.1.block (w4.heap.size) (by omega)).trans LB_wa.out; simp [World.cell?, h]
  go_wp2_with fail
  generalize (w6.alloc (.cells #[.slice xa nS xb, .slice xc nC xd] 26)) = w7a at *
  clear ed_d0 ed_d1 ed_wa0 ed_wa1 ed_wa2 ed_wa3
  obtain ⟨al0, al1⟩ := AL.out
  replace LB_d := hide ((al0.block (w.heap.size) (by omega)).trans LB_d.out)
  replace LB_wa := hide ((al0.block (w4.heap.size) (by omega)).trans LB_wa.out)
  replace D_wa := hide (D_wa.out.below al0)
  replace D_x := hide (D_x.out.below al0)
  replace BB := hide (BB.out.trans (al0.mono (by have := BB.out.size; omega)))
  have LB_x := hide al1
  have hz_w7a := al2
  clear al0 al1 AL al2
  refine (IP.out w7a _ (D_x.out.sli)).mono ?_
  rintro e w8 ⟨so, co, rfl, hd, hb⟩
  obtain ⟨gaa, gab, gac, gad, eo1, eo2⟩ := hd.shape2
  subst eo1 eo2
  have hz_w8 := hb.size
  replace LB_d := hide ((hb.block (w.heap.size) (by omega)).trans LB_d.out)
  replace LB_wa := hide ((hb.block (w4.heap.size) (by omega)).trans LB_wa.out)
  replace LB_x := hide ((hb.block (w6.heap.size) (by omega)).trans LB_x.out)
  replace D_wa := hide (D_wa.out.below hb)
  replace D_x := hide (D_x.out.below hb)
  replace BB := hide (BB.out.trans (hb.mono (by have := BB.out.size; omega)))
  clear hb
  have D_ga := hide hd
  clear hd
  have al0 : Below w8.heap.size w8 (w8.alloc (.cells #[.slice gaa rS gab, .slice gac rC gad, .string rt, .int .i64 rc] 30)) := (Below.refl _ _).alloc (Nat.le_refl _) _
  have al1 : (w8.alloc (.cells #[.slice gaa rS gab, .slice gac rC gad, .string rt, .int .i64 rc] 30)).heap[w8.heap.size]? = some (.cells #[.slice gaa rS gab, .slice gac rC gad, .string rt, .int .i64 rc] 30) := heap_alloc_new _ _
  have al2 : w8.heap.size < (w8.alloc (.cells #[.slice gaa rS gab, .slice gac rC gad, .string rt, .int .i64 rc] 30)).heap.size := by simp
  have AL := hide (And.intro al0 al1)
  clear al0 al1
  have ed_d0 : (w8.alloc (.cells #[.slice gaa rS gab, .slice gac rC gad, .string rt, .int .i64 rc] 30)).cell? ⟨w.heap.size, 0, none⟩ = some (.slice sa nS sk) := by have h := (AL.out.1.block (w.heap.size) (by omega)).trans LB_d.out; simp [World.cell?, h]
  have ed_d1 : (w8.alloc (.cells #[.slice gaa rS gab, .slice gac rC gad, .string rt, .int .i64 rc] 30)).cell? ⟨w.heap.size, 1, none⟩ = some (.slice ca nC ck) := by have h := (AL.out.1.block (w.heap.size) (by omega)).trans LB_d.out; simp [World.cell?, h]
  have ed_wa0 : (w8.alloc (.cells #[.slice gaa rS gab, .slice gac rC gad, .string rt, .int .i64 rc] 30)).cell? ⟨w4.heap.size, 0, none⟩ = some (.slice waa rS wab) := by have h := (AL.out.1.block (w4.heap.size) (by omega)).trans LB_wa.out; simp [World.cell?, h]
  have ed_wa1 : (w8.alloc (.cells #[.slice gaa rS gab, .slice gac rC gad, .string rt, .int .i64 rc] 30)).cell? ⟨w4.heap.size, 1, none⟩ = some (.slice wac rC wad) := by have h := (AL.out.1.block (w4.heap.size) (by omega)).trans LB_wa.out; simp [World.cell?, h]
  have ed_wa2 : (w8.alloc (.cells #[.slice gaa rS gab, .slice gac rC gad, .string rt, .int .i64 rc] 30)).cell? ⟨w4.heap.size, 2, none⟩ = some (.string rt) := by have h := (AL.out.1.block (w4.heap.size) (by omega)).trans LB_wa.out; simp [World.cell?, h]
  have ed_wa3 : (w8.alloc (.cells #[.slice gaa rS gab, .slice gac rC gad, .string rt, .int .i64 rc] 30)).cell? ⟨w4.heap.size, 3, none⟩ = some (.int .i64 rc) := by have h := (AL.out.1.block (w4.heap.size) (by omega)).trans LB_wa.out; simp [World.cell?, h]
  have ed_x0 : (w8.alloc (.cells #[.slice gaa rS gab, .slice gac rC gad, .string rt, .int .i64 rc] 30)).cell? ⟨w6.heap.size, 0, none⟩ = some (.slice xa nS xb) := by have h := (AL.out.1.block (w6.heap.size) (by omega)).trans LB_x.out; simp [World.cell?, h]
  have ed_x1 : (w8.alloc (.cells #[.slice gaa rS gab, .slice gac rC gad, .string rt, .int .i64 rc] 30)).cell? ⟨w6.heap.size, 1, none⟩ = some (.slice xc nC xd) := by have h := (AL.out.1.block (w6.heap.size) (by omega)).trans LB_x.out; simp [World.cell?, h]
  go_wp2_with fail
  generalize (w8.alloc (.cells #[.slice gaa rS gab, .slice gac rC gad, .string rt, .int .i64 rc] 30)) = w9a at *
  clear ed_d0 ed_d1 ed_wa0 ed_wa1 ed_wa2 ed_wa3 ed_x0 ed_x1
  obtain ⟨al0, al1⟩ := AL.out
  replace LB_d := hide ((al0.block (w.heap.size) (by omega)).trans LB_d.out)
  replace LB_wa := hide ((al0.block (w4.heap.size) (by omega)).trans LB_wa.out)
  replace LB_x := hide ((al0.block (w6.heap.size) (by omega)).trans LB_x.out)
  replace D_wa := hide (D_wa.out.below al0)
  replace D_x := hide (D_x.out.below al0)
  replace D_ga := hide (D_ga.out.below al0)
  replace BB := hide (BB.out.trans (al0.mono (by have := BB.out.size; omega)))
  have LB_ga := hide al1
  have hz_w9a := al2
  clear al0 al1 AL al2
  refine (law_eqDiskOut _ _ _ _ rt rc _ _ _ _ rS RS rC RA RX w9a hrS hrC D_ga.out D_wa.out).mono ?_
  rintro e w10 ⟨rfl, hb⟩
  have hz_w10 := hb.size
  replace LB_d := hide ((hb.block (w.heap.size) (by omega)).trans LB_d.out)
  replace LB_wa := hide ((hb.block (w4.heap.size) (by omega)).trans LB_wa.out)
  replace LB_x := hide ((hb.block (w6.heap.size) (by omega)).trans LB_x.out)
  replace LB_ga := hide ((hb.block (w8.heap.size) (by omega)).trans LB_ga.out)
  replace D_wa := hide (D_wa.out.below hb)
  replace D_x := hide (D_x.out.below hb)
  replace D_ga := hide (D_ga.out.below hb)
  replace BB := hide (BB.out.trans (hb.mono (by have := BB.out.size; omega)))
  clear hb
  have ec_d0 : w10.cell? ⟨w.heap.size, 0, none⟩ = some (.slice sa nS sk) := by have h := LB_d.out; simp [World.cell?, h]
  have ec_d1 : w10.cell? ⟨w.heap.size, 1, none⟩ = some (.slice ca nC ck) := by have h := LB_d.out; simp [World.cell?, h]
  have ec_wa0 : w10.cell? ⟨w4.heap.size, 0, none⟩ = some (.slice waa rS wab) := by have h := LB_wa.out; simp [World.cell?, h]
  have ec_wa1 : w10.cell? ⟨w4.heap.size, 1, none⟩ = some (.slice wac rC wad) := by have h := LB_wa.out; simp [World.cell?, h]
  have ec_wa2 : w10.cell? ⟨w4.heap.size, 2, none⟩ = some (.string rt) := by have h := LB_wa.out; simp [World.cell?, h]
  have ec_wa3 : w10.cell? ⟨w4.heap.size, 3, none⟩ = some (.int .i64 rc) := by have h := LB_wa.out; simp [World.cell?, h]
  have ec_x0 : w10.cell? ⟨w6.heap.size, 0, none⟩ = some (.slice xa nS xb) := by have h := LB_x.out; simp [World.cell?, h]
  have ec_x1 : w10.cell? ⟨w6.heap.size, 1, none⟩ = some (.slice xc nC xd) := by have h := LB_x.out; simp [World.cell?, h]
  have ec_ga0 : w10.cell? ⟨w8.heap.size, 0, none⟩ = some (.slice gaa rS gab) := by have h := LB_ga.out; simp [World.cell?, h]
  have ec_ga1 : w10.cell? ⟨w8.heap.size, 1, none⟩ = some (.slice gac rC gad) := by have h := LB_ga.out; simp [World.cell?, h]
  have ec_ga2 : w10.cell? ⟨w8.heap.size, 2, none⟩ = some (.string rt) := by have h := LB_ga.out; simp [World.cell?, h]
  have ec_ga3 : w10.cell? ⟨w8.heap.size, 3, none⟩ = some (.int .i64 rc) := by have h := LB_ga.out; simp [World.cell?, h]
  go_wp2_with fail
  have SA : ∀ u : World, Below w10.heap.size w10 u → u.cell? ⟨w6.heap.size, 0, none⟩ = some (.slice xa nS xb) ∧ u.cell? ⟨w6.heap.size, 1, none⟩ = some (.slice xc nC xd) ∧ u.cell? ⟨w.heap.size, 0, none⟩ = some (.slice sa nS sk) ∧ u.cell? ⟨w.heap.size, 1, none⟩ = some (.slice ca nC ck) := fun u hu => by
    have hx := (hu.block (w6.heap.size) (by omega)).trans LB_x.out
    have hd := (hu.block (w.heap.size) (by omega)).trans LB_d.out
    exact ⟨by simp [World.cell?, hx], by simp [World.cell?, hx], by simp [World.cell?, hd], by simp [World.cell?, hd]⟩
  clear ec_d0 ec_d1 ec_wa0 ec_wa1 ec_wa2 ec_wa3 ec_x0 ec_x1 ec_ga0 ec_ga1 ec_ga2 ec_ga3
  refine wp_region_held_drew (S := fun u => u.cell? ⟨w6.heap.size, 0, none⟩ = some (.slice xa nS xb) ∧ u.cell? ⟨w6.heap.size, 1, none⟩ = some (.slice xc nC xd) ∧ u.cell? ⟨w.heap.size, 0, none⟩ = some (.slice sa nS sk) ∧ u.cell? ⟨w.heap.size, 1, none⟩ = some (.slice ca nC ck)) (by kernel_rfl) (SA _ (Below.refl _ _).drew) (fun hHeld => ?_)
  refine takeD (i := 0) (v := .agg #[.slice xa nS xb, .slice xc nC xd]) (some 38) rfl rfl (by kernel_rfl) (by kernel_rfl) (by kernel_rfl) (fun _ _ _ h => h) (Or.inl ⟨by rfl, fun w hSw => by obtain ⟨s0, s1, s2, s3⟩ := hSw; go_simp⟩) hHeld ?_
  simp only [Act.put, List.setIfInBounds_toArray, List.set_cons_zero, List.set_cons_succ]
  refine takeD (i := 1) (v := .agg #[.slice sa nS sk, .slice ca nC ck]) (some 39) rfl rfl (by kernel_rfl) (by kernel_rfl) (by kernel_rfl) (fun _ _ _ h => h) (Or.inl ⟨by rfl, fun w hSw => by obtain ⟨s0, s1, s2, s3⟩ := hSw; go_simp⟩) hHeld ?_
  simp only [Act.put, List.setIfInBounds_toArray, List.set_cons_zero, List.set_cons_succ]
  refine wpAnyH_ready (rs := [2]) (by kernel_rfl) (by simp) ?_
  refine AllReadyH.cons rfl (fun KK hK => ?_) AllReadyH.nil
  go_simp
  refine (law_toDisk _ nS S nC A X w10.drew hS hC ((HI.out.below BB.out.drew).wide BB.out.size)).mono ?_
  rintro e w11 ⟨o, rfl, hd, hb⟩
  obtain ⟨ya, yb, yc, yd, eo⟩ := hd.shape
  subst eo
  have b1 : Below w10.heap.size w10 w11 := (Below.refl _ _).drew.trans hb
  have hz_w11 := b1.size
  have DY := hide hd
  clear hd hb
  go_wp2_with fail
  refine hK.out _ _ (SA _ b1) (fun hHeld => ?_)
  clear hK KK
  refine wpAnyH_ready (rs := [3]) (by kernel_rfl) (by simp) ?_
  refine AllReadyH.cons rfl (fun KK hK => ?_) AllReadyH.nil
  go_simp
  refine (law_eqDisk _ _ _ _ _ _ nS S nC A X w11 hS hC (D_x.out.below b1) DY.out).mono ?_
  rintro e w12 ⟨rfl, hb⟩
  have b2 := b1.trans (hb.mono hz_w11)
  clear hb DY
  go_wp2_with fail
  refine hK.out _ _ (SA _ b2) (fun hHeld => ?_)
  clear hK KK
  refine takeD (i := 4) (v := .bool false) (some 42) rfl rfl (by kernel_rfl) (by kernel_rfl) (by kernel_rfl) (fun _ _ _ h => h) (Or.inl ⟨by rfl, fun w hSw => by go_simp⟩) hHeld ?_
  simp only [Act.put, List.setIfInBounds_toArray, List.set_cons_zero, List.set_cons_succ]
  refine wpAnyH_done (by kernel_rfl) ?_ _
  have hz_w12 := b2.size
  replace LB_d := hide ((b2.block (w.heap.size) (by omega)).trans LB_d.out)
  replace LB_wa := hide ((b2.block (w4.heap.size) (by omega)).trans LB_wa.out)
  replace LB_x := hide ((b2.block (w6.heap.size) (by omega)).trans LB_x.out)
  replace LB_ga := hide ((b2.block (w8.heap.size) (by omega)).trans LB_ga.out)
  replace D_wa := hide (D_wa.out.below b2)
  replace D_x := hide (D_x.out.below b2)
  replace D_ga := hide (D_ga.out.below b2)
  replace BB := hide (BB.out.trans (b2.mono (by have := BB.out.size; omega)))
  clear b1 b2 SA hHeld
  have ec_d0 : w12.cell? ⟨w.heap.size, 0, none⟩ = some (.slice sa nS sk) := by have h := LB_d.out; simp [World.cell?, h]
  have ec_d1 : w12.cell? ⟨w.heap.size, 1, none⟩ = some (.slice ca nC ck) := by have h := LB_d.out; simp [World.cell?, h]
  have ec_wa0 : w12.cell? ⟨w4.heap.size, 0, none⟩ = some (.slice waa rS wab) := by have h := LB_wa.out; simp [World.cell?, h]
  have ec_wa1 : w12.cell? ⟨w4.heap.size, 1, none⟩ = some (.slice wac rC wad) := by have h := LB_wa.out; simp [World.cell?, h]
  have ec_wa2 : w12.cell? ⟨w4.heap.size, 2, none⟩ = some (.string rt) := by have h := LB_wa.out; simp [World.cell?, h]
  have ec_wa3 : w12.cell? ⟨w4.heap.size, 3, none⟩ = some (.int .i64 rc) := by have h := LB_wa.out; simp [World.cell?, h]
  have ec_x0 : w12.cell? ⟨w6.heap.size, 0, none⟩ = some (.slice xa nS xb) := by have h := LB_x.out; simp [World.cell?, h]
  have ec_x1 : w12.cell? ⟨w6.heap.size, 1, none⟩ = some (.slice xc nC xd) := by have h := LB_x.out; simp [World.cell?, h]
  have ec_ga0 : w12.cell? ⟨w8.heap.size, 0, none⟩ = some (.slice gaa rS gab) := by have h := LB_ga.out; simp [World.cell?, h]
  have ec_ga1 : w12.cell? ⟨w8.heap.size, 1, none⟩ = some (.slice gac rC gad) := by have h := LB_ga.out; simp [World.cell?, h]
  have ec_ga2 : w12.cell? ⟨w8.heap.size, 2, none⟩ = some (.string rt) := by have h := LB_ga.out; simp [World.cell?, h]
  have ec_ga3 : w12.cell? ⟨w8.heap.size, 3, none⟩ = some (.int .i64 rc) := by have h := LB_ga.out; simp [World.cell?, h]
  go_wp2_with fail
  refine (law_markDisk _ (w5a.heap.size) (w6.heap.size) nS S nC _ 1 w12 hS hC (by omega) (by omega) D_x.out).mono ?_
  rintro e w13 ⟨rfl, hm, ho⟩
  clear ec_d0 ec_d1 ec_wa0 ec_wa1 ec_wa2 ec_wa3 ec_x0 ec_x1 ec_ga0 ec_ga1 ec_ga2 ec_ga3
  have hz_w13 := ho.size
  replace LB_d := hide ((ho.block (w.heap.size) (by omega) (by omega)).trans LB_d.out)
  replace LB_wa := hide ((ho.block (w4.heap.size) (by omega) (by omega)).trans LB_wa.out)
  replace LB_x := hide ((ho.block (w6.heap.size) (by omega) (by omega)).trans LB_x.out)
  replace LB_ga := hide ((ho.block (w8.heap.size) (by omega) (by omega)).trans LB_ga.out)
  replace D_wa := hide (D_wa.out.only ho (by omega))
  replace D_ga := hide (D_ga.out.only ho (by omega))
  replace BB := hide (BB.out.trans (ho.below (by omega) |>.mono (by omega)))
  clear hm
  clear ho
  obtain ⟨kx, hkx⟩ : ∃ kx, kx = 1 + nS + 2 * nC := ⟨_, rfl⟩
  rw [← hkx]
  have hkx0 : ¬ (kx : Int) < 0 := by omega
  have hkx2 : kx ≤ 4194304 := by omega
  clear hkx
  have ec_d0 : w13.cell? ⟨w.heap.size, 0, none⟩ = some (.slice sa nS sk) := by have h := LB_d.out; simp [World.cell?, h]
  have ec_d1 : w13.cell? ⟨w.heap.size, 1, none⟩ = some (.slice ca nC ck) := by have h := LB_d.out; simp [World.cell?, h]
  have ec_wa0 : w13.cell? ⟨w4.heap.size, 0, none⟩ = some (.slice waa rS wab) := by have h := LB_wa.out; simp [World.cell?, h]
  have ec_wa1 : w13.cell? ⟨w4.heap.size, 1, none⟩ = some (.slice wac rC wad) := by have h := LB_wa.out; simp [World.cell?, h]
  have ec_wa2 : w13.cell? ⟨w4.heap.size, 2, none⟩ = some (.string rt) := by have h := LB_wa.out; simp [World.cell?, h]
  have ec_wa3 : w13.cell? ⟨w4.heap.size, 3, none⟩ = some (.int .i64 rc) := by have h := LB_wa.out; simp [World.cell?, h]
  have ec_x0 : w13.cell? ⟨w6.heap.size, 0, none⟩ = some (.slice xa nS xb) := by have h := LB_x.out; simp [World.cell?, h]
  have ec_x1 : w13.cell? ⟨w6.heap.size, 1, none⟩ = some (.slice xc nC xd) := by have h := LB_x.out; simp [World.cell?, h]
  have ec_ga0 : w13.cell? ⟨w8.heap.size, 0, none⟩ = some (.slice gaa rS gab) := by have h := LB_ga.out; simp [World.cell?, h]
  have ec_ga1 : w13.cell? ⟨w8.heap.size, 1, none⟩ = some (.slice gac rC gad) := by have h := LB_ga.out; simp [World.cell?, h]
  have ec_ga2 : w13.cell? ⟨w8.heap.size, 2, none⟩ = some (.string rt) := by have h := LB_ga.out; simp [World.cell?, h]
  have ec_ga3 : w13.cell? ⟨w8.heap.size, 3, none⟩ = some (.int .i64 rc) := by have h := LB_ga.out; simp [World.cell?, h]
  go_wp2_with fail
  refine (law_eqDiskOut _ _ _ _ rt rc _ _ _ _ rS RS rC RA RX w13 hrS hrC D_ga.out D_wa.out).mono ?_
  rintro e w14 ⟨rfl, hb⟩
  clear ec_d0 ec_d1 ec_wa0 ec_wa1 ec_wa2 ec_wa3 ec_x0 ec_x1 ec_ga0 ec_ga1 ec_ga2 ec_ga3
  have hz_w14 := hb.size
  replace LB_d := hide ((hb.block (w.heap.size) (by omega)).trans LB_d.out)
  replace LB_wa := hide ((hb.block (w4.heap.size) (by omega)).trans LB_wa.out)
  replace LB_x := hide ((hb.block (w6.heap.size) (by omega)).trans LB_x.out)
  replace LB_ga := hide ((hb.block (w8.heap.size) (by omega)).trans LB_ga.out)
  replace D_wa := hide (D_wa.out.below hb)
  replace D_ga := hide (D_ga.out.below hb)
  replace BB := hide (BB.out.trans (hb.mono (by have := BB.out.size; omega)))
  clear hb
  have ec_d0 : w14.cell? ⟨w.heap.size, 0, none⟩ = some (.slice sa nS sk) := by have h := LB_d.out; simp [World.cell?, h]
  have ec_d1 : w14.cell? ⟨w.heap.size, 1, none⟩ = some (.slice ca nC ck) := by have h := LB_d.out; simp [World.cell?, h]
  have ec_wa0 : w14.cell? ⟨w4.heap.size, 0, none⟩ = some (.slice waa rS wab) := by have h := LB_wa.out; simp [World.cell?, h]
  have ec_wa1 : w14.cell? ⟨w4.heap.size, 1, none⟩ = some (.slice wac rC wad) := by have h := LB_wa.out; simp [World.cell?, h]
  have ec_wa2 : w14.cell? ⟨w4.heap.size, 2, none⟩ = some (.string rt) := by have h := LB_wa.out; simp [World.cell?, h]
  have ec_wa3 : w14.cell? ⟨w4.heap.size, 3, none⟩ = some (.int .i64 rc) := by have h := LB_wa.out; simp [World.cell?, h]
  have ec_x0 : w14.cell? ⟨w6.heap.size, 0, none⟩ = some (.slice xa nS xb) := by have h := LB_x.out; simp [World.cell?, h]
  have ec_x1 : w14.cell? ⟨w6.heap.size, 1, none⟩ = some (.slice xc nC xd) := by have h := LB_x.out; simp [World.cell?, h]
  have ec_ga0 : w14.cell? ⟨w8.heap.size, 0, none⟩ = some (.slice gaa rS gab) := by have h := LB_ga.out; simp [World.cell?, h]
  have ec_ga1 : w14.cell? ⟨w8.heap.size, 1, none⟩ = some (.slice gac rC gad) := by have h := LB_ga.out; simp [World.cell?, h]
  have ec_ga2 : w14.cell? ⟨w8.heap.size, 2, none⟩ = some (.string rt) := by have h := LB_ga.out; simp [World.cell?, h]
  have ec_ga3 : w14.cell? ⟨w8.heap.size, 3, none⟩ = some (.int .i64 rc) := by have h := LB_ga.out; simp [World.cell?, h]
  go_wp2_with fail
  refine (law_markDiskOut _ _ rt rc (w7a.heap.size) (w8.heap.size) rS RS rC _ 1 w14 hrS hrC (by omega) (by omega) D_ga.out).mono ?_
  rintro e w15 ⟨rfl, hm, ho⟩
  clear ec_d0 ec_d1 ec_wa0 ec_wa1 ec_wa2 ec_wa3 ec_x0 ec_x1 ec_ga0 ec_ga1 ec_ga2 ec_ga3
  have hz_w15 := ho.size
  replace LB_d := hide ((ho.block (w.heap.size) (by omega) (by omega)).trans LB_d.out)
  replace LB_wa := hide ((ho.block (w4.heap.size) (by omega) (by omega)).trans LB_wa.out)
  replace LB_x := hide ((ho.block (w6.heap.size) (by omega) (by omega)).trans LB_x.out)
  replace LB_ga := hide ((ho.block (w8.heap.size) (by omega) (by omega)).trans LB_ga.out)
  replace D_wa := hide (D_wa.out.only ho (by omega))
  replace BB := hide (BB.out.trans (ho.below (by omega) |>.mono (by omega)))
  have D_MV := hide hm
  clear hm
  clear ho
  obtain ⟨q, hq⟩ : ∃ q, q = 1 + rS + 2 * rC := ⟨_, rfl⟩
  have HQ := hide hq
  rw [← hq]
  have hq0 : ¬ (q : Int) < 0 := by omega
  clear hq
  have ec_d0 : w15.cell? ⟨w.heap.size, 0, none⟩ = some (.slice sa nS sk) := by have h := LB_d.out; simp [World.cell?, h]
  have ec_d1 : w15.cell? ⟨w.heap.size, 1, none⟩ = some (.slice ca nC ck) := by have h := LB_d.out; simp [World.cell?, h]
  have ec_wa0 : w15.cell? ⟨w4.heap.size, 0, none⟩ = some (.slice waa rS wab) := by have h := LB_wa.out; simp [World.cell?, h]
  have ec_wa1 : w15.cell? ⟨w4.heap.size, 1, none⟩ = some (.slice wac rC wad) := by have h := LB_wa.out; simp [World.cell?, h]
  have ec_wa2 : w15.cell? ⟨w4.heap.size, 2, none⟩ = some (.string rt) := by have h := LB_wa.out; simp [World.cell?, h]
  have ec_wa3 : w15.cell? ⟨w4.heap.size, 3, none⟩ = some (.int .i64 rc) := by have h := LB_wa.out; simp [World.cell?, h]
  have ec_x0 : w15.cell? ⟨w6.heap.size, 0, none⟩ = some (.slice xa nS xb) := by have h := LB_x.out; simp [World.cell?, h]
  have ec_x1 : w15.cell? ⟨w6.heap.size, 1, none⟩ = some (.slice xc nC xd) := by have h := LB_x.out; simp [World.cell?, h]
  have ec_ga0 : w15.cell? ⟨w8.heap.size, 0, none⟩ = some (.slice gaa rS gab) := by have h := LB_ga.out; simp [World.cell?, h]
  have ec_ga1 : w15.cell? ⟨w8.heap.size, 1, none⟩ = some (.slice gac rC gad) := by have h := LB_ga.out; simp [World.cell?, h]
  have ec_ga2 : w15.cell? ⟨w8.heap.size, 2, none⟩ = some (.string rt) := by have h := LB_ga.out; simp [World.cell?, h]
  have ec_ga3 : w15.cell? ⟨w8.heap.size, 3, none⟩ = some (.int .i64 rc) := by have h := LB_ga.out; simp [World.cell?, h]
  go_wp2_with fail
  refine (law_heldDiskOut _ _ rt rc (w7a.heap.size) (w8.heap.size) rS rC 1 w15 hrS hrC (by omega) D_MV.out).mono ?_
  rintro e w16 ⟨rfl, hb⟩
  rw [← HQ.out]
  clear ec_d0 ec_d1 ec_wa0 ec_wa1 ec_wa2 ec_wa3 ec_x0 ec_x1 ec_ga0 ec_ga1 ec_ga2 ec_ga3
  have hz_w16 := hb.size
  replace LB_d := hide ((hb.block (w.heap.size) (by omega)).trans LB_d.out)
  replace LB_wa := hide ((hb.block (w4.heap.size) (by omega)).trans LB_wa.out)
  replace LB_x := hide ((hb.block (w6.heap.size) (by omega)).trans LB_x.out)
  replace LB_ga := hide ((hb.block (w8.heap.size) (by omega)).trans LB_ga.out)
  replace D_wa := hide (D_wa.out.below hb)
  replace D_MV := hide (D_MV.out.below hb)
  replace BB := hide (BB.out.trans (hb.mono (by have := BB.out.size; omega)))
  clear hb
  have ec_d0 : w16.cell? ⟨w.heap.size, 0, none⟩ = some (.slice sa nS sk) := by have h := LB_d.out; simp [World.cell?, h]
  have ec_d1 : w16.cell? ⟨w.heap.size, 1, none⟩ = some (.slice ca nC ck) := by have h := LB_d.out; simp [World.cell?, h]
  have ec_wa0 : w16.cell? ⟨w4.heap.size, 0, none⟩ = some (.slice waa rS wab) := by have h := LB_wa.out; simp [World.cell?, h]
  have ec_wa1 : w16.cell? ⟨w4.heap.size, 1, none⟩ = some (.slice wac rC wad) := by have h := LB_wa.out; simp [World.cell?, h]
  have ec_wa2 : w16.cell? ⟨w4.heap.size, 2, none⟩ = some (.string rt) := by have h := LB_wa.out; simp [World.cell?, h]
  have ec_wa3 : w16.cell? ⟨w4.heap.size, 3, none⟩ = some (.int .i64 rc) := by have h := LB_wa.out; simp [World.cell?, h]
  have ec_x0 : w16.cell? ⟨w6.heap.size, 0, none⟩ = some (.slice xa nS xb) := by have h := LB_x.out; simp [World.cell?, h]
  have ec_x1 : w16.cell? ⟨w6.heap.size, 1, none⟩ = some (.slice xc nC xd) := by have h := LB_x.out; simp [World.cell?, h]
  have ec_ga0 : w16.cell? ⟨w8.heap.size, 0, none⟩ = some (.slice gaa rS gab) := by have h := LB_ga.out; simp [World.cell?, h]
  have ec_ga1 : w16.cell? ⟨w8.heap.size, 1, none⟩ = some (.slice gac rC gad) := by have h := LB_ga.out; simp [World.cell?, h]
  have ec_ga2 : w16.cell? ⟨w8.heap.size, 2, none⟩ = some (.string rt) := by have h := LB_ga.out; simp [World.cell?, h]
  have ec_ga3 : w16.cell? ⟨w8.heap.size, 3, none⟩ = some (.int .i64 rc) := by have h := LB_ga.out; simp [World.cell?, h]
  go_wp2_with fail
  refine (law_toDisk _ nS S nC A X w16 hS hC ((HI.out.below BB.out).wide BB.out.size)).mono ?_
  rintro e w17 ⟨o, rfl, hd, hb⟩
  obtain ⟨za, zb, zc, zd, eo⟩ := hd.shape
  subst eo
  clear ec_d0 ec_d1 ec_wa0 ec_wa1 ec_wa2 ec_wa3 ec_x0 ec_x1 ec_ga0 ec_ga1 ec_ga2 ec_ga3
  have hz_w17 := hb.size
  replace LB_d := hide ((hb.block (w.heap.size) (by omega)).trans LB_d.out)
  replace LB_wa := hide ((hb.block (w4.heap.size) (by omega)).trans LB_wa.out)
  replace LB_x := hide ((hb.block (w6.heap.size) (by omega)).trans LB_x.out)
  replace LB_ga := hide ((hb.block (w8.heap.size) (by omega)).trans LB_ga.out)
  replace D_wa := hide (D_wa.out.below hb)
  replace D_MV := hide (D_MV.out.below hb)
  replace BB := hide (BB.out.trans (hb.mono (by have := BB.out.size; omega)))
  clear hb
  have D_z := hide hd
  clear hd
  have ec_d0 : w17.cell? ⟨w.heap.size, 0, none⟩ = some (.slice sa nS sk) := by have h := LB_d.out; simp [World.cell?, h]
  have ec_d1 : w17.cell? ⟨w.heap.size, 1, none⟩ = some (.slice ca nC ck) := by have h := LB_d.out; simp [World.cell?, h]
  have ec_wa0 : w17.cell? ⟨w4.heap.size, 0, none⟩ = some (.slice waa rS wab) := by have h := LB_wa.out; simp [World.cell?, h]
  have ec_wa1 : w17.cell? ⟨w4.heap.size, 1, none⟩ = some (.slice wac rC wad) := by have h := LB_wa.out; simp [World.cell?, h]
  have ec_wa2 : w17.cell? ⟨w4.heap.size, 2, none⟩ = some (.string rt) := by have h := LB_wa.out; simp [World.cell?, h]
  have ec_wa3 : w17.cell? ⟨w4.heap.size, 3, none⟩ = some (.int .i64 rc) := by have h := LB_wa.out; simp [World.cell?, h]
  have ec_x0 : w17.cell? ⟨w6.heap.size, 0, none⟩ = some (.slice xa nS xb) := by have h := LB_x.out; simp [World.cell?, h]
  have ec_x1 : w17.cell? ⟨w6.heap.size, 1, none⟩ = some (.slice xc nC xd) := by have h := LB_x.out; simp [World.cell?, h]
  have ec_ga0 : w17.cell? ⟨w8.heap.size, 0, none⟩ = some (.slice gaa rS gab) := by have h := LB_ga.out; simp [World.cell?, h]
  have ec_ga1 : w17.cell? ⟨w8.heap.size, 1, none⟩ = some (.slice gac rC gad) := by have h := LB_ga.out; simp [World.cell?, h]
  have ec_ga2 : w17.cell? ⟨w8.heap.size, 2, none⟩ = some (.string rt) := by have h := LB_ga.out; simp [World.cell?, h]
  have ec_ga3 : w17.cell? ⟨w8.heap.size, 3, none⟩ = some (.int .i64 rc) := by have h := LB_ga.out; simp [World.cell?, h]
  go_wp2_with fail
  refine (IP.out w17 _ (D_z.out.sli)).mono ?_
  rintro e w18 ⟨so, co, rfl, hd, hb⟩
  obtain ⟨haa, hab, hac, had, eo1, eo2⟩ := hd.shape2
  subst eo1 eo2
  clear ec_d0 ec_d1 ec_wa0 ec_wa1 ec_wa2 ec_wa3 ec_x0 ec_x1 ec_ga0 ec_ga1 ec_ga2 ec_ga3
  have hz_w18 := hb.size
  replace LB_d := hide ((hb.block (w.heap.size) (by omega)).trans LB_d.out)
  replace LB_wa := hide ((hb.block (w4.heap.size) (by omega)).trans LB_wa.out)
  replace LB_x := hide ((hb.block (w6.heap.size) (by omega)).trans LB_x.out)
  replace LB_ga := hide ((hb.block (w8.heap.size) (by omega)).trans LB_ga.out)
  replace D_wa := hide (D_wa.out.below hb)
  replace D_MV := hide (D_MV.out.below hb)
  replace D_z := hide (D_z.out.below hb)
  replace BB := hide (BB.out.trans (hb.mono (by have := BB.out.size; omega)))
  clear hb
  have D_ha := hide hd
  clear hd
  have al0 : Below w18.heap.size w18 (w18.alloc (.cells #[.slice haa rS hab, .slice hac rC had, .string rt, .int .i64 rc] 30)) := (Below.refl _ _).alloc (Nat.le_refl _) _
  have al1 : (w18.alloc (.cells #[.slice haa rS hab, .slice hac rC had, .string rt, .int .i64 rc] 30)).heap[w18.heap.size]? = some (.cells #[.slice haa rS hab, .slice hac rC had, .string rt, .int .i64 rc] 30) := heap_alloc_new _ _
  have al2 : w18.heap.size < (w18.alloc (.cells #[.slice haa rS hab, .slice hac rC had, .string rt, .int .i64 rc] 30)).heap.size := by simp
  have AL := hide (And.intro al0 al1)
  clear al0 al1
  have ed_d0 : (w18.alloc (.cells #[.slice haa rS hab, .slice hac rC had, .string rt, .int .i64 rc] 30)).cell? ⟨w.heap.size, 0, none⟩ = some (.slice sa nS sk) := by have h := (AL.out.1.block (w.heap.size) (by omega)).trans LB_d.out; simp [World.cell?, h]
  have ed_d1 : (w18.alloc (.cells #[.slice haa rS hab, .slice hac rC had, .string rt, .int .i64 rc] 30)).cell? ⟨w.heap.size, 1, none⟩ = some (.slice ca nC ck) := by have h := (AL.out.1.block (w.heap.size) (by omega)).trans LB_d.out; simp [World.cell?, h]
  have ed_wa0 : (w18.alloc (.cells #[.slice haa rS hab, .slice hac rC had, .string rt, .int .i64 rc] 30)).cell? ⟨w4.heap.size, 0, none⟩ = some (.slice waa rS wab) := by have h := (AL.out.1.block (w4.heap.size) (by omega)).trans LB_wa.out; simp [World.cell?, h]
  have ed_wa1 : (w18.alloc (.cells #[.slice haa rS hab, .slice hac rC had, .string rt, .int .i64 rc] 30)).cell? ⟨w4.heap.size, 1, none⟩ = some (.slice wac rC wad) := by have h := (AL.out.1.block (w4.heap.size) (by omega)).trans LB_wa.out; simp [World.cell?, h]
  have ed_wa2 : (w18.alloc (.cells #[.slice haa rS hab, .slice hac rC had, .string rt, .int .i64 rc] 30)).cell? ⟨w4.heap.size, 2, none⟩ = some (.string rt) := by have h := (AL.out.1.block (w4.heap.size) (by omega)).trans LB_wa.out; simp [World.cell?, h]
  have ed_wa3 : (w18.alloc (.cells #[.slice haa rS hab, .slice hac rC had, .string rt, .int .i64 rc] 30)).cell? ⟨w4.heap.size, 3, none⟩ = some (.int .i64 rc) := by have h := (AL.out.1.block (w4.heap.size) (by omega)).trans LB_wa.out; simp [World.cell?, h]
  have ed_x0 : (w18.alloc (.cells #[.slice haa rS hab, .slice hac rC had, .string rt, .int .i64 rc] 30)).cell? ⟨w6.heap.size, 0, none⟩ = some (.slice xa nS xb) := by have h := (AL.out.1.block (w6.heap.size) (by omega)).trans LB_x.out; simp [World.cell?, h]
  have ed_x1 : (w18.alloc (.cells #[.slice haa rS hab, .slice hac rC had, .string rt, .int .i64 rc] 30)).cell? ⟨w6.heap.size, 1, none⟩ = some (.slice xc nC xd) := by have h := (AL.out.1.block (w6.heap.size) (by omega)).trans LB_x.out; simp [World.cell?, h]
  have ed_ga0 : (w18.alloc (.cells #[.slice haa rS hab, .slice hac rC had, .string rt, .int .i64 rc] 30)).cell? ⟨w8.heap.size, 0, none⟩ = some (.slice gaa rS gab) := by have h := (AL.out.1.block (w8.heap.size) (by omega)).trans LB_ga.out; simp [World.cell?, h]
  have ed_ga1 : (w18.alloc (.cells #[.slice haa rS hab, .slice hac rC had, .string rt, .int .i64 rc] 30)).cell? ⟨w8.heap.size, 1, none⟩ = some (.slice gac rC gad) := by have h := (AL.out.1.block (w8.heap.size) (by omega)).trans LB_ga.out; simp [World.cell?, h]
  have ed_ga2 : (w18.alloc (.cells #[.slice haa rS hab, .slice hac rC had, .string rt, .int .i64 rc] 30)).cell? ⟨w8.heap.size, 2, none⟩ = some (.string rt) := by have h := (AL.out.1.block (w8.heap.size) (by omega)).trans LB_ga.out; simp [World.cell?, h]
  have ed_ga3 : (w18.alloc (.cells #[.slice haa rS hab, .slice hac rC had, .string rt, .int .i64 rc] 30)).cell? ⟨w8.heap.size, 3, none⟩ = some (.int .i64 rc) := by have h := (AL.out.1.block (w8.heap.size) (by omega)).trans LB_ga.out; simp [World.cell?, h]
  go_wp2_with fail
  generalize (w18.alloc (.cells #[.slice haa rS hab, .slice hac rC had, .string rt, .int .i64 rc] 30)) = w19a at *
  clear ed_d0 ed_d1 ed_wa0 ed_wa1 ed_wa2 ed_wa3 ed_x0 ed_x1 ed_ga0 ed_ga1 ed_ga2 ed_ga3
  obtain ⟨al0, al1⟩ := AL.out
  replace LB_d := hide ((al0.block (w.heap.size) (by omega)).trans LB_d.out)
  replace LB_wa := hide ((al0.block (w4.heap.size) (by omega)).trans LB_wa.out)
  replace LB_x := hide ((al0.block (w6.heap.size) (by omega)).trans LB_x.out)
  replace LB_ga := hide ((al0.block (w8.heap.size) (by omega)).trans LB_ga.out)
  replace D_wa := hide (D_wa.out.below al0)
  replace D_MV := hide (D_MV.out.below al0)
  replace D_ha := hide (D_ha.out.below al0)
  replace BB := hide (BB.out.trans (al0.mono (by have := BB.out.size; omega)))
  have LB_ha := hide al1
  have hz_w19a := al2
  clear al0 al1 AL al2
  refine (law_eqDiskOut _ _ _ _ rt rc _ _ _ _ rS RS rC RA RX w19a hrS hrC D_ha.out D_wa.out).mono ?_
  rintro e w20 ⟨rfl, hb⟩
  have hz_w20 := hb.size
  replace LB_d := hide ((hb.block (w.heap.size) (by omega)).trans LB_d.out)
  replace LB_wa := hide ((hb.block (w4.heap.size) (by omega)).trans LB_wa.out)
  replace LB_x := hide ((hb.block (w6.heap.size) (by omega)).trans LB_x.out)
  replace LB_ga := hide ((hb.block (w8.heap.size) (by omega)).trans LB_ga.out)
  replace LB_ha := hide ((hb.block (w18.heap.size) (by omega)).trans LB_ha.out)
  replace D_wa := hide (D_wa.out.below hb)
  replace D_MV := hide (D_MV.out.below hb)
  replace D_ha := hide (D_ha.out.below hb)
  replace BB := hide (BB.out.trans (hb.mono (by have := BB.out.size; omega)))
  clear hb
  have ec_d0 : w20.cell? ⟨w.heap.size, 0, none⟩ = some (.slice sa nS sk) := by have h := LB_d.out; simp [World.cell?, h]
  have ec_d1 : w20.cell? ⟨w.heap.size, 1, none⟩ = some (.slice ca nC ck) := by have h := LB_d.out; simp [World.cell?, h]
  have ec_wa0 : w20.cell? ⟨w4.heap.size, 0, none⟩ = some (.slice waa rS wab) := by have h := LB_wa.out; simp [World.cell?, h]
  have ec_wa1 : w20.cell? ⟨w4.heap.size, 1, none⟩ = some (.slice wac rC wad) := by have h := LB_wa.out; simp [World.cell?, h]
  have ec_wa2 : w20.cell? ⟨w4.heap.size, 2, none⟩ = some (.string rt) := by have h := LB_wa.out; simp [World.cell?, h]
  have ec_wa3 : w20.cell? ⟨w4.heap.size, 3, none⟩ = some (.int .i64 rc) := by have h := LB_wa.out; simp [World.cell?, h]
  have ec_x0 : w20.cell? ⟨w6.heap.size, 0, none⟩ = some (.slice xa nS xb) := by have h := LB_x.out; simp [World.cell?, h]
  have ec_x1 : w20.cell? ⟨w6.heap.size, 1, none⟩ = some (.slice xc nC xd) := by have h := LB_x.out; simp [World.cell?, h]
  have ec_ga0 : w20.cell? ⟨w8.heap.size, 0, none⟩ = some (.slice gaa rS gab) := by have h := LB_ga.out; simp [World.cell?, h]
  have ec_ga1 : w20.cell? ⟨w8.heap.size, 1, none⟩ = some (.slice gac rC gad) := by have h := LB_ga.out; simp [World.cell?, h]
  have ec_ga2 : w20.cell? ⟨w8.heap.size, 2, none⟩ = some (.string rt) := by have h := LB_ga.out; simp [World.cell?, h]
  have ec_ga3 : w20.cell? ⟨w8.heap.size, 3, none⟩ = some (.int .i64 rc) := by have h := LB_ga.out; simp [World.cell?, h]
  have ec_ha0 : w20.cell? ⟨w18.heap.size, 0, none⟩ = some (.slice haa rS hab) := by have h := LB_ha.out; simp [World.cell?, h]
  have ec_ha1 : w20.cell? ⟨w18.heap.size, 1, none⟩ = some (.slice hac rC had) := by have h := LB_ha.out; simp [World.cell?, h]
  have ec_ha2 : w20.cell? ⟨w18.heap.size, 2, none⟩ = some (.string rt) := by have h := LB_ha.out; simp [World.cell?, h]
  have ec_ha3 : w20.cell? ⟨w18.heap.size, 3, none⟩ = some (.int .i64 rc) := by have h := LB_ha.out; simp [World.cell?, h]
  go_wp2_with fail
  refine (law_heldDiskOut _ _ rt rc (w7a.heap.size) (w8.heap.size) rS rC 1 w20 hrS hrC (by omega) D_MV.out).mono ?_
  rintro e w21 ⟨rfl, hb⟩
  rw [← HQ.out]
  clear ec_d0 ec_d1 ec_wa0 ec_wa1 ec_wa2 ec_wa3 ec_x0 ec_x1 ec_ga0 ec_ga1 ec_ga2 ec_ga3 ec_ha0 ec_ha1 ec_ha2 ec_ha3
  have hz_w21 := hb.size
  replace LB_d := hide ((hb.block (w.heap.size) (by omega)).trans LB_d.out)
  replace LB_wa := hide ((hb.block (w4.heap.size) (by omega)).trans LB_wa.out)
  replace LB_x := hide ((hb.block (w6.heap.size) (by omega)).trans LB_x.out)
  replace LB_ga := hide ((hb.block (w8.heap.size) (by omega)).trans LB_ga.out)
  replace LB_ha := hide ((hb.block (w18.heap.size) (by omega)).trans LB_ha.out)
  replace D_MV := hide (D_MV.out.below hb)
  replace BB := hide (BB.out.trans (hb.mono (by have := BB.out.size; omega)))
  clear hb
  have ec_d0 : w21.cell? ⟨w.heap.size, 0, none⟩ = some (.slice sa nS sk) := by have h := LB_d.out; simp [World.cell?, h]
  have ec_d1 : w21.cell? ⟨w.heap.size, 1, none⟩ = some (.slice ca nC ck) := by have h := LB_d.out; simp [World.cell?, h]
  have ec_wa0 : w21.cell? ⟨w4.heap.size, 0, none⟩ = some (.slice waa rS wab) := by have h := LB_wa.out; simp [World.cell?, h]
  have ec_wa1 : w21.cell? ⟨w4.heap.size, 1, none⟩ = some (.slice wac rC wad) := by have h := LB_wa.out; simp [World.cell?, h]
  have ec_wa2 : w21.cell? ⟨w4.heap.size, 2, none⟩ = some (.string rt) := by have h := LB_wa.out; simp [World.cell?, h]
  have ec_wa3 : w21.cell? ⟨w4.heap.size, 3, none⟩ = some (.int .i64 rc) := by have h := LB_wa.out; simp [World.cell?, h]
  have ec_x0 : w21.cell? ⟨w6.heap.size, 0, none⟩ = some (.slice xa nS xb) := by have h := LB_x.out; simp [World.cell?, h]
  have ec_x1 : w21.cell? ⟨w6.heap.size, 1, none⟩ = some (.slice xc nC xd) := by have h := LB_x.out; simp [World.cell?, h]
  have ec_ga0 : w21.cell? ⟨w8.heap.size, 0, none⟩ = some (.slice gaa rS gab) := by have h := LB_ga.out; simp [World.cell?, h]
  have ec_ga1 : w21.cell? ⟨w8.heap.size, 1, none⟩ = some (.slice gac rC gad) := by have h := LB_ga.out; simp [World.cell?, h]
  have ec_ga2 : w21.cell? ⟨w8.heap.size, 2, none⟩ = some (.string rt) := by have h := LB_ga.out; simp [World.cell?, h]
  have ec_ga3 : w21.cell? ⟨w8.heap.size, 3, none⟩ = some (.int .i64 rc) := by have h := LB_ga.out; simp [World.cell?, h]
  have ec_ha0 : w21.cell? ⟨w18.heap.size, 0, none⟩ = some (.slice haa rS hab) := by have h := LB_ha.out; simp [World.cell?, h]
  have ec_ha1 : w21.cell? ⟨w18.heap.size, 1, none⟩ = some (.slice hac rC had) := by have h := LB_ha.out; simp [World.cell?, h]
  have ec_ha2 : w21.cell? ⟨w18.heap.size, 2, none⟩ = some (.string rt) := by have h := LB_ha.out; simp [World.cell?, h]
  have ec_ha3 : w21.cell? ⟨w18.heap.size, 3, none⟩ = some (.int .i64 rc) := by have h := LB_ha.out; simp [World.cell?, h]
  go_wp2_with fail
  go_ret
  exact ⟨rfl, BB.out⟩
end Go.Proofs.Ytipeelkmmjgehaa
/- An answer without a disk. -/
namespace Go.Proofs.Ytipeelkmmjgehaa
open Go Go.RowKit
theorem dskV_nil (w : World) (lo hi : Nat) (fS fC : Nat → Value) : dskV w (.agg #[.slice none 0 0, .slice none 0 0]) lo hi 0 fS 0 fC :=
  ⟨_, _, rfl, ⟨none, 0, rfl, Nat.le_refl _, .inl rfl⟩, ⟨none, 0, rfl, Nat.le_refl _, .inl rfl⟩, (fun k hk => by cases hk), (fun k hk => by cases hk), (fun k hk => by cases hk)⟩
theorem dout_nil {f : Nat} {args : Array Value} {u : World} {t : ByteArray} {c : Int} (S : Nat → ByteArray) (A : Nat → Int) (X : Nat → ByteArray) (h : Calls Try.prog f args u fun e w' => e = .returned (doutV (.slice none 0 0) (.slice none 0 0) t c) ∧ Below u.heap.size u w') :
    Calls Try.prog f args u fun e w1 => ∃ so co, e = .returned (.agg #[so, co, .string t, .int .i64 c]) ∧ dskV w1 (.agg #[so, co]) u.heap.size w1.heap.size 0 (sC S) 0 (wF A X) ∧ Below u.heap.size u w1 :=
  h.mono fun _ w1 ⟨h1, h2⟩ => ⟨_, _, h1, dskV_nil w1 _ _ _ _, h2⟩
end Go.Proofs.Ytipeelkmmjgehaa
/- The walk over the program's ExtentPatch (written by mkextpt.py). -/
namespace Go.Proofs.Ytipeelkmmjgehaa
open Go Go.RowKit
theorem own_news {w : World} {base e s n : Nat} {xa : Option Addr} {n2 c : Nat} {xs : List Value} (h : w.ownsRow base e s (.slice xa n2 c) n xs) : n = 0 ∨ ∃ ad, xa = some ad ∧ ∀ j u, xs[j]? = some u → w.cell? (ad.add j) = some u := by
  have h0 := h
  obtain ⟨hl, ⟨_, h1⟩ | ⟨g, cap, cur, e1, _, _, _, _, _, _⟩⟩ := h
  · exact .inl h1
  · cases e1
    refine .inr ⟨_, rfl, fun j u hj => ?_⟩
    have hj2 : j < n * s := by rw [← hl]; exact (List.getElem?_eq_some_iff.1 hj).1
    have := h0.cellAt j hj2
    have e : (⟨g, 0, none⟩ : Addr).add j = ⟨g, j, none⟩ := by by_cases hz : j = 0 <;> simp [Addr.add, hz]
    rw [e, this]; exact hj
set_option maxRecDepth 100000 in
set_option maxHeartbeats 3200000 in
theorem imp_extentPatch_long (v : Value) (nS : Nat) (S : Nat → ByteArray) (nC : Nat) (A : Nat → Int) (X : Nat → ByteArray) (a : Int) (t : ByteArray) (w : World) (hts : 20000 < t.size) (htm : t.size ≤ 9223372036854775807) (h : dskI w w.heap.size v nS S nC A X) :
    Calls Try.prog 10 #[v, .int .i64 a, .string t] w fun e w' => e = .returned (doutV (.slice none 0 0) (.slice none 0 0) ⟨#[]⟩ 2) ∧ Below w.heap.size w w' := by
  obtain ⟨sv, cv, rfl, hs, hc⟩ := h
  have HI := hide (show dskI w w.heap.size (.agg #[sv, cv]) nS S nC A X from ⟨sv, cv, rfl, hs, hc⟩)
  obtain ⟨sa, sk, e1⟩ : ∃ a c, sv = .slice a nS c := by obtain ⟨a, c, e, _⟩ := hs; exact ⟨a, c, e⟩
  obtain ⟨ca, ck, e2⟩ : ∃ a c, cv = .slice a nC c := by obtain ⟨a, c, e, _⟩ := hc; exact ⟨a, c, e⟩
  subst e1 e2
  clear hs hc
  have d1 : decide ((20000 : Int) < (t.size : Int)) = true := decide_eq_true (by omega)
  clear HI
  go_enter Try.func10, Try.ntmps10
  go_wp2_with fail
  go_returns
  exact ⟨rfl, by go_grown⟩
set_option maxRecDepth 100000 in
set_option maxHeartbeats 3200000 in
theorem imp_extentPatch (v : Value) (nS : Nat) (S : Nat → ByteArray) (nC : Nat) (A : Nat → Int) (X : Nat → ByteArray) (a : Int) (t : ByteArray) (w : World) (hts : t.size ≤ 20000) (hS : nS ≤ 1048576) (hC : nC ≤ 1048576) (h : dskI w w.heap.size v nS S nC A X) :
    Calls Try.prog 10 #[v, .int .i64 a, .string t] w fun e w' => ∃ sv cv c, e = .returned (doutV sv cv ⟨#[]⟩ c) ∧ ptCode nS S nC A X a t.size c ∧ (c ≠ 0 ∧ sv = .slice none 0 0 ∧ cv = .slice none 0 0 ∨ c = 0 ∧ ptGood nS S nC A X a t w w' sv cv) ∧ Below w.heap.size w w' := by
  obtain ⟨iw, hiw, hzw0, hzw1, hzw2⟩ := info_parts Try.infoWr
  obtain ⟨sv, cv, rfl, hs, hc⟩ := h
  have HI := hide (show dskI w w.heap.size (.agg #[sv, cv]) nS S nC A X from ⟨sv, cv, rfl, hs, hc⟩)
  obtain ⟨sa, sk, e1⟩ : ∃ a c, sv = .slice a nS c := by obtain ⟨a, c, e, _⟩ := hs; exact ⟨a, c, e⟩
  obtain ⟨ca, ck, e2⟩ : ∃ a c, cv = .slice a nC c := by obtain ⟨a, c, e, _⟩ := hc; exact ⟨a, c, e⟩
  subst e1 e2
  clear hs hc
  have d1 : decide ((20000 : Int) < (t.size : Int)) = false := decide_eq_false (by omega)
  have hts2 : (t.size : Int) ≤ 20000 := by omega
  have HQ := hide (box2 w (.cells #[.slice sa nS sk, .slice ca nC ck] 26) (.cells #[.slice none 0 0, .slice none 0 0, .string ⟨#[]⟩, .int .i64 0] 30))
  go_enter Try.func10, Try.ntmps10
  go_wp2_with fail
  obtain ⟨q0, q1, q2, q3⟩ := HQ.out
  generalize ((w.alloc (.cells #[.slice sa nS sk, .slice ca nC ck] 26)).alloc (.cells #[.slice none 0 0, .slice none 0 0, .string ⟨#[]⟩, .int .i64 0] 30)) = W2 at *
  have I2 : dskI W2 W2.heap.size (.agg #[.slice sa nS sk, .slice ca nC ck]) nS S nC A X := (HI.out.below q0).wide (by omega)
  have HS0 := hide (And.intro q2 (And.intro q3 q0))
  refine (imp_patchCode _ nS S nC A X a t.size W2 hS hC hts I2).mono ?_
  rintro e w1 ⟨c, rfl, hpc, hb1⟩
  clear q0 q2 q3 HQ
  obtain ⟨k2, k4, k5⟩ := HS0.out
  replace k2 := (hb1.block w.heap.size (by have := (Array.getElem?_eq_some_iff.1 k4).1; omega)).trans k2
  replace k4 := (hb1.block (w.heap.size + 1) (Array.getElem?_eq_some_iff.1 k4).1).trans k4
  replace k5 := k5.trans (hb1.mono k5.size)
  have HS1 := hide (And.intro k2 (And.intro k4 k5))
  have I1 := hide ((I2.below hb1).wide hb1.size)
  have hz1 := hb1.size
  have b0 : w1.cell? ⟨w.heap.size, 0, none⟩ = some (.slice sa nS sk) := by simp [World.cell?, k2]
  have b1 : w1.cell? ⟨w.heap.size, 1, none⟩ = some (.slice ca nC ck) := by simp [World.cell?, k2]
  have oc0 : w1.cell? ⟨w.heap.size + 1, 0, none⟩ = some (.slice none 0 0) := by simp [World.cell?, k4]
  have of0 : w1.frozen? ⟨w.heap.size + 1, 0, none⟩ = false := by simp [World.frozen?, k4]
  have oc1 : w1.cell? ⟨w.heap.size + 1, 1, none⟩ = some (.slice none 0 0) := by simp [World.cell?, k4]
  have of1 : w1.frozen? ⟨w.heap.size + 1, 1, none⟩ = false := by simp [World.frozen?, k4]
  have oc2 : w1.cell? ⟨w.heap.size + 1, 2, none⟩ = some (.string ⟨#[]⟩) := by simp [World.cell?, k4]
  have of2 : w1.frozen? ⟨w.heap.size + 1, 2, none⟩ = false := by simp [World.frozen?, k4]
  have oc3 : w1.cell? ⟨w.heap.size + 1, 3, none⟩ = some (.int .i64 0) := by simp [World.cell?, k4]
  have of3 : w1.frozen? ⟨w.heap.size + 1, 3, none⟩ = false := by simp [World.frozen?, k4]
  clear k2 k4 k5 HS0 hb1 I2
  have PC := hide hpc
  by_cases hc0 : c = 0
  case neg =>
    have dc : (c != 0) = true := by simp [hc0]
    have HR := hide HS1.out.2.1
    have HB := hide HS1.out.2.2
    have HC0 := hide hc0
    clear hpc hc0
    go_wp2_with fail
    have fin := set4_blk w1 (w.heap.size + 1) _ _ _ _ (.slice none 0 0) (.slice none 0 0) (.string ⟨#[]⟩) (.int .i64 c) _ HR.out
    have hbf := below_set4 HB.out (w.heap.size + 1) (by omega) (.slice none 0 0) (.slice none 0 0) (.string ⟨#[]⟩) (.int .i64 c)
    exact bodyPost_ret (results_cell_row Try.results10 _ _ (w.heap.size + 1) 30 #[.slice none 0 0, .slice none 0 0, .string ⟨#[]⟩, .int .i64 c] (0, 0) _ rfl fin Try.underlying30 rfl (by kernel_rfl)) rfl ⟨_, _, _, rfl, PC.out, .inl ⟨HC0.out, rfl, rfl⟩, hbf⟩
  subst hc0
  obtain ⟨hok, hr, hfull⟩ : dskOk nS S nC A X ∧ (0 ≤ a ∧ a ≤ 64 * (nS : Int) - (t.size : Int)) ∧ nC + touchN a.toNat t.size ≤ 400 := by
    rcases hpc with ⟨h, _⟩ | ⟨h, _⟩ | ⟨h, _⟩ | ⟨_, h1, h2, h3⟩
    · cases h
    · cases h
    · cases h
    · exact ⟨h1, h2, h3⟩
  have hn6 := hok.1
  have hn4 := hok.2.1
  obtain ⟨p0, rfl⟩ : ∃ p : Nat, a = (p : Int) := ⟨a.toNat, by omega⟩
  obtain ⟨n, hn⟩ : ∃ n, n = t.size := ⟨_, rfl⟩
  obtain ⟨K, hK⟩ : ∃ K, K = touchN p0 n := ⟨_, rfl⟩
  have hfit : p0 + n ≤ 64 * nS := by omega
  have hpb : (p0 : Int) ≤ 39680 := by omega
  have hnK : nC + K ≤ 400 := by rw [hK, hn]; exact hfull
  have HN := hide (And.intro hn hK)
  have R := hide hok
  clear hpc hok hr hfull hn hK
  clear oc0 of0 oc1 of1 oc2 of2 oc3 of3
  go_wp2_with fail
  refine (imp_viewOf _ nS S nC A X w1 R.out I1.out).mono ?_
  rintro e w3 ⟨o, rfl, hv, hb3⟩
  obtain ⟨sa2, sk2, mb, rfl, _⟩ := id hv
  have HV := hide hv
  clear b0 b1
  obtain ⟨k2, k4, k5⟩ := HS1.out
  replace k2 := (hb3.block w.heap.size (by have := (Array.getElem?_eq_some_iff.1 k4).1; omega)).trans k2
  replace k4 := (hb3.block (w.heap.size + 1) (Array.getElem?_eq_some_iff.1 k4).1).trans k4
  replace k5 := k5.trans (hb3.mono k5.size)
  have HS3 := hide (And.intro k2 (And.intro k4 k5))
  have I3 := hide ((I1.out.below hb3).wide hb3.size)
  have hz3 := hb3.size
  have hw3 : w.heap.size + 1 < w3.heap.size := (Array.getElem?_eq_some_iff.1 k4).1
  have al0 : Below w3.heap.size w3 (w3.alloc (.cells #[.slice sa2 nS sk2, .map (some mb), .slice none 0 0] 65)) := (Below.refl _ _).alloc (Nat.le_refl _) _
  have al1 : (w3.alloc (.cells #[.slice sa2 nS sk2, .map (some mb), .slice none 0 0] 65)).heap[w3.heap.size]? = some (.cells #[.slice sa2 nS sk2, .map (some mb), .slice none 0 0] 65) := heap_alloc_new _ _
  have al2 : (w3.alloc (.cells #[.slice sa2 nS sk2, .map (some mb), .slice none 0 0] 65)).heap.size = w3.heap.size + 1 := World.size_alloc _ _
  obtain ⟨cp, W5, hcv, hcp1, hcp2, z5, bl0, hrg⟩ := text_row (P := Try.prog) (w3.alloc (.cells #[.slice sa2 nS sk2, .map (some mb), .slice none 0 0] 65)) 9 22 5 t n HN.out.1.symm (by omega) Try.underlying9 Try.underlying22 Try.underlying5
  have HS5 := hide (show W5.heap[w.heap.size]? = some (.cells #[.slice sa nS sk, .slice ca nC ck] 26) ∧ W5.heap[w.heap.size + 1]? = some (.cells #[.slice none 0 0, .slice none 0 0, .string ⟨#[]⟩, .int .i64 0] 30) ∧ Below w.heap.size w W5 ∧ Below w3.heap.size w3 W5 ∧ W5.heap[w3.heap.size]? = some (.cells #[.slice sa2 nS sk2, .map (some mb), .slice none 0 0] 65) ∧ W5.rangeAt (w3.heap.size + 1) 0 (bL n (bF t)) from
    ⟨(bl0.block w.heap.size (by omega)).trans ((al0.block w.heap.size (by omega)).trans k2), (bl0.block (w.heap.size + 1) (by omega)).trans ((al0.block (w.heap.size + 1) hw3).trans k4), (k5.trans (al0.mono k5.size)).trans (bl0.mono (by omega)), al0.trans (bl0.mono (by omega)), (bl0.block w3.heap.size (by omega)).trans al1, by have hrg2 := hrg.range; rw [al2] at hrg2; exact hrg2⟩)
  replace z5 : W5.heap.size = w3.heap.size + 2 := by omega
  have z5b : w3.heap.size + 1 < W5.heap.size := by omega
  clear hb3 I1 HS1 HS3 hv k2 k4 k5 al0 al1 bl0 hrg
  go_wp2_with fail
  clear hcv al2
  obtain ⟨FF, hFF⟩ : ∃ FF, FF = flS S A X (fun _ => true) nC := ⟨_, rfl⟩
  have hFz : ∀ j, j < nS → FF j = (latM A X nC (j : Int)).getD (S j) ∧ (FF j).size = 64 := fun j hj => ⟨by rw [hFF]; exact flS_lat2 S A X nC j, by rw [hFF]; exact flS_size S A X _ nS R.out.2.2.1 nC (fun j hj => (R.out.2.2.2 j hj).2.2) j hj⟩
  have HFF := hide hFF
  clear hFF
  refine (imp_through_patch w3.heap.size (w3.heap.size + 1) n cp p0 nS sk2 nC mb sa2 (some ⟨w3.heap.size + 1, 0, none⟩) S (latM A X nC) FF t W5 hn6 hfit HN.out.1.symm hcp1 (by unfold maxLen at hcp2; omega) hFz (HV.out.below HS5.out.2.2.2.1) HS5.out.2.2.2.2.1 (.inr ⟨rfl, by omega, by omega, HS5.out.2.2.2.2.2⟩)).mono ?_
  rintro e w6 ⟨rfl, wa, wcp, ho6, hw6, hg6⟩
  rw [← HN.out.2] at ho6 hw6
  have hz6 := hg6.size
  have B36 : Below w3.heap.size w3 w6 := HS5.out.2.2.2.1.grown hg6 (by omega) (fun x hx => by cases hx; exact Nat.le_refl _)
  have k2 := (hg6.block w.heap.size (by omega) (by simp; omega)).trans HS5.out.1
  have k4 := (hg6.block (w.heap.size + 1) (by omega) (by simp; omega)).trans HS5.out.2.1
  have k5 := HS5.out.2.2.1.grown hg6 (by omega) (fun x hx => by cases hx; omega)
  have HO6 := hide ho6
  have HS6 := hide (And.intro k4 (And.intro k5 hw6))
  have I6 : dskI w6 w6.heap.size (.agg #[.slice sa nS sk, .slice ca nC ck]) nS S nC A X := (I3.out.below B36).wide B36.size
  have CP := hide (imp_copiedO _ nS S nC A X w6 hS hC (fun j hj => by have := R.out.2.2.1 j hj; omega) (fun j hj => by have := (R.out.2.2.2 j hj).2.2; omega) I6)
  have b0 : w6.cell? ⟨w.heap.size, 0, none⟩ = some (.slice sa nS sk) := by simp [World.cell?, k2]
  have b1 : w6.cell? ⟨w.heap.size, 1, none⟩ = some (.slice ca nC ck) := by simp [World.cell?, k2]
  clear k2 k4 k5 ho6 hw6 hg6 HS5 I3 I6 B36 HV
  go_wp2_with fail
  refine CP.out.mono ?_
  rintro e w7 ⟨s1, s2, rfl, o1, o2, hap, hb7⟩
  obtain ⟨a1, c1, ea⟩ := own_slice o1
  obtain ⟨a2, c2, eb⟩ := own_slice o2
  subst ea eb
  have hz7 := hb7.size
  have y0 : Below w7.heap.size w7 (w7.alloc (.cells #[.slice a1 nS c1, .slice a2 nC c2] 26)) := (Below.refl _ _).alloc (Nat.le_refl _) _
  have y1 : (w7.alloc (.cells #[.slice a1 nS c1, .slice a2 nC c2] 26)).heap[w7.heap.size]? = some (.cells #[.slice a1 nS c1, .slice a2 nC c2] 26) := heap_alloc_new _ _
  have y2 : w7.heap.size < (w7.alloc (.cells #[.slice a1 nS c1, .slice a2 nC c2] 26)).heap.size := by simp
  have b68 := hb7.trans (y0.mono hz7)
  have O1 := hide (own_of_block o1 (fun b hb => y0.block b (o1.lt b hb).2))
  have O2 := hide (own_of_block o2 (fun b hb => y0.block b (o2.lt b hb).2))
  have OLT := hide (And.intro (fun b h => (o1.lt b h).2) (fun b h => (o2.lt b h).2))
  have OK6 := hide (own_of_block HO6.out (fun b hb => b68.block b (HO6.out.lt b hb).2))
  have HAP := hide hap
  have HS8 := hide (show (w7.alloc (.cells #[.slice a1 nS c1, .slice a2 nC c2] 26)).heap[w.heap.size + 1]? = some (.cells #[.slice none 0 0, .slice none 0 0, .string ⟨#[]⟩, .int .i64 0] 30) ∧ Below w.heap.size w (w7.alloc (.cells #[.slice a1 nS c1, .slice a2 nC c2] 26)) ∧ (w7.alloc (.cells #[.slice a1 nS c1, .slice a2 nC c2] 26)).heap[w3.heap.size]? = some (.cells #[.slice sa2 nS sk2, .map (some mb), .slice wa K wcp] 65) ∧ (w7.alloc (.cells #[.slice a1 nS c1, .slice a2 nC c2] 26)).heap[w7.heap.size]? = some (.cells #[.slice a1 nS c1, .slice a2 nC c2] 26) from
    ⟨(b68.block _ (by omega)).trans HS6.out.1, HS6.out.2.1.trans (b68.mono (by omega)), (b68.block _ (by omega)).trans HS6.out.2.2, y1⟩)
  have w2c : (w7.alloc (.cells #[.slice a1 nS c1, .slice a2 nC c2] 26)).cell? ⟨w3.heap.size, 2, none⟩ = some (.slice wa K wcp) := by have h := HS8.out.2.2.1; simp [World.cell?, h]
  clear o1 o2 hap hb7 b0 b1 CP y0 y1 b68 HO6 HS6
  go_wp2_with (at_builtin; refine wpList_append_any _ rfl (.tmp 33) (.tmp 35) 24 rfl w6.heap.size 74 iw (.agg #[.int .i64 0, .string ⟨#[]⟩]) 2 24 Try.underlying24 hiw hzw0 hzw1 hzw2 rfl (by decide) (.slice a2 nC c2) nC _ rfl O2.out wa K wcp _ rfl (wL_len _ _ _) (own_news OK6.out) (wL_one _ _ _) (by unfold maxLen; omega) (by omega) (by omega) ?_; intro v9 w9 o9 g9 t9; obtain ⟨a9, c9, e9⟩ := own_slice o9; subst e9; have nb : ∀ b, b < w6.heap.size ∨ b = w7.heap.size → some b ≠ (Value.slice a2 nC c2).ownBlock := (fun b h1 h2 => by have h3 := (O2.out.lt b h2.symm).1; have h4 := OLT.out.2 b h2.symm; omega); have q9 := (g9.block w7.heap.size y2 (nb _ (.inr rfl))).trans HS8.out.2.2.2; have d90 : w9.cell? ⟨w7.heap.size, 0, none⟩ = some (.slice a1 nS c1) := (by simp [World.cell?, q9]); have d91 : w9.cell? ⟨w7.heap.size, 1, none⟩ = some (.slice a2 nC c2) := (by simp [World.cell?, q9]); have z91 : w9.frozen? ⟨w7.heap.size, 1, none⟩ = false := (by simp [World.frozen?, q9]); have k4 := (g9.block (w.heap.size + 1) (by omega) (nb _ (.inl (by omega)))).trans HS8.out.1; have oc0 : w9.cell? ⟨w.heap.size + 1, 0, none⟩ = some (.slice none 0 0) := (by simp [World.cell?, k4]); have of0 : w9.frozen? ⟨w.heap.size + 1, 0, none⟩ = false := (by simp [World.frozen?, k4]); have oc1 : w9.cell? ⟨w.heap.size + 1, 1, none⟩ = some (.slice none 0 0) := (by simp [World.cell?, k4]); have of1 : w9.frozen? ⟨w.heap.size + 1, 1, none⟩ = false := (by simp [World.frozen?, k4]); have oc2 : w9.cell? ⟨w.heap.size + 1, 2, none⟩ = some (.string ⟨#[]⟩) := (by simp [World.cell?, k4]); have of2 : w9.frozen? ⟨w.heap.size + 1, 2, none⟩ = false := (by simp [World.frozen?, k4]); have oc3 : w9.cell? ⟨w.heap.size + 1, 3, none⟩ = some (.int .i64 0) := (by simp [World.cell?, k4]); have of3 : w9.frozen? ⟨w.heap.size + 1, 3, none⟩ = false := (by simp [World.frozen?, k4]); have Q9 := hide q9; have K4 := hide k4; have O9 := hide o9; have G9 := hide g9; have T9 := hide t9; have hz9 := g9.size; clear q9 k4 o9 g9 t9 nb w2c)
  have HR := hide (show (w9.setCell ⟨w7.heap.size, 1, none⟩ (.slice a9 (nC + K) c9)).heap[w.heap.size + 1]? = some (.cells #[.slice none 0 0, .slice none 0 0, .string ⟨#[]⟩, .int .i64 0] 30) from (set1_o _ _ _ _ _ (by omega)).trans K4.out)
  have HB := hide (show Below w.heap.size w (w9.setCell ⟨w7.heap.size, 1, none⟩ (.slice a9 (nC + K) c9)) from below_set (HS8.out.2.1.grown G9.out (by omega) (fun x hx => by have := (O2.out.lt x hx).1; omega)) _ 1 (by omega) _)
  have NE9 : ∀ b, (Value.slice a9 (nC + K) c9).ownBlock = some b → b ≠ w7.heap.size := fun b hb => by
    rcases T9.out b hb with h | h
    · have := OLT.out.2 b h; omega
    · omega
  have u1 := own_of_block O1.out (w' := (w9.setCell ⟨w7.heap.size, 1, none⟩ (.slice a9 (nC + K) c9))) (fun b hb => (set1_o _ _ _ _ _ (by have := OLT.out.1 b hb; omega)).trans (G9.out.block b (O1.out.lt b hb).2 (fun e => HAP.out b hb e.symm)))
  have u2 := own_of_block O9.out (w' := (w9.setCell ⟨w7.heap.size, 1, none⟩ (.slice a9 (nC + K) c9))) (fun b hb => set1_o _ _ _ _ _ (NE9 b hb))
  have u3 : apartV (.slice a1 nS c1) (.slice a9 (nC + K) c9) := fun b hb e => by
    rcases T9.out b e with h | h
    · exact HAP.out b hb h
    · have := OLT.out.1 b hb; omega
  have hzu : (w9.setCell ⟨w7.heap.size, 1, none⟩ (.slice a9 (nC + K) c9)).heap.size = w9.heap.size := by simp [World.setCell]
  have hw98 : w.heap.size + 1 < w9.heap.size := by omega
  clear O1 O9 G9 T9 HAP K4 Q9 d90 d91 z91 HS8 OK6
  generalize (w9.setCell ⟨w7.heap.size, 1, none⟩ (.slice a9 (nC + K) c9)) = w10 at *
  have u7 : ∀ g, g ≠ w.heap.size + 1 → ((((w10.setCell ⟨w.heap.size + 1, 0, none⟩ (.slice a1 nS c1)).setCell ⟨w.heap.size + 1, 1, none⟩ (.slice a9 (nC + K) c9)).setCell ⟨w.heap.size + 1, 2, none⟩ (.string ⟨#[]⟩)).setCell ⟨w.heap.size + 1, 3, none⟩ (.int .i64 0)).heap[g]? = w10.heap[g]? := fun g hg => (set1_o _ _ _ _ _ hg).trans ((set1_o _ _ _ _ _ hg).trans ((set1_o _ _ _ _ _ hg).trans (set1_o _ _ _ _ _ hg)))
  have u4 := own_base (own_of_block u1 (w' := ((((w10.setCell ⟨w.heap.size + 1, 0, none⟩ (.slice a1 nS c1)).setCell ⟨w.heap.size + 1, 1, none⟩ (.slice a9 (nC + K) c9)).setCell ⟨w.heap.size + 1, 2, none⟩ (.string ⟨#[]⟩)).setCell ⟨w.heap.size + 1, 3, none⟩ (.int .i64 0))) (fun b hb => u7 b (by have := (u1.lt b hb).1; omega))) (show w.heap.size ≤ w6.heap.size by omega)
  have u5 := own_base (own_of_block u2 (w' := ((((w10.setCell ⟨w.heap.size + 1, 0, none⟩ (.slice a1 nS c1)).setCell ⟨w.heap.size + 1, 1, none⟩ (.slice a9 (nC + K) c9)).setCell ⟨w.heap.size + 1, 2, none⟩ (.string ⟨#[]⟩)).setCell ⟨w.heap.size + 1, 3, none⟩ (.int .i64 0))) (fun b hb => u7 b (by have := (u2.lt b hb).1; omega))) (show w.heap.size ≤ w6.heap.size by omega)
  rw [← wL_app] at u5
  have e1 : touchN (p0 : Int).toNat t.size = K := by rw [HN.out.2, HN.out.1]; rfl
  have fin := set4_blk w10 (w.heap.size + 1) _ _ _ _ (.slice a1 nS c1) (.slice a9 (nC + K) c9) (.string ⟨#[]⟩) (.int .i64 0) _ HR.out
  have hbf := below_set4 HB.out (w.heap.size + 1) (by omega) (.slice a1 nS c1) (.slice a9 (nC + K) c9) (.string ⟨#[]⟩) (.int .i64 0)
  exact bodyPost_ret (results_cell_row Try.results10 _ _ (w.heap.size + 1) 30 #[.slice a1 nS c1, .slice a9 (nC + K) c9, .string ⟨#[]⟩, .int .i64 0] (0, 0) _ rfl fin Try.underlying30 rfl (by kernel_rfl)) rfl ⟨_, _, _, rfl, PC.out, .inr ⟨rfl, u4, by rw [e1, ← HFF.out]; exact u5, u3⟩, hbf⟩
end Go.Proofs.Ytipeelkmmjgehaa
/- The law of ExtentPatch holds. -/
namespace Go.Proofs.Ytipeelkmmjgehaa
open Go Go.RowKit
theorem own_dskV3 {w : World} {sv cv : Value} {lo : Nat} {nS : Nat} {S : Nat → ByteArray} {nC : Nat} {A : Nat → Int} {X : Nat → ByteArray} (h1 : w.ownsRow lo 9 1 sv nS (sL S nS)) (h2 : w.ownsRow lo 74 2 cv nC (wL A X nC)) (h3 : apartV sv cv) : dskV w (.agg #[sv, cv]) lo w.heap.size nS (sC S) nC (wF A X) :=
  ⟨sv, cv, rfl, own_val1 h1, own_val2 h2, fun k hk => h1.lt k hk, fun k hk => h2.lt k hk, fun k hk e => h3 k hk e⟩
theorem ptCode_is {nS : Nat} {S : Nat → ByteArray} {nC : Nat} {A : Nat → Int} {X : Nat → ByteArray} {a : Int} {n : Nat} {c d : Int} (h1 : ptCode nS S nC A X a n c) (h2 : ptCode nS S nC A X a n d) : c = d := by
  rcases h1 with ⟨e1, p1⟩ | ⟨e1, p1, q1⟩ | ⟨e1, p1, q1, r1⟩ | ⟨e1, p1, q1, r1⟩ <;> rcases h2 with ⟨e2, p2⟩ | ⟨e2, p2, q2⟩ | ⟨e2, p2, q2, r2⟩ | ⟨e2, p2, q2, r2⟩ <;> first | (rw [e1, e2]; done) | (exfalso; exact p1 p2) | (exfalso; exact p2 p1) | (exfalso; exact q1 q2) | (exfalso; exact q2 q1) | (exfalso; omega)
theorem ptCode_some (nS : Nat) (S : Nat → ByteArray) (nC : Nat) (A : Nat → Int) (X : Nat → ByteArray) (a : Int) (n : Nat) : ∃ c, ptCode nS S nC A X a n c := by
  by_cases h1 : dskOk nS S nC A X
  · by_cases h2 : 0 ≤ a ∧ a ≤ 64 * (nS : Int) - (n : Int)
    · by_cases h3 : 400 < nC + touchN a.toNat n
      · exact ⟨9, .inr (.inr (.inl ⟨rfl, h1, h2, h3⟩))⟩
      · exact ⟨0, .inr (.inr (.inr ⟨rfl, h1, h2, by omega⟩))⟩
    · exact ⟨8, .inr (.inl ⟨rfl, h1, h2⟩)⟩
  · exact ⟨1, .inl ⟨rfl, h1⟩⟩
theorem pt_out {f : Nat} {args : Array Value} {u : World} {nS : Nat} {S : Nat → ByteArray} {nC : Nat} {A : Nat → Int} {X : Nat → ByteArray} {a : Int} {t : ByteArray} (d : Int) (hd : ptCode nS S nC A X a t.size d)
    (h : Calls Try.prog f args u fun e w' => ∃ sv cv c, e = .returned (doutV sv cv ⟨#[]⟩ c) ∧ ptCode nS S nC A X a t.size c ∧ (c ≠ 0 ∧ sv = .slice none 0 0 ∧ cv = .slice none 0 0 ∨ c = 0 ∧ ptGood nS S nC A X a t u w' sv cv) ∧ Below u.heap.size u w') (A2 : Nat → Int) (X2 : Nat → ByteArray)
    (hA : A2 = wrA A nC ((a.toNat / 64 : Nat) : Int)) (hX : X2 = patX X nC (flS S A X (fun _ => true) nC) a.toNat t) :
    Calls Try.prog f args u fun e w1 => ∃ so co, e = .returned (.agg #[so, co, .string ⟨#[]⟩, .int .i64 d]) ∧ dskV w1 (.agg #[so, co]) u.heap.size w1.heap.size (if d = 0 then nS else 0) (sC S) (if d = 0 then nC + touchN a.toNat t.size else 0) (wF A2 X2) ∧ Below u.heap.size u w1 :=
  h.mono fun _ w' ⟨sv, cv, c, h1, h2, h3, h4⟩ => by
    obtain rfl := ptCode_is h2 hd
    subst hA hX
    rcases h3 with ⟨g1, rfl, rfl⟩ | ⟨rfl, g1, g2, g3⟩
    · rw [if_neg g1, if_neg g1]
      exact ⟨_, _, h1, dskV_nil w' _ _ _ _, h4⟩
    · rw [if_pos rfl, if_pos rfl]
      exact ⟨_, _, h1, own_dskV3 g1 g2 g3, h4⟩
theorem fnExactExtentPatch_walk (v : Value) (nS : Nat) (S : Nat → ByteArray) (nC : Nat) (A : Nat → Int) (X : Nat → ByteArray) (a : Int) (_wa : (Lit.int .i64 a).wf = true) (t : ByteArray) (wt : t.size ≤ maxLen) (w : World) (hI : dskI w w.heap.size v nS S nC A X) (hS : nS ≤ maxLen) (hC : nC ≤ maxLen) (hSz : ∀ j, j < nS → (S j).size ≤ maxLen) (hXz : ∀ j, j < nC → (X j).size ≤ maxLen) :
    Calls Try.prog 7 #[v, .int .i64 a, .string t] w fun e w' => e = .returned (.bool true) ∧ Below w.heap.size w w' := by
  unfold maxLen at hS hC
  have hSz' : ∀ j, j < nS → (S j).size ≤ 9223372036854775807 := fun j hj => Nat.le_trans (hSz j hj) (by unfold maxLen; omega)
  have hXz' : ∀ j, j < nC → (X j).size ≤ 9223372036854775807 := fun j hj => Nat.le_trans (hXz j hj) (by unfold maxLen; omega)
  unfold maxLen at wt
  by_cases h0 : 1048576 < t.size
  · obtain ⟨sv, cv, rfl, h1, h2⟩ := hI
    have d0 : decide ((1048576 : Int) < (t.size : Int)) = true := decide_eq_true (by omega)
    have hb := hide ((Below.refl w.heap.size w).alloc (Nat.le_refl _) (.cells #[sv, cv] 45))
    go_enter Try.func7, Try.ntmps7
    go_wp2_with fail
    go_ret
    exact ⟨rfl, hb.out⟩
  have ht : t.size ≤ 1048576 := by omega
  by_cases h2 : 20000 < t.size
  · exact fnExactExtentPatch_core v nS S nC A X a t ht ⟨#[]⟩ 2 0 S 0 A X w (by omega) (by omega) (by omega) (by omega) hSz' hXz'
      (fun _ _ _ _ u x h => dout_nil S A X (spec_extentPatch_long x nS S nC A X a t u h2 (by omega) h))
      (fun _ _ _ _ u x h => dout_nil S A X (imp_extentPatch_long x nS S nC A X a t u h2 (by omega) h)) hI
  have h2' : t.size ≤ 20000 := by omega
  obtain ⟨d, hd⟩ := ptCode_some nS S nC A X a t.size
  have b1 : (if d = 0 then nS else 0) ≤ 1048576 := by
    split
    · rcases hd with ⟨e, _⟩ | ⟨e, _⟩ | ⟨e, _⟩ | ⟨_, k, _⟩
      · omega
      · omega
      · omega
      · have := k.1; omega
    · omega
  have b2 : (if d = 0 then nC + touchN a.toNat t.size else 0) ≤ 1048576 := by
    split
    · rcases hd with ⟨e, _⟩ | ⟨e, _⟩ | ⟨e, _⟩ | ⟨_, _, _, k⟩
      · omega
      · omega
      · omega
      · omega
    · omega
  exact fnExactExtentPatch_core v nS S nC A X a t ht ⟨#[]⟩ d _ S _ _ _ w b1 b2 (by omega) (by omega) hSz' hXz'
    (fun b c _ _ u x h => pt_out d hd (spec_extentPatch x nS S nC A X a t u h2' b c h) _ _ rfl rfl)
    (fun b c _ _ u x h => pt_out d hd (imp_extentPatch x nS S nC A X a t u h2' b c h) _ _ rfl rfl) hI
end Go.Proofs.Ytipeelkmmjgehaa
/- A disk that came in, opened. -/
namespace Go.Proofs.Ytipeelkmmjgehaa
open Go.ChangeShapes Go.WideShapes Go.ChangeAt Go.RowKit Go.Deep Go.Joins
theorem Try.cellsLawWr : Try.prog.cellsOf 106 = 2 := by kernel_rfl
theorem Try.cellsLawDisk : Try.prog.cellsOf 45 = 2 := by kernel_rfl
theorem Try.cellsI64d : Try.prog.cellsOf 2 = 1 := by kernel_rfl
theorem Try.cellsStrd : Try.prog.cellsOf 9 = 1 := by kernel_rfl
theorem addD (b off i : Nat) : (⟨b, off, none⟩ : Addr).add i = ⟨b, off + i, none⟩ := by by_cases hz : i = 0 <;> simp [Addr.add, hz]
set_option maxRecDepth 100000 in
theorem open_strsD {H : Type} {enc : TypeId × Value → H} {W : World} {sv : Value} {fuel : Nat} {x : DataW H × List MemPlace} (h : DataW.trod enc Try.prog W 0 (fun _ => true) true fuel 23 [sv] = some x) :
    ∃ (nS : Nat) (S : Nat → ByteArray), strI W W.heap.size sv nS S ∧ nS ≤ maxLen ∧ ∀ j, j < nS → (S j).size ≤ maxLen := by
  rcases open_slice1 Try.underlying23 Try.cellsStrd h with ⟨hcs, _⟩ | ⟨y, len, cap, m, n, V, D, Pl, hcs, _, hl, hm, hmm, _, hx⟩
  · simp at hcs
    subst hcs
    exact ⟨0, fun _ => ⟨#[]⟩, ⟨none, 0, rfl, Nat.le_refl _, .inl rfl⟩, Nat.zero_le _, fun j hj => by omega⟩
  · simp at hcs
    subst hcs
    have hmc : m = cap := by simpa using hmm
    subst hmc
    haveI : Inhabited ByteArray := ⟨⟨#[]⟩⟩
    obtain ⟨S, hS⟩ := choose_lt (α := ByteArray) (n := len) (p := fun i s => W.cell? (y.add i) = some (.string s) ∧ s.size ≤ maxLen) (fun i hi => by
      obtain ⟨h1, h2⟩ := hx i (by omega)
      obtain ⟨s, e0, _, hs⟩ := DataW.trod_string Try.underlying9 h2
      simp at e0
      exact ⟨s, by rw [h1, e0], hs⟩)
    refine ⟨len, S, ⟨some y, m, rfl, hl, ?_⟩, Nat.le_trans hl hm, fun j hj => (hS j hj).2⟩
    by_cases h0 : len = 0
    · exact .inl h0
    · obtain ⟨b, off, spot⟩ := y
      have hc0 := (hS 0 (by omega)).1
      have hspot : spot = none := by simpa [Addr.add] using World.cell?_spot hc0
      subst hspot
      have hb := World.block_lt_of_cell? W _ hc0
      refine .inr ⟨b, off, rfl, by simpa [Addr.add] using hb, fun j hj => ?_⟩
      have h1 := (hS j hj).1
      rw [addD] at h1
      exact h1
set_option maxRecDepth 100000 in
theorem open_wrs {H : Type} {enc : TypeId × Value → H} {W : World} {cv : Value} {fuel : Nat} {x : DataW H × List MemPlace} (h : DataW.trod enc Try.prog W 0 (fun _ => true) true fuel 43 [cv] = some x) :
    ∃ (nC : Nat) (A : Nat → Int) (X : Nat → ByteArray), sliI 2 W W.heap.size cv nC (cWr A X) ∧ nC ≤ maxLen ∧ ∀ j, j < nC → (X j).size ≤ maxLen := by
  rcases open_slice Try.underlying43 h with ⟨hcs, _⟩ | ⟨y, len, cap, m, n, D, Pl, hcs, _, hl, hm, hmm, _, hx⟩
  · simp at hcs
    subst hcs
    exact ⟨0, fun _ => 0, fun _ => ⟨#[]⟩, ⟨none, 0, rfl, Nat.le_refl _, .inl rfl⟩, Nat.zero_le _, fun j hj => by omega⟩
  · simp at hcs
    subst hcs
    have hmc : m = cap := by simpa using hmm
    subst hmc
    rw [Try.cellsLawWr] at hx
    obtain ⟨V, hV⟩ := choose_lt (α := Int × ByteArray) (n := len) (p := fun i v => W.cell? (y.add (i * 2)) = some (.int .i64 v.1) ∧ W.cell? ((y.add (i * 2)).add 1) = some (.string v.2) ∧ v.2.size ≤ maxLen) (fun i hi => by
      obtain ⟨cs', h1, h2⟩ := hx i (by omega)
      obtain ⟨y0, y1, n2, _, hlen, t0, t1⟩ := trod_struct2 Try.underlying106 h2
      rw [Try.cellsLawWr] at hlen
      match cs', hlen with
      | [c0, c1], _ =>
        obtain ⟨z0, e0, _, _⟩ := DataW.trod_int Try.underlying2 t0
        obtain ⟨z1, e1, _, hz1⟩ := DataW.trod_string Try.underlying9 t1
        rw [show Try.prog.cellsOf _ = 1 from Try.cellsI64d] at e0
        rw [show Try.prog.cellsOf _ = 1 from Try.cellsStrd] at e1
        simp at e0 e1
        subst e0 e1
        have hc := (World.cells?_some h1).2.2
        refine ⟨⟨z0, z1⟩, ?_, ?_, hz1⟩
        · have := hc 0 (by omega)
          simpa [Addr.add] using this
        · have := hc 1 (by omega)
          simpa using this)
    refine ⟨len, fun j => (V j).1, fun j => (V j).2, ⟨some y, m, rfl, hl, ?_⟩, Nat.le_trans hl hm, fun j hj => (hV j hj).2.2⟩
    by_cases h0 : len = 0
    · exact .inl h0
    · obtain ⟨b, off, spot⟩ := y
      have hc0 := (hV 0 (by omega)).1
      have hspot : spot = none := by simpa [Addr.add] using World.cell?_spot hc0
      subst hspot
      have hb := World.block_lt_of_cell? W _ hc0
      refine .inr ⟨b, off, rfl, by simpa [Addr.add] using hb, fun j hj i hi => ?_⟩
      obtain ⟨h1, h2, _⟩ := hV j hj
      rw [addD, Nat.mul_comm j 2] at h1
      rw [addD, addD, Nat.mul_comm j 2] at h2
      match i, hi with
      | 0, _ => exact h1
      | 1, _ => exact h2
set_option maxRecDepth 100000 in
theorem open_disk {H : Type} {enc : TypeId × Value → H} {W : World} {b0 : Nat} {v : Value} {d : DataW H} {p : List MemPlace} (hv : Value.okWide Try.prog W .any b0 45 v) (h : DataW.Trod enc Try.prog W 0 (fun _ => true) true 45 v d p) :
    ∃ (nS : Nat) (S : Nat → ByteArray) (nC : Nat) (A : Nat → Int) (X : Nat → ByteArray), dskI W W.heap.size v nS S nC A X ∧ nS ≤ maxLen ∧ nC ≤ maxLen ∧ (∀ j, j < nS → (S j).size ≤ maxLen) ∧ ∀ j, j < nC → (X j).size ≤ maxLen := by
  obtain ⟨c0, c1, y0, y1, n, rfl, _, _, h0, h1⟩ := open_agg2 Try.underlying45 (by kernel_rfl) Try.cellsLawDisk hv h
  obtain ⟨nS, S, hs, h2, h3⟩ := open_strsD h0
  obtain ⟨nC, A, X, hc, h4, h5⟩ := open_wrs h1
  exact ⟨nS, S, nC, A, X, ⟨_, _, rfl, hs, hc⟩, h2, h4, h3, h5⟩
end Go.Proofs.Ytipeelkmmjgehaa

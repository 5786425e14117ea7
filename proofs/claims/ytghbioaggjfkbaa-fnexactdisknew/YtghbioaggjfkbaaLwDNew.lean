/- The walk over the law FnExactDiskNew (written by mklwd.py). -/
import Derived.Test.YtghbioaggjfkbaaLwDisk2
import Derived.Test.YtghbioaggjfkbaaDskV
import Derived.Test.YtghbioaggjfkbaaDskN
import Derived.Test.YtghbioaggjfkbaaDkN
namespace Go.Proofs.Ytghbioaggjfkbaa
open Go Go.RowKit
set_option maxRecDepth 100000 in
set_option maxHeartbeats 1600000 in
theorem fnExactDiskNew_walk (s : Int) (_ws : (Lit.int .i64 s).wf = true) (w : World) :
    Calls Try.prog 4 #[.int .i64 s] w fun e w' => e = .returned (.bool true) ∧ Below w.heap.size w w' := by
  have BB := hide (Below.refl w.heap.size w)
  have hrS : newN s ≤ 1048576 := by unfold newN; split <;> omega
  have SP := hide (fun w => spec_diskNew s w)
  have IP := hide (fun w => imp_diskNew s w)
  generalize newN s = rS at *
  generalize blankS = BS at *
  go_enter Try.func4, Try.ntmps4
  go_wp2_with fail
  refine (SP.out w).mono ?_
  rintro e w1 ⟨o, rfl, hd0, hb⟩
  have hd := hd0 (fun _ => 0) (fun _ => ⟨#[]⟩)
  clear hd0
  obtain ⟨waa, wab, wac, wad, eo⟩ := hd.shape
  subst eo
  have hz_w1 := hb.size
  replace BB := hide (BB.out.trans (hb.mono (by have := BB.out.size; omega)))
  clear hb
  have D_wa := hide hd
  clear hd
  have al0 : Below w1.heap.size w1 (w1.alloc (.cells #[.slice waa rS wab, .slice wac 0 wad] 26)) := (Below.refl _ _).alloc (Nat.le_refl _) _
  have al1 : (w1.alloc (.cells #[.slice waa rS wab, .slice wac 0 wad] 26)).heap[w1.heap.size]? = some (.cells #[.slice waa rS wab, .slice wac 0 wad] 26) := heap_alloc_new _ _
  have al2 : w1.heap.size < (w1.alloc (.cells #[.slice waa rS wab, .slice wac 0 wad] 26)).heap.size := by simp
  have AL := hide (And.intro al0 al1)
  clear al0 al1
  go_wp2_with fail
  generalize (w1.alloc (.cells #[.slice waa rS wab, .slice wac 0 wad] 26)) = w2a at *
  obtain ⟨al0, al1⟩ := AL.out
  replace D_wa := hide (D_wa.out.below al0)
  replace BB := hide (BB.out.trans (al0.mono (by have := BB.out.size; omega)))
  have LB_wa := hide al1
  have hz_w2a := al2
  clear al0 al1 AL al2
  refine (IP.out w2a).mono ?_
  rintro e w3 ⟨o, rfl, hd0, hb⟩
  have hd := hd0 (fun _ => 0) (fun _ => ⟨#[]⟩)
  clear hd0
  obtain ⟨gaa, gab, gac, gad, eo⟩ := hd.shape
  subst eo
  have hz_w3 := hb.size
  replace LB_wa := hide ((hb.block (w1.heap.size) (by omega)).trans LB_wa.out)
  replace D_wa := hide (D_wa.out.below hb)
  replace BB := hide (BB.out.trans (hb.mono (by have := BB.out.size; omega)))
  clear hb
  have D_ga := hide hd
  clear hd
  have al0 : Below w3.heap.size w3 (w3.alloc (.cells #[.slice gaa rS gab, .slice gac 0 gad] 26)) := (Below.refl _ _).alloc (Nat.le_refl _) _
  have al1 : (w3.alloc (.cells #[.slice gaa rS gab, .slice gac 0 gad] 26)).heap[w3.heap.size]? = some (.cells #[.slice gaa rS gab, .slice gac 0 gad] 26) := heap_alloc_new _ _
  have al2 : w3.heap.size < (w3.alloc (.cells #[.slice gaa rS gab, .slice gac 0 gad] 26)).heap.size := by simp
  have AL := hide (And.intro al0 al1)
  clear al0 al1
  have ed_wa0 : (w3.alloc (.cells #[.slice gaa rS gab, .slice gac 0 gad] 26)).cell? ⟨w1.heap.size, 0, none⟩ = some (.slice waa rS wab) := by have h := (AL.out.1.block (w1.heap.size) (by omega)).trans LB_wa.out; simp [World.cell?, h]
  have ed_wa1 : (w3.alloc (.cells #[.slice gaa rS gab, .slice gac 0 gad] 26)).cell? ⟨w1.heap.size, 1, none⟩ = some (.slice wac 0 wad) := by have h := (AL.out.1.block (w1.heap.size) (by omega)).trans LB_wa.out; simp [World.cell?, h]
  go_wp2_with fail
  generalize (w3.alloc (.cells #[.slice gaa rS gab, .slice gac 0 gad] 26)) = w4a at *
  clear ed_wa0 ed_wa1
  obtain ⟨al0, al1⟩ := AL.out
  replace LB_wa := hide ((al0.block (w1.heap.size) (by omega)).trans LB_wa.out)
  replace D_wa := hide (D_wa.out.below al0)
  replace D_ga := hide (D_ga.out.below al0)
  replace BB := hide (BB.out.trans (al0.mono (by have := BB.out.size; omega)))
  have LB_ga := hide al1
  have hz_w4a := al2
  clear al0 al1 AL al2
  refine (law_eqDisk _ _ _ _ _ _ rS (fun _ => BS) 0 (fun _ => 0) (fun _ => ⟨#[]⟩) w4a hrS (by omega) D_ga.out D_wa.out).mono ?_
  rintro e w5 ⟨rfl, hb⟩
  have hz_w5 := hb.size
  replace LB_wa := hide ((hb.block (w1.heap.size) (by omega)).trans LB_wa.out)
  replace LB_ga := hide ((hb.block (w3.heap.size) (by omega)).trans LB_ga.out)
  replace D_wa := hide (D_wa.out.below hb)
  replace D_ga := hide (D_ga.out.below hb)
  replace BB := hide (BB.out.trans (hb.mono (by have := BB.out.size; omega)))
  clear hb
  have ec_wa0 : w5.cell? ⟨w1.heap.size, 0, none⟩ = some (.slice waa rS wab) := by have h := LB_wa.out; simp [World.cell?, h]
  have ec_wa1 : w5.cell? ⟨w1.heap.size, 1, none⟩ = some (.slice wac 0 wad) := by have h := LB_wa.out; simp [World.cell?, h]
  have ec_ga0 : w5.cell? ⟨w3.heap.size, 0, none⟩ = some (.slice gaa rS gab) := by have h := LB_ga.out; simp [World.cell?, h]
  have ec_ga1 : w5.cell? ⟨w3.heap.size, 1, none⟩ = some (.slice gac 0 gad) := by have h := LB_ga.out; simp [World.cell?, h]
  go_wp2_with fail
  refine (law_markDisk _ (w2a.heap.size) (w3.heap.size) rS (fun _ => BS) 0 _ 1 w5 hrS (by omega) (by omega) (by omega) D_ga.out).mono ?_
  rintro e w6 ⟨rfl, hm, ho⟩
  clear ec_wa0 ec_wa1 ec_ga0 ec_ga1
  have hz_w6 := ho.size
  replace LB_wa := hide ((ho.block (w1.heap.size) (by omega) (by omega)).trans LB_wa.out)
  replace LB_ga := hide ((ho.block (w3.heap.size) (by omega) (by omega)).trans LB_ga.out)
  replace D_wa := hide (D_wa.out.only ho (by omega))
  replace BB := hide (BB.out.trans (ho.below (by omega) |>.mono (by omega)))
  have D_MV := hide hm
  clear hm ho
  obtain ⟨q, hq⟩ : ∃ q, q = 1 + rS + 2 * 0 := ⟨_, rfl⟩
  have HQ := hide hq
  rw [← hq]
  have hq0 : ¬ (q : Int) < 0 := by omega
  clear hq
  have ec_wa0 : w6.cell? ⟨w1.heap.size, 0, none⟩ = some (.slice waa rS wab) := by have h := LB_wa.out; simp [World.cell?, h]
  have ec_wa1 : w6.cell? ⟨w1.heap.size, 1, none⟩ = some (.slice wac 0 wad) := by have h := LB_wa.out; simp [World.cell?, h]
  have ec_ga0 : w6.cell? ⟨w3.heap.size, 0, none⟩ = some (.slice gaa rS gab) := by have h := LB_ga.out; simp [World.cell?, h]
  have ec_ga1 : w6.cell? ⟨w3.heap.size, 1, none⟩ = some (.slice gac 0 gad) := by have h := LB_ga.out; simp [World.cell?, h]
  go_wp2_with fail
  refine (law_heldDisk _ (w2a.heap.size) (w3.heap.size) rS 0 1 w6 hrS (by omega) (by omega) D_MV.out).mono ?_
  rintro e w7 ⟨rfl, hb⟩
  rw [← HQ.out]
  clear ec_wa0 ec_wa1 ec_ga0 ec_ga1
  have hz_w7 := hb.size
  replace LB_wa := hide ((hb.block (w1.heap.size) (by omega)).trans LB_wa.out)
  replace LB_ga := hide ((hb.block (w3.heap.size) (by omega)).trans LB_ga.out)
  replace D_wa := hide (D_wa.out.below hb)
  replace D_MV := hide (D_MV.out.below hb)
  replace BB := hide (BB.out.trans (hb.mono (by have := BB.out.size; omega)))
  clear hb
  have ec_wa0 : w7.cell? ⟨w1.heap.size, 0, none⟩ = some (.slice waa rS wab) := by have h := LB_wa.out; simp [World.cell?, h]
  have ec_wa1 : w7.cell? ⟨w1.heap.size, 1, none⟩ = some (.slice wac 0 wad) := by have h := LB_wa.out; simp [World.cell?, h]
  have ec_ga0 : w7.cell? ⟨w3.heap.size, 0, none⟩ = some (.slice gaa rS gab) := by have h := LB_ga.out; simp [World.cell?, h]
  have ec_ga1 : w7.cell? ⟨w3.heap.size, 1, none⟩ = some (.slice gac 0 gad) := by have h := LB_ga.out; simp [World.cell?, h]
  go_wp2_with fail
  refine (IP.out w7).mono ?_
  rintro e w8 ⟨o, rfl, hd0, hb⟩
  have hd := hd0 (fun _ => 0) (fun _ => ⟨#[]⟩)
  clear hd0
  obtain ⟨haa, hab, hac, had, eo⟩ := hd.shape
  subst eo
  clear ec_wa0 ec_wa1 ec_ga0 ec_ga1
  have hz_w8 := hb.size
  replace LB_wa := hide ((hb.block (w1.heap.size) (by omega)).trans LB_wa.out)
  replace LB_ga := hide ((hb.block (w3.heap.size) (by omega)).trans LB_ga.out)
  replace D_wa := hide (D_wa.out.below hb)
  replace D_MV := hide (D_MV.out.below hb)
  replace BB := hide (BB.out.trans (hb.mono (by have := BB.out.size; omega)))
  clear hb
  have D_ha := hide hd
  clear hd
  have al0 : Below w8.heap.size w8 (w8.alloc (.cells #[.slice haa rS hab, .slice hac 0 had] 26)) := (Below.refl _ _).alloc (Nat.le_refl _) _
  have al1 : (w8.alloc (.cells #[.slice haa rS hab, .slice hac 0 had] 26)).heap[w8.heap.size]? = some (.cells #[.slice haa rS hab, .slice hac 0 had] 26) := heap_alloc_new _ _
  have al2 : w8.heap.size < (w8.alloc (.cells #[.slice haa rS hab, .slice hac 0 had] 26)).heap.size := by simp
  have AL := hide (And.intro al0 al1)
  clear al0 al1
  have ed_wa0 : (w8.alloc (.cells #[.slice haa rS hab, .slice hac 0 had] 26)).cell? ⟨w1.heap.size, 0, none⟩ = some (.slice waa rS wab) := by have h := (AL.out.1.block (w1.heap.size) (by omega)).trans LB_wa.out; simp [World.cell?, h]
  have ed_wa1 : (w8.alloc (.cells #[.slice haa rS hab, .slice hac 0 had] 26)).cell? ⟨w1.heap.size, 1, none⟩ = some (.slice wac 0 wad) := by have h := (AL.out.1.block (w1.heap.size) (by omega)).trans LB_wa.out; simp [World.cell?, h]
  have ed_ga0 : (w8.alloc (.cells #[.slice haa rS hab, .slice hac 0 had] 26)).cell? ⟨w3.heap.size, 0, none⟩ = some (.slice gaa rS gab) := by have h := (AL.out.1.block (w3.heap.size) (by omega)).trans LB_ga.out; simp [World.cell?, h]
  have ed_ga1 : (w8.alloc (.cells #[.slice haa rS hab, .slice hac 0 had] 26)).cell? ⟨w3.heap.size, 1, none⟩ = some (.slice gac 0 gad) := by have h := (AL.out.1.block (w3.heap.size) (by omega)).trans LB_ga.out; simp [World.cell?, h]
  go_wp2_with fail
  generalize (w8.alloc (.cells #[.slice haa rS hab, .slice hac 0 had] 26)) = w9a at *
  clear ed_wa0 ed_wa1 ed_ga0 ed_ga1
  obtain ⟨al0, al1⟩ := AL.out
  replace LB_wa := hide ((al0.block (w1.heap.size) (by omega)).trans LB_wa.out)
  replace LB_ga := hide ((al0.block (w3.heap.size) (by omega)).trans LB_ga.out)
  replace D_wa := hide (D_wa.out.below al0)
  replace D_MV := hide (D_MV.out.below al0)
  replace D_ha := hide (D_ha.out.below al0)
  replace BB := hide (BB.out.trans (al0.mono (by have := BB.out.size; omega)))
  have LB_ha := hide al1
  have hz_w9a := al2
  clear al0 al1 AL al2
  refine (law_eqDisk _ _ _ _ _ _ rS (fun _ => BS) 0 (fun _ => 0) (fun _ => ⟨#[]⟩) w9a hrS (by omega) D_ha.out D_wa.out).mono ?_
  rintro e w10 ⟨rfl, hb⟩
  have hz_w10 := hb.size
  replace LB_wa := hide ((hb.block (w1.heap.size) (by omega)).trans LB_wa.out)
  replace LB_ga := hide ((hb.block (w3.heap.size) (by omega)).trans LB_ga.out)
  replace LB_ha := hide ((hb.block (w8.heap.size) (by omega)).trans LB_ha.out)
  replace D_wa := hide (D_wa.out.below hb)
  replace D_MV := hide (D_MV.out.below hb)
  replace D_ha := hide (D_ha.out.below hb)
  replace BB := hide (BB.out.trans (hb.mono (by have := BB.out.size; omega)))
  clear hb
  have ec_wa0 : w10.cell? ⟨w1.heap.size, 0, none⟩ = some (.slice waa rS wab) := by have h := LB_wa.out; simp [World.cell?, h]
  have ec_wa1 : w10.cell? ⟨w1.heap.size, 1, none⟩ = some (.slice wac 0 wad) := by have h := LB_wa.out; simp [World.cell?, h]
  have ec_ga0 : w10.cell? ⟨w3.heap.size, 0, none⟩ = some (.slice gaa rS gab) := by have h := LB_ga.out; simp [World.cell?, h]
  have ec_ga1 : w10.cell? ⟨w3.heap.size, 1, none⟩ = some (.slice gac 0 gad) := by have h := LB_ga.out; simp [World.cell?, h]
  have ec_ha0 : w10.cell? ⟨w8.heap.size, 0, none⟩ = some (.slice haa rS hab) := by have h := LB_ha.out; simp [World.cell?, h]
  have ec_ha1 : w10.cell? ⟨w8.heap.size, 1, none⟩ = some (.slice hac 0 had) := by have h := LB_ha.out; simp [World.cell?, h]
  go_wp2_with fail
  refine (law_heldDisk _ (w2a.heap.size) (w3.heap.size) rS 0 1 w10 hrS (by omega) (by omega) D_MV.out).mono ?_
  rintro e w11 ⟨rfl, hb⟩
  rw [← HQ.out]
  clear ec_wa0 ec_wa1 ec_ga0 ec_ga1 ec_ha0 ec_ha1
  have hz_w11 := hb.size
  replace LB_wa := hide ((hb.block (w1.heap.size) (by omega)).trans LB_wa.out)
  replace LB_ga := hide ((hb.block (w3.heap.size) (by omega)).trans LB_ga.out)
  replace LB_ha := hide ((hb.block (w8.heap.size) (by omega)).trans LB_ha.out)
  replace D_MV := hide (D_MV.out.below hb)
  replace BB := hide (BB.out.trans (hb.mono (by have := BB.out.size; omega)))
  clear hb
  have ec_wa0 : w11.cell? ⟨w1.heap.size, 0, none⟩ = some (.slice waa rS wab) := by have h := LB_wa.out; simp [World.cell?, h]
  have ec_wa1 : w11.cell? ⟨w1.heap.size, 1, none⟩ = some (.slice wac 0 wad) := by have h := LB_wa.out; simp [World.cell?, h]
  have ec_ga0 : w11.cell? ⟨w3.heap.size, 0, none⟩ = some (.slice gaa rS gab) := by have h := LB_ga.out; simp [World.cell?, h]
  have ec_ga1 : w11.cell? ⟨w3.heap.size, 1, none⟩ = some (.slice gac 0 gad) := by have h := LB_ga.out; simp [World.cell?, h]
  have ec_ha0 : w11.cell? ⟨w8.heap.size, 0, none⟩ = some (.slice haa rS hab) := by have h := LB_ha.out; simp [World.cell?, h]
  have ec_ha1 : w11.cell? ⟨w8.heap.size, 1, none⟩ = some (.slice hac 0 had) := by have h := LB_ha.out; simp [World.cell?, h]
  go_wp2_with fail
  go_ret
  exact ⟨rfl, BB.out⟩
end Go.Proofs.Ytghbioaggjfkbaa

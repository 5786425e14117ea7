/- Put together: OpW, SealPs, SealOs, SealOh. -/
import Derived.Test.YtconcnndghmdfaaGreatDoorSe42
import Derived.BigRegion
import Derived.WalkSmall
import Derived.Stop.Asserts
import Derived.Test.YtconcnndghmdfaaGreatDoorSe4
import Derived.Test.YtconcnndghmdfaaGreatDoorSe37
import Derived.Deep.RegionWith
import Derived.Deep.RegionHeld3
namespace Go.Proofs.YtconcnndghmdfaaGreatDoor
open Go.RowKit Go
structure OpW (w : World) (H M : ByteArray) (w2 : World) : Prop where
  b : Below (w.heap.size + 2) ((w.alloc (.cells #[.string H, .string M] 24)).alloc (.cells #[.string ⟨#[]⟩, .int .i64 0, .int .i64 0] 31)) w2
namespace OpW
variable {w w1 w2 : World} {H M : ByteArray}
theorem one (h : Below ((w.alloc (.cells #[.string H, .string M] 24)).alloc (.cells #[.string ⟨#[]⟩, .int .i64 0, .int .i64 0] 31)).heap.size ((w.alloc (.cells #[.string H, .string M] 24)).alloc (.cells #[.string ⟨#[]⟩, .int .i64 0, .int .i64 0] 31)) w2) : OpW w H M w2 := ⟨by simpa using h⟩
theorem start : OpW w H M ((w.alloc (.cells #[.string H, .string M] 24)).alloc (.cells #[.string ⟨#[]⟩, .int .i64 0, .int .i64 0] 31)) := ⟨Below.refl _ _⟩
theorem size (h : OpW w H M w2) : w.heap.size + 2 ≤ w2.heap.size := by have := h.b.size; simpa using this
theorem call (h : OpW w H M w1) (hb : Below w1.heap.size w1 w2) : OpW w H M w2 := ⟨h.b.trans (hb.mono h.size)⟩
theorem call' (h : OpW w H M w1) (hb : Below w1.drew.heap.size w1.drew w2) : OpW w H M w2 := ⟨h.b.drew.trans (hb.mono h.size)⟩
theorem alloc (h : OpW w H M w1) (o : Obj) : OpW w H M (w1.alloc o) := ⟨h.b.alloc h.size o⟩
theorem drew (h : OpW w H M w1) : OpW w H M w1.drew := ⟨h.b.drew⟩
theorem keys (h : OpW w H M w2) : w2.heap[w.heap.size]? = some (.cells #[.string H, .string M] 24 (0, 0)) := by
  refine (h.b.block w.heap.size (by omega)).trans ?_
  exact (((Below.refl (w.alloc (.cells #[.string H, .string M] 24)).heap.size _).alloc (Nat.le_refl _) _).block w.heap.size (by simp)).trans (heap_alloc_new w _)
theorem row (h : OpW w H M w2) : w2.heap[w.heap.size + 1]? = some (.cells #[.string ⟨#[]⟩, .int .i64 0, .int .i64 0] 31 (0, 0)) := by
  refine (h.b.block (w.heap.size + 1) (by omega)).trans ?_
  have := heap_alloc_new (w.alloc (.cells #[.string H, .string M] 24)) (.cells #[.string ⟨#[]⟩, .int .i64 0, .int .i64 0] 31)
  simpa using this
theorem c0 (h : OpW w H M w2) : w2.cell? ⟨w.heap.size, 0, none⟩ = some (.string H) := by simp [World.cell?, h.keys]
theorem c1 (h : OpW w H M w2) : w2.cell? ⟨w.heap.size, 1, none⟩ = some (.string M) := by simp [World.cell?, h.keys]
theorem r0 (h : OpW w H M w2) : w2.cell? ⟨w.heap.size + 1, 0, none⟩ = some (.string ⟨#[]⟩) := by simp [World.cell?, h.row]
theorem r1 (h : OpW w H M w2) : w2.cell? ⟨w.heap.size + 1, 1, none⟩ = some (.int .i64 0) := by simp [World.cell?, h.row]
theorem r2 (h : OpW w H M w2) : w2.cell? ⟨w.heap.size + 1, 2, none⟩ = some (.int .i64 0) := by simp [World.cell?, h.row]
theorem fz (h : OpW w H M w2) (o : Nat) : w2.frozen? ⟨w.heap.size + 1, o, none⟩ = false := by simp [World.frozen?, h.row]
theorem low (h : OpW w H M w2) : Below w.heap.size w w2 := (((Below.refl _ _).alloc (Nat.le_refl _) _).alloc (by simp) _).trans (h.b.mono (by omega))
theorem code (h : OpW w H M w2) (c : Int) : (w2.setCell ⟨w.heap.size + 1, 2, none⟩ (.int .i64 c)).heap[w.heap.size + 1]? = some (.cells #[.string ⟨#[]⟩, .int .i64 0, .int .i64 c] 31 (0, 0)) := by simp [World.setCell, Array.getElem?_modify, h.row]
theorem text (h : OpW w H M w2) (t : ByteArray) : (w2.setCell ⟨w.heap.size + 1, 0, none⟩ (.string t)).heap[w.heap.size + 1]? = some (.cells #[.string t, .int .i64 0, .int .i64 0] 31 (0, 0)) := by simp [World.setCell, Array.getElem?_modify, h.row]
theorem all (h : OpW w H M w2) (t : ByteArray) (a c : Int) : (((w2.setCell ⟨w.heap.size + 1, 0, none⟩ (.string t)).setCell ⟨w.heap.size + 1, 1, none⟩ (.int .i64 a)).setCell ⟨w.heap.size + 1, 2, none⟩ (.int .i64 c)).heap[w.heap.size + 1]? = some (.cells #[.string t, .int .i64 a, .int .i64 c] 31 (0, 0)) := by simp [World.setCell, Array.getElem?_modify, h.row]
theorem set (h : OpW w H M w2) (o : Nat) (v : Value) : Below w.heap.size w (w2.setCell ⟨w.heap.size + 1, o, none⟩ v) := h.low.setCell (Nat.le_succ _) _
theorem set3 (h : OpW w H M w2) (a b c : Value) : Below w.heap.size w (((w2.setCell ⟨w.heap.size + 1, 0, none⟩ a).setCell ⟨w.heap.size + 1, 1, none⟩ b).setCell ⟨w.heap.size + 1, 2, none⟩ c) := ((h.low.setCell (Nat.le_succ _) _).setCell (Nat.le_succ _) _).setCell (Nat.le_succ _) _
end OpW
/-- .. and a block y of three numbers. -/
structure OpY (w : World) (H M : ByteArray) (y : Nat) (n a c : Int) (w2 : World) : Prop where
  o : OpW w H M w2
  r : w2.heap[y]? = some (.cells #[.int .i64 n, .int .i64 a, .int .i64 c] 91 (0, 0))
namespace OpY
variable {w w1 w2 : World} {H M : ByteArray} {y : Nat} {n a c : Int}
theorem one (h : OpW w H M w1) : OpY w H M w1.heap.size n a c (w1.alloc (.cells #[.int .i64 n, .int .i64 a, .int .i64 c] 91)) := ⟨h.alloc _, heap_alloc_new w1 _⟩
theorem lt (h : OpY w H M y n a c w2) : y < w2.heap.size := (Array.getElem?_eq_some_iff.1 h.r).1
theorem call (h : OpY w H M y n a c w1) (hb : Below w1.heap.size w1 w2) : OpY w H M y n a c w2 := ⟨h.o.call hb, (hb.block y h.lt).trans h.r⟩
theorem call' (h : OpY w H M y n a c w1) (hb : Below w1.drew.heap.size w1.drew w2) : OpY w H M y n a c w2 := ⟨h.o.call' hb, (hb.block y h.lt).trans h.r⟩
theorem drew (h : OpY w H M y n a c w1) : OpY w H M y n a c w1.drew := ⟨h.o.drew, h.r⟩
theorem alloc (h : OpY w H M y n a c w1) (o : Obj) : OpY w H M y n a c (w1.alloc o) := ⟨h.o.alloc o, (((Below.refl w1.heap.size w1).alloc (Nat.le_refl _) o).block y h.lt).trans h.r⟩
theorem y0 (h : OpY w H M y n a c w2) : w2.cell? ⟨y, 0, none⟩ = some (.int .i64 n) := by simp [World.cell?, h.r]
theorem y1 (h : OpY w H M y n a c w2) : w2.cell? ⟨y, 1, none⟩ = some (.int .i64 a) := by simp [World.cell?, h.r]
theorem y2 (h : OpY w H M y n a c w2) : w2.cell? ⟨y, 2, none⟩ = some (.int .i64 c) := by simp [World.cell?, h.r]
end OpY
/-- .. and a block z of an answer. -/
structure OpZ (w : World) (H M : ByteArray) (y : Nat) (n a c : Int) (z : Nat) (w2 : World) : Prop where
  oy : OpY w H M y n a c w2
  g : w.heap.size + 2 ≤ z
  ne : y ≠ z
  r : w2.heap[z]? = some (.cells #[.string ⟨#[]⟩, .int .i64 0, .int .i64 0] 31 (0, 0))
namespace OpZ
variable {w w1 w2 : World} {H M : ByteArray} {y z : Nat} {n a c : Int}
theorem one (h : OpY w H M y n a c w1) : OpZ w H M y n a c w1.heap.size (w1.alloc (.cells #[.string ⟨#[]⟩, .int .i64 0, .int .i64 0] 31)) := ⟨h.alloc _, h.o.size, Nat.ne_of_lt h.lt, heap_alloc_new w1 _⟩
theorem here (h : OpY w H M y n a c w1) (hz : w1.heap.size = z) : OpZ w H M y n a c z (w1.alloc (.cells #[.string ⟨#[]⟩, .int .i64 0, .int .i64 0] 31)) := by subst hz; exact one h
theorem lt (h : OpZ w H M y n a c z w2) : z < w2.heap.size := (Array.getElem?_eq_some_iff.1 h.r).1
theorem call (h : OpZ w H M y n a c z w1) (hb : Below w1.heap.size w1 w2) : OpZ w H M y n a c z w2 := ⟨h.oy.call hb, h.g, h.ne, (hb.block z h.lt).trans h.r⟩
theorem z0 (h : OpZ w H M y n a c z w2) : w2.cell? ⟨z, 0, none⟩ = some (.string ⟨#[]⟩) := by simp [World.cell?, h.r]
theorem z1 (h : OpZ w H M y n a c z w2) : w2.cell? ⟨z, 1, none⟩ = some (.int .i64 0) := by simp [World.cell?, h.r]
theorem z2 (h : OpZ w H M y n a c z w2) : w2.cell? ⟨z, 2, none⟩ = some (.int .i64 0) := by simp [World.cell?, h.r]
theorem fz (h : OpZ w H M y n a c z w2) (o : Nat) : w2.frozen? ⟨z, o, none⟩ = false := by simp [World.frozen?, h.r]
theorem set (h : OpZ w H M y n a c z w2) (u v x : Value) : OpY w H M y n a c (((w2.setCell ⟨z, 0, none⟩ u).setCell ⟨z, 1, none⟩ v).setCell ⟨z, 2, none⟩ x) :=
  ⟨⟨((h.oy.o.b.setCell (p := ⟨z, 0, none⟩) h.g u).setCell (p := ⟨z, 1, none⟩) h.g v).setCell (p := ⟨z, 2, none⟩) h.g x⟩, by
    have hn : z ≠ y := fun e => h.ne e.symm
    simp [World.setCell, Array.getElem?_modify, hn, h.oy.r]⟩
theorem fin (h : OpZ w H M y n a c z w2) (u v x : Value) : (((w2.setCell ⟨z, 0, none⟩ u).setCell ⟨z, 1, none⟩ v).setCell ⟨z, 2, none⟩ x).heap[z]? = some (.cells #[u, v, x] 31 (0, 0)) := by simp [World.setCell, Array.getElem?_modify, h.r]
end OpZ
theorem num1_agg (t : ByteArray) : ∃ n c : Int, numAns 0 (num1 t) = .agg #[.int .i64 n, .int .i64 ((num1 t).2.2 : Int), .int .i64 c] ∧ (c = 0 ↔ (num1 t).1 = 0) ∧ (c = 0 → n = unfold (num1 t).2.1) := by
  rcases decAt_form t 0 with ⟨U, m, h, hm⟩ | h | h <;> unfold num1 <;> rw [h]
  · refine ⟨unfold U, 0, ?_, by simp, fun _ => rfl⟩
    rw [numAns_good]; unfold numOut; simp
  · exact ⟨0, 3, by rw [numAns_bad 0 3 (by omega)]; rfl, by simp, by simp⟩
  · exact ⟨0, 4, by rw [numAns_bad 0 4 (by omega)]; rfl, by simp, by simp⟩
theorem num2_agg (t : ByteArray) : ∃ n a c : Int, numAns (num1 t).2.2 (num2 t) = .agg #[.int .i64 n, .int .i64 a, .int .i64 c] ∧ (c = 0 ↔ (num2 t).1 = 0) ∧ (c = 0 → n = unfold (num2 t).2.1 ∧ a = (fromX t : Int)) := by
  unfold fromX num2
  rcases decAt_form t (num1 t).2.2 with ⟨U, m, h, hm⟩ | h | h <;> rw [h]
  · refine ⟨unfold U, ((num1 t).2.2 : Int) + m, 0, ?_, by simp, fun _ => ⟨rfl, by show _ = (((num1 t).2.2 + m : Nat) : Int); omega⟩⟩
    rw [numAns_good]; rfl
  · exact ⟨0, 0, 3, by rw [numAns_bad _ 3 (by omega)]; rfl, by simp, by simp⟩
  · exact ⟨0, 0, 4, by rw [numAns_bad _ 4 (by omega)]; rfl, by simp, by simp⟩
end Go.Proofs.YtconcnndghmdfaaGreatDoor
namespace Go.Proofs.YtconcnndghmdfaaGreatDoor
open Go.RowKit
def farOk10 (n : Int) : Bool := decide (0 ≤ n) && decide (n ≤ 256)
/-- The panic of a block that is wrong. -/
def faultP (c : Int) : Value := .iface 84 (.agg #[.int .i64 c])
set_option maxRecDepth 100000 in
theorem imp_idRight (id : Int) (w : World) :
    Calls Tryz.prog 24 #[.int .i64 id] w fun e w' => e = .returned (.bool (idOk id)) ∧ Below w.heap.size w w' := by
  have R := hide (show idOk id = (decide (0 ≤ id) && decide (id ≤ 2000000)) from rfl)
  by_cases h1 : 0 ≤ id
  · have h1' : decide (0 ≤ id) = true := decide_eq_true h1
    by_cases h2 : id ≤ 2000000
    · have h2' : decide (id ≤ 2000000) = true := decide_eq_true h2
      have R2 := hide (show idOk id = true by rw [R.out, h1', h2', Bool.and_self])
      go_enter Tryz.func24, Tryz.ntmps24
      go_wp2_with fail
      go_ret
      exact ⟨by rw [R2.out]; rfl, Below.refl _ _⟩
    · have h2' : decide (id ≤ 2000000) = false := decide_eq_false h2
      have R2 := hide (show idOk id = false by rw [R.out, h1', h2', Bool.true_and])
      go_enter Tryz.func24, Tryz.ntmps24
      go_wp2_with fail
      go_ret
      exact ⟨by rw [R2.out]; rfl, Below.refl _ _⟩
  · have h1' : decide (0 ≤ id) = false := decide_eq_false h1
    have R2 := hide (show idOk id = false by rw [R.out, h1', Bool.false_and])
    go_enter Tryz.func24, Tryz.ntmps24
    go_wp2_with fail
    go_ret
    exact ⟨by rw [R2.out]; rfl, Below.refl _ _⟩
set_option maxRecDepth 100000 in
theorem imp_farRight (id : Int) (w : World) :
    Calls Tryz.prog 25 #[.int .i64 id] w fun e w' => e = .returned (.bool (farOk10 id)) ∧ Below w.heap.size w w' := by
  have R := hide (show farOk10 id = (decide (0 ≤ id) && decide (id ≤ 256)) from rfl)
  by_cases h1 : 0 ≤ id
  · have h1' : decide (0 ≤ id) = true := decide_eq_true h1
    by_cases h2 : id ≤ 256
    · have h2' : decide (id ≤ 256) = true := decide_eq_true h2
      have R2 := hide (show farOk10 id = true by rw [R.out, h1', h2', Bool.and_self])
      go_enter Tryz.func25, Tryz.ntmps25
      go_wp2_with fail
      go_ret
      exact ⟨by rw [R2.out]; rfl, Below.refl _ _⟩
    · have h2' : decide (id ≤ 256) = false := decide_eq_false h2
      have R2 := hide (show farOk10 id = false by rw [R.out, h1', h2', Bool.true_and])
      go_enter Tryz.func25, Tryz.ntmps25
      go_wp2_with fail
      go_ret
      exact ⟨by rw [R2.out]; rfl, Below.refl _ _⟩
  · have h1' : decide (0 ≤ id) = false := decide_eq_false h1
    have R2 := hide (show farOk10 id = false by rw [R.out, h1', Bool.false_and])
    go_enter Tryz.func25, Tryz.ntmps25
    go_wp2_with fail
    go_ret
    exact ⟨by rw [R2.out]; rfl, Below.refl _ _⟩
theorem imp_demand_yes (c : Int) (w : World) : Calls Tryz.prog 62 #[.bool true, .int .i64 c] w fun e w' => e = .returned (.tuple #[]) ∧ w' = w := by
  go_enter Tryz.func62, Tryz.ntmps62
  go_wp2_with fail
  go_end0
  exact ⟨rfl, rfl⟩
theorem imp_demand_no (c : Int) (w : World) : Calls Tryz.prog 62 #[.bool false, .int .i64 c] w fun e w' => e = .panicked [{ v := faultP c, recovered := false }] ∧ w' = w := by
  go_enter Tryz.func62, Tryz.ntmps62
  go_wp2_with fail
  exact ⟨rfl, rfl, rfl⟩
theorem run_fault (v : Value) (x : TypeId) (W : World) : (Instr.typeAssert (.iface 84 v) x 84 false).run Tryz.prog W = .ok v W := by
  simp [Instr.typeAssert, run_underlying Tryz.underlying84]
set_option maxRecDepth 100000 in
theorem imp_faultCode (c : Int) (w : World) : Calls Tryz.prog 36 #[faultP c] w fun e w' => e = .returned (.int .i64 c) ∧ w' = w := by
  have hta := run_fault
  have hfi : ∀ W : World, (Instr.field 84 (.agg #[.int .i64 c]) 0).run Tryz.prog W = .ok (.int .i64 c) W := fun W => by kernel_rfl
  unfold faultP
  go_enter Tryz.func36, Tryz.ntmps36
  go_wp2_with fail
  go_ret
  exact ⟨rfl, rfl⟩
/-- p stands in front of s. -/
def inFront (s p : ByteArray) : Prop := p.size ≤ s.size ∧ s.extract 0 p.size = p
instance (s p : ByteArray) : Decidable (inFront s p) := by unfold inFront; infer_instance
def cutT (s p : ByteArray) : ByteArray := if inFront s p then s.extract p.size s.size else s
theorem list_beq (a b : ByteArray) : (a.toList == b.toList) = decide (a = b) := by
  by_cases h : a = b
  · subst h; simp
  · rw [decide_eq_false h]
    exact beq_eq_false_iff_ne.2 (fun e => h (by rw [ByteArray.toList_eq, ByteArray.toList_eq] at e; exact ByteArray.ext (Array.toList_inj.1 e)))
set_option maxRecDepth 100000 in
theorem imp_hasPrefix (s p : ByteArray) (w : World) :
    Calls Tryz.prog 144 #[.string s, .string p] w fun e w' => e = .returned (.bool (decide (inFront s p))) ∧ w' = w := by
  by_cases h1 : p.size ≤ s.size
  · have h1' : (p.size : Int) ≤ (s.size : Int) := by omega
    have hsl : ∀ W : World, (Instr.slice 9 (.string s) none (some (.int .i64 (p.size : Int))) none).run Tryz.prog W = .ok (.string (s.extract 0 p.size)) W := fun W => run_front (P := Tryz.prog) W 9 s p.size Tryz.underlying9 h1
    have E := hide (show decide (inFront s p) = decide (s.extract 0 p.size = p) from decide_eq_decide.2 ⟨fun h => h.2, fun h => ⟨h1, h⟩⟩)
    go_enter Tryz.func144, Tryz.ntmps144
    go_wp2_with fail
    go_ret
    exact ⟨by rw [E.out, ← list_beq]; rfl, rfl⟩
  · have h1' : (s.size : Int) < (p.size : Int) := by omega
    have E := hide (show decide (inFront s p) = false from decide_eq_false fun h => h1 h.1)
    go_enter Tryz.func144, Tryz.ntmps144
    go_wp2_with fail
    go_ret
    exact ⟨by rw [E.out]; rfl, rfl⟩
set_option maxRecDepth 100000 in
theorem imp_cutLite (s p : ByteArray) (w : World) :
    Calls Tryz.prog 130 #[.string s, .string p] w fun e w' => e = .returned (.tuple #[.string (cutT s p), .bool (decide (inFront s p))]) ∧ w' = w := by
  have S := fun W => imp_hasPrefix s p W
  by_cases h : inFront s p
  · have E := hide (show cutT s p = s.extract p.size s.size from if_pos h)
    have D := hide (show decide (inFront s p) = true from decide_eq_true h)
    rw [D.out] at S
    have h1 : (p.size : Int) ≤ (s.size : Int) := by have := h.1; omega
    have S := hide S
    clear h
    go_enter Tryz.func130, Tryz.ntmps130
    go_wp2_with fail
    refine (S.out _).mono ?_
    rintro e w1 ⟨rfl, rfl⟩
    clear S
    go_wp2_with fail
    go_ret2
    exact ⟨by rw [E.out, D.out]; first | done | rfl, rfl⟩
  · have E := hide (show cutT s p = s from if_neg h)
    have D := hide (show decide (inFront s p) = false from decide_eq_false h)
    rw [D.out] at S
    have S := hide S
    clear h
    go_enter Tryz.func130, Tryz.ntmps130
    go_wp2_with fail
    refine (S.out _).mono ?_
    rintro e w1 ⟨rfl, rfl⟩
    clear S
    go_wp2_with fail
    go_ret2
    exact ⟨by rw [E.out, D.out]; first | done | rfl, rfl⟩
set_option maxRecDepth 100000 in
theorem imp_cutPre (s p : ByteArray) (w : World) :
    Calls Tryz.prog 98 #[.string s, .string p] w fun e w' => e = .returned (.tuple #[.string (cutT s p), .bool (decide (inFront s p))]) ∧ w' = w := by
  have S := hide (fun W => imp_cutLite s p W)
  go_enter Tryz.func98, Tryz.ntmps98
  go_wp2_with fail
  refine (S.out _).mono ?_
  rintro e w1 ⟨rfl, rfl⟩
  clear S
  go_wp2_with fail
  go_ret2
  exact ⟨rfl, rfl⟩
end Go.Proofs.YtconcnndghmdfaaGreatDoor
namespace Go.Proofs.YtconcnndghmdfaaGreatDoor
open Go.RowKit Go
theorem cell_row3 {W : World} {z T : Nat} {x0 x1 x2 : Value} (h : W.heap[z]? = some (.cells #[x0, x1, x2] T (0, 0))) (o : Nat) (v : Value) (hv : #[x0, x1, x2][o]? = some v) : W.cell? ⟨z, o, none⟩ = some v := by simp [World.cell?, h, hv]
theorem numOut_cells {g T : Nat} {W w1 : World} {n : Nat} {x0 x1 x2 : Value} (hb : Below n W w1) (hg : g < n) (hW : W.heap[g]? = some (.cells #[x0, x1, x2] T (0, 0))) : w1.heap[g]? = some (.cells #[x0, x1, x2] T (0, 0)) := (hb.block g hg).trans hW
set_option maxRecDepth 100000 in
set_option maxHeartbeats 1600000 in
theorem spec_open_short (H M b : ByteArray) (N : Nat) (w : World) (hs : b.size < 18) :
    Calls Tryz.prog 41 #[.agg #[.string H, .string M], .int .i64 (N : Int), .string b] w fun e w' => e = .returned (textO ⟨#[]⟩ 4) ∧ Below w.heap.size w w' := by
  have h' : (b.size : Int) < 18 := by omega
  have HB : OpW w H M _ := OpW.start (w := w) (H := H) (M := M)
  have r0 := HB.r0
  have r1 := HB.r1
  have r2 := HB.r2
  have fz := HB.fz
  have HB := hide HB
  unfold textO
  go_enter Tryz.func41, Tryz.ntmps41
  go_wp2_with fail
  go_returns
  exact ⟨rfl, by go_grown⟩
set_option maxRecDepth 100000 in
set_option maxHeartbeats 3200000 in
theorem spec_open_key (H M b : ByteArray) (N : Nat) (w : World) (hM : M.size ≤ 20000) (hs : 18 ≤ b.size) (hb : b.size ≤ 20000) (hne : ¬ take16 (macT M (bodyX b)) = tailX b) :
    Calls Tryz.prog 41 #[.agg #[.string H, .string M], .int .i64 (N : Int), .string b] w fun e w' => e = .returned (textO ⟨#[]⟩ 10) ∧ Below w.heap.size w w' := by
  have h' : ¬ (b.size : Int) < 18 := by omega
  obtain ⟨L, hL⟩ : ∃ L, b.size = L + 16 := ⟨b.size - 16, by omega⟩
  have hn : (b.size : Int) - 16 = (L : Int) := by omega
  have hbd : b.extract 0 L = bodyX b := by unfold bodyX; rw [show b.size - 16 = L by omega]
  have htl : b.extract L b.size = tailX b := by unfold tailX; rw [show b.size - 16 = L by omega]
  have hls : (bodyX b).size = L := by rw [bodyX_size]; omega
  have hl2 : ((bodyX b).size : Int) = (L : Int) := by omega
  have hsl1 : ∀ W : World, (Instr.slice 9 (.string b) none (some (.int .i64 (L : Int))) none).run Tryz.prog W = .ok (.string (bodyX b)) W := fun W => by rw [← hbd]; exact run_front (P := Tryz.prog) W 9 b L Tryz.underlying9 (by omega)
  have hsl2 : ∀ W : World, (Instr.slice 9 (.string b) (some (.int .i64 (L : Int))) none none).run Tryz.prog W = .ok (.string (tailX b)) W := fun W => by rw [← htl]; exact run_back (P := Tryz.prog) W 9 b L Tryz.underlying9 (by omega)
  have HX := macT_size M (bodyX b)
  have SM := hide (fun W => spec_mac M (bodyX b) W hM (by omega))
  have hsl3 : ∀ W : World, (Instr.slice 9 (.string (macT M (bodyX b))) none (some (.int .i64 16)) none).run Tryz.prog W = .ok (.string (take16 (macT M (bodyX b)))) W := fun W => run_front (P := Tryz.prog) W 9 (macT M (bodyX b)) 16 Tryz.underlying9 (by rw [HX]; decide)
  have hX' : (16 : Int) ≤ ((macT M (bodyX b)).size : Int) := by rw [HX]; decide
  have HB : OpW w H M _ := OpW.start (w := w) (H := H) (M := M)
  have c1 := HB.c1
  have HB := hide HB
  have hq2 : ((take16 (macT M (bodyX b))).toList == (tailX b).toList) = false := by rw [list_beq, decide_eq_false hne]
  generalize take16 (macT M (bodyX b)) = X at *
  generalize macT M (bodyX b) = XX at *
  generalize bodyX b = BD at *
  generalize tailX b = TL at *
  clear hbd htl HX hls
  unfold textO
  go_enter Tryz.func41, Tryz.ntmps41
  go_wp2_with fail
  go_region_with ((go_at_call 34; refine (SM.out _).mono ?_; rintro e w2 ⟨rfl, hb2⟩; have HB := hide (show OpW w H M w2 by first | exact HB.out.call hb2 | exact HB.out.call' hb2 | exact HB.out.drew.call hb2); clear hb2))
  all_goals (
    have r0 := HB.out.r0
    have r1 := HB.out.r1
    have r2 := HB.out.r2
    have fz := HB.out.fz
    go_wp2_with fail
    exact bodyPost_ret (results_cell_row Tryz.results41 _ _ (w.heap.size + 1) 31 #[.string ⟨#[]⟩, .int .i64 0, .int .i64 10] (0, 0) _ rfl (HB.out.all _ _ _) Tryz.underlying31 rfl (by kernel_rfl)) rfl ⟨rfl, HB.out.set3 _ _ _⟩)
end Go.Proofs.YtconcnndghmdfaaGreatDoor
namespace Go.Proofs.YtconcnndghmdfaaGreatDoor
open Go.RowKit Go
set_option maxRecDepth 100000 in
set_option maxHeartbeats 6400000 in
theorem spec_open_head (H M b : ByteArray) (N : Nat) (w : World) (hM : M.size ≤ 20000) (hs : 18 ≤ b.size) (hb : b.size ≤ 20000) (hX : take16 (macT M (bodyX b)) = tailX b) (hno : ¬ headOk (bodyX b) (N : Int)) :
    Calls Tryz.prog 41 #[.agg #[.string H, .string M], .int .i64 (N : Int), .string b] w fun e w' => e = .returned (textO ⟨#[]⟩ 5) ∧ Below w.heap.size w w' := by
  have h' : ¬ (b.size : Int) < 18 := by omega
  obtain ⟨L, hL⟩ : ∃ L, b.size = L + 16 := ⟨b.size - 16, by omega⟩
  have hn : (b.size : Int) - 16 = (L : Int) := by omega
  have hbd : b.extract 0 L = bodyX b := by unfold bodyX; rw [show b.size - 16 = L by omega]
  have htl : b.extract L b.size = tailX b := by unfold tailX; rw [show b.size - 16 = L by omega]
  have hls : (bodyX b).size = L := by rw [bodyX_size]; omega
  have hl2 : ((bodyX b).size : Int) = (L : Int) := by omega
  have hsl1 : ∀ W : World, (Instr.slice 9 (.string b) none (some (.int .i64 (L : Int))) none).run Tryz.prog W = .ok (.string (bodyX b)) W := fun W => by rw [← hbd]; exact run_front (P := Tryz.prog) W 9 b L Tryz.underlying9 (by omega)
  have hsl2 : ∀ W : World, (Instr.slice 9 (.string b) (some (.int .i64 (L : Int))) none none).run Tryz.prog W = .ok (.string (tailX b)) W := fun W => by rw [← htl]; exact run_back (P := Tryz.prog) W 9 b L Tryz.underlying9 (by omega)
  have HX := macT_size M (bodyX b)
  have SM := hide (fun W => spec_mac M (bodyX b) W hM (by omega))
  have hsl3 : ∀ W : World, (Instr.slice 9 (.string (macT M (bodyX b))) none (some (.int .i64 16)) none).run Tryz.prog W = .ok (.string (take16 (macT M (bodyX b)))) W := fun W => run_front (P := Tryz.prog) W 9 (macT M (bodyX b)) 16 Tryz.underlying9 (by rw [HX]; decide)
  have hX' : (16 : Int) ≤ ((macT M (bodyX b)).size : Int) := by rw [HX]; decide
  have HB : OpW w H M _ := OpW.start (w := w) (H := H) (M := M)
  have c1 := HB.c1
  have HB := hide HB
  have hXeq : take16 (macT M (bodyX b)) = tailX b := hX
  rw [← hXeq] at hsl2
  obtain ⟨n1, q1, e1, f1, g1⟩ := num1_agg (bodyX b)
  obtain ⟨n2, a2, q2, e2, f2, g2⟩ := num2_agg (bodyX b)
  have hA := num1_le (bodyX b)
  have SG1' : ∀ W : World, Calls Tryz.prog 68 #[.string (bodyX b), .int .i64 0] W fun e w' => e = .returned (.agg #[.int .i64 n1, .int .i64 ((num1 (bodyX b)).2.2 : Int), .int .i64 q1]) ∧ Below W.heap.size W w' := fun W => by
    have h := spec_getNum (bodyX b) 0 W (by omega) (by decide)
    rw [show decAt (bodyX b) 0 = num1 (bodyX b) from rfl, e1] at h
    exact h
  have SG1 := hide SG1'
  have SG2' : ∀ W : World, Calls Tryz.prog 68 #[.string (bodyX b), .int .i64 ((num1 (bodyX b)).2.2 : Int)] W fun e w' => e = .returned (.agg #[.int .i64 n2, .int .i64 a2, .int .i64 q2]) ∧ Below W.heap.size W w' := fun W => by
    have h := spec_getNum (bodyX b) (num1 (bodyX b)).2.2 W (by omega) (by omega)
    rw [show decAt (bodyX b) (num1 (bodyX b)).2.2 = num2 (bodyX b) from rfl, e2] at h
    exact h
  have SG2 := hide SG2'
  clear SG1' SG2' e1 e2
  have hbad : ¬ (q1 = 0 ∧ q2 = 0 ∧ n1 = (N : Int) ∧ 0 ≤ n2 ∧ n2 ≤ 256) := fun h => hno ⟨f1.1 h.1, f2.1 h.2.1, by rw [← g1 h.1]; exact h.2.2.1, by rw [← (g2 h.2.1).1]; exact h.2.2.2.1, by rw [← (g2 h.2.1).1]; exact h.2.2.2.2⟩
  clear hno f1 g1 f2 g2
  generalize take16 (macT M (bodyX b)) = X at *
  generalize macT M (bodyX b) = XX at *
  generalize (num1 (bodyX b)).2.2 = A at *
  generalize bodyX b = BD at *
  generalize tailX b = TL at *
  clear hbd htl HX hls hX hXeq hA
  unfold textO
  by_cases k1 : q1 = 0
  · subst k1
    by_cases k2 : q2 = 0
    · subst k2
      by_cases k3 : n1 = (N : Int)
      · subst k3
        by_cases k4 : 0 ≤ n2
        · have k5 : 256 < n2 := by
            rcases Int.lt_or_le 256 n2 with h | h
            · exact h
            · exact absurd ⟨rfl, rfl, rfl, k4, h⟩ hbad
          have k4' : ¬ n2 < 0 := by omega
          have d4 : decide (n2 < 0) = false := decide_eq_false k4'
          have d5 : decide (256 < n2) = true := decide_eq_true k5
          clear hbad
          go_enter Tryz.func41, Tryz.ntmps41
          go_wp2_with fail
          go_region_with ((go_at_call 34; refine (SM.out _).mono ?_; rintro e w2 ⟨rfl, hb2⟩; have HB := hide (show OpW w H M w2 by first | exact HB.out.call hb2 | exact HB.out.call' hb2 | exact HB.out.drew.call hb2); clear hb2))
          go_wp2_with fail
          refine (SG1.out _).mono ?_
          rintro e w3 ⟨rfl, hb3⟩
          have HB := hide (HB.out.call hb3)
          clear hb3 SG1 SM
          go_wp2_with fail
          refine (SG2.out _).mono ?_
          rintro e w4 ⟨rfl, hb4⟩
          have HX := hide ((OpY.one HB.out).call hb4)
          clear hb4 SG2 HB
          generalize w3.heap.size = bx at *
          have HX5 := HX.out.alloc (.cells #[.int .i64 n2, .int .i64 a2, .int .i64 0] 91)
          have HY := hide (OpY.one (n := n2) (a := a2) (c := 0) HX.out.o)
          have x0 := HX5.y0
          have x2 := HX5.y2
          have r0 := HX5.o.r0
          have r1 := HX5.o.r1
          have r2 := HX5.o.r2
          have fz := HX5.o.fz
          have c0 := HX5.o.c0
          have HB := hide HX5.o
          clear HX HX5
          go_wp2_with fail
          exact bodyPost_ret (results_cell_row Tryz.results41 _ _ (w.heap.size + 1) 31 #[.string ⟨#[]⟩, .int .i64 0, .int .i64 5] (0, 0) _ rfl (HB.out.all _ _ _) Tryz.underlying31 rfl (by kernel_rfl)) rfl ⟨rfl, HB.out.set3 _ _ _⟩
        · have k4' : n2 < 0 := by omega
          have d4 : decide (n2 < 0) = true := decide_eq_true k4'
          clear hbad
          go_enter Tryz.func41, Tryz.ntmps41
          go_wp2_with fail
          go_region_with ((go_at_call 34; refine (SM.out _).mono ?_; rintro e w2 ⟨rfl, hb2⟩; have HB := hide (show OpW w H M w2 by first | exact HB.out.call hb2 | exact HB.out.call' hb2 | exact HB.out.drew.call hb2); clear hb2))
          go_wp2_with fail
          refine (SG1.out _).mono ?_
          rintro e w3 ⟨rfl, hb3⟩
          have HB := hide (HB.out.call hb3)
          clear hb3 SG1 SM
          go_wp2_with fail
          refine (SG2.out _).mono ?_
          rintro e w4 ⟨rfl, hb4⟩
          have HX := hide ((OpY.one HB.out).call hb4)
          clear hb4 SG2 HB
          generalize w3.heap.size = bx at *
          have HX5 := HX.out.alloc (.cells #[.int .i64 n2, .int .i64 a2, .int .i64 0] 91)
          have HY := hide (OpY.one (n := n2) (a := a2) (c := 0) HX.out.o)
          have x0 := HX5.y0
          have x2 := HX5.y2
          have r0 := HX5.o.r0
          have r1 := HX5.o.r1
          have r2 := HX5.o.r2
          have fz := HX5.o.fz
          have c0 := HX5.o.c0
          have HB := hide HX5.o
          clear HX HX5
          go_wp2_with fail
          exact bodyPost_ret (results_cell_row Tryz.results41 _ _ (w.heap.size + 1) 31 #[.string ⟨#[]⟩, .int .i64 0, .int .i64 5] (0, 0) _ rfl (HB.out.all _ _ _) Tryz.underlying31 rfl (by kernel_rfl)) rfl ⟨rfl, HB.out.set3 _ _ _⟩
      · have d3 : (n1 == (N : Int)) = false := beq_eq_false_iff_ne.2 k3
        clear hbad
        go_enter Tryz.func41, Tryz.ntmps41
        go_wp2_with fail
        go_region_with ((go_at_call 34; refine (SM.out _).mono ?_; rintro e w2 ⟨rfl, hb2⟩; have HB := hide (show OpW w H M w2 by first | exact HB.out.call hb2 | exact HB.out.call' hb2 | exact HB.out.drew.call hb2); clear hb2))
        go_wp2_with fail
        refine (SG1.out _).mono ?_
        rintro e w3 ⟨rfl, hb3⟩
        have HB := hide (HB.out.call hb3)
        clear hb3 SG1 SM
        go_wp2_with fail
        refine (SG2.out _).mono ?_
        rintro e w4 ⟨rfl, hb4⟩
        have HX := hide ((OpY.one HB.out).call hb4)
        clear hb4 SG2 HB
        generalize w3.heap.size = bx at *
        have HX5 := HX.out.alloc (.cells #[.int .i64 n2, .int .i64 a2, .int .i64 0] 91)
        have HY := hide (OpY.one (n := n2) (a := a2) (c := 0) HX.out.o)
        have x0 := HX5.y0
        have x2 := HX5.y2
        have r0 := HX5.o.r0
        have r1 := HX5.o.r1
        have r2 := HX5.o.r2
        have fz := HX5.o.fz
        have c0 := HX5.o.c0
        have HB := hide HX5.o
        clear HX HX5
        go_wp2_with fail
        exact bodyPost_ret (results_cell_row Tryz.results41 _ _ (w.heap.size + 1) 31 #[.string ⟨#[]⟩, .int .i64 0, .int .i64 5] (0, 0) _ rfl (HB.out.all _ _ _) Tryz.underlying31 rfl (by kernel_rfl)) rfl ⟨rfl, HB.out.set3 _ _ _⟩
    · have d2 : (q2 == 0) = false := beq_eq_false_iff_ne.2 k2
      clear hbad
      go_enter Tryz.func41, Tryz.ntmps41
      go_wp2_with fail
      go_region_with ((go_at_call 34; refine (SM.out _).mono ?_; rintro e w2 ⟨rfl, hb2⟩; have HB := hide (show OpW w H M w2 by first | exact HB.out.call hb2 | exact HB.out.call' hb2 | exact HB.out.drew.call hb2); clear hb2))
      go_wp2_with fail
      refine (SG1.out _).mono ?_
      rintro e w3 ⟨rfl, hb3⟩
      have HB := hide (HB.out.call hb3)
      clear hb3 SG1 SM
      go_wp2_with fail
      refine (SG2.out _).mono ?_
      rintro e w4 ⟨rfl, hb4⟩
      have HX := hide ((OpY.one HB.out).call hb4)
      clear hb4 SG2 HB
      generalize w3.heap.size = bx at *
      have HX5 := HX.out.alloc (.cells #[.int .i64 n2, .int .i64 a2, .int .i64 q2] 91)
      have HY := hide (OpY.one (n := n2) (a := a2) (c := q2) HX.out.o)
      have x0 := HX5.y0
      have x2 := HX5.y2
      have r0 := HX5.o.r0
      have r1 := HX5.o.r1
      have r2 := HX5.o.r2
      have fz := HX5.o.fz
      have c0 := HX5.o.c0
      have HB := hide HX5.o
      clear HX HX5
      go_wp2_with fail
      exact bodyPost_ret (results_cell_row Tryz.results41 _ _ (w.heap.size + 1) 31 #[.string ⟨#[]⟩, .int .i64 0, .int .i64 5] (0, 0) _ rfl (HB.out.all _ _ _) Tryz.underlying31 rfl (by kernel_rfl)) rfl ⟨rfl, HB.out.set3 _ _ _⟩
  · have d1 : (q1 == 0) = false := beq_eq_false_iff_ne.2 k1
    clear hbad
    go_enter Tryz.func41, Tryz.ntmps41
    go_wp2_with fail
    go_region_with ((go_at_call 34; refine (SM.out _).mono ?_; rintro e w2 ⟨rfl, hb2⟩; have HB := hide (show OpW w H M w2 by first | exact HB.out.call hb2 | exact HB.out.call' hb2 | exact HB.out.drew.call hb2); clear hb2))
    go_wp2_with fail
    refine (SG1.out _).mono ?_
    rintro e w3 ⟨rfl, hb3⟩
    have HB := hide (HB.out.call hb3)
    clear hb3 SG1 SM
    go_wp2_with fail
    refine (SG2.out _).mono ?_
    rintro e w4 ⟨rfl, hb4⟩
    have HX := hide ((OpY.one HB.out).call hb4)
    clear hb4 SG2 HB
    generalize w3.heap.size = bx at *
    have HX5 := HX.out.alloc (.cells #[.int .i64 n2, .int .i64 a2, .int .i64 q2] 91)
    have HY := hide (OpY.one (n := n2) (a := a2) (c := q2) HX.out.o)
    have x0 := HX5.y0
    have x2 := HX5.y2
    have r0 := HX5.o.r0
    have r1 := HX5.o.r1
    have r2 := HX5.o.r2
    have fz := HX5.o.fz
    have c0 := HX5.o.c0
    have HB := hide HX5.o
    clear HX HX5
    go_wp2_with fail
    exact bodyPost_ret (results_cell_row Tryz.results41 _ _ (w.heap.size + 1) 31 #[.string ⟨#[]⟩, .int .i64 0, .int .i64 5] (0, 0) _ rfl (HB.out.all _ _ _) Tryz.underlying31 rfl (by kernel_rfl)) rfl ⟨rfl, HB.out.set3 _ _ _⟩
end Go.Proofs.YtconcnndghmdfaaGreatDoor

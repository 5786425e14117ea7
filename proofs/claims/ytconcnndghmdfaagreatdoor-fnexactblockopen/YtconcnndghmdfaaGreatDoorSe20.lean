/- Put together: SealPs, SealOs. -/
import Derived.Test.YtconcnndghmdfaaGreatDoorSe19
import Derived.BigRegion
import Derived.WalkSmall
import Derived.Stop.Asserts
import Derived.Test.YtconcnndghmdfaaGreatDoorSe4
import Derived.Deep.RegionWith
import Derived.Deep.RegionHeld3
namespace Go.Proofs.YtconcnndghmdfaaGreatDoor
open Go.RowKit
def farOk10 (n : Int) : Bool := decide (0 ≤ n) && decide (n ≤ 256)
/-- The panic of a block that is wrong. -/
def faultP (c : Int) : Value := .iface 84 (.agg #[.int .i64 c])
set_option maxRecDepth 100000 in
theorem imp_idRight (id : Int) (w : World) :
    Calls Tryz.prog 24 #[.int .i64 id] w fun e w' => e = .returned (.bool (idOk id)) ∧ Below w.heap.size w w' := by
  have R := hide (show idOk id = (decide (0 ≤ id) && decide (id ≤ 2000000)) from rfl)
  by_cases h1 : 0 ≤ id
  · have h1' : decide (0 ≤ id) = true := decide_eq_true h1
    by_cases h2 : id ≤ 2000000
    · have h2' : decide (id ≤ 2000000) = true := decide_eq_true h2
      have R2 := hide (show idOk id = true by rw [R.out, h1', h2', Bool.and_self])
      go_enter Tryz.func24, Tryz.ntmps24
      go_wp2_with fail
      go_ret
      exact ⟨by rw [R2.out]; rfl, Below.refl _ _⟩
    · have h2' : decide (id ≤ 2000000) = false := decide_eq_false h2
      have R2 := hide (show idOk id = false by rw [R.out, h1', h2', Bool.true_and])
      go_enter Tryz.func24, Tryz.ntmps24
      go_wp2_with fail
      go_ret
      exact ⟨by rw [R2.out]; rfl, Below.refl _ _⟩
  · have h1' : decide (0 ≤ id) = false := decide_eq_false h1
    have R2 := hide (show idOk id = false by rw [R.out, h1', Bool.false_and])
    go_enter Tryz.func24, Tryz.ntmps24
    go_wp2_with fail
    go_ret
    exact ⟨by rw [R2.out]; rfl, Below.refl _ _⟩
set_option maxRecDepth 100000 in
theorem imp_farRight (id : Int) (w : World) :
    Calls Tryz.prog 25 #[.int .i64 id] w fun e w' => e = .returned (.bool (farOk10 id)) ∧ Below w.heap.size w w' := by
  have R := hide (show farOk10 id = (decide (0 ≤ id) && decide (id ≤ 256)) from rfl)
  by_cases h1 : 0 ≤ id
  · have h1' : decide (0 ≤ id) = true := decide_eq_true h1
    by_cases h2 : id ≤ 256
    · have h2' : decide (id ≤ 256) = true := decide_eq_true h2
      have R2 := hide (show farOk10 id = true by rw [R.out, h1', h2', Bool.and_self])
      go_enter Tryz.func25, Tryz.ntmps25
      go_wp2_with fail
      go_ret
      exact ⟨by rw [R2.out]; rfl, Below.refl _ _⟩
    · have h2' : decide (id ≤ 256) = false := decide_eq_false h2
      have R2 := hide (show farOk10 id = false by rw [R.out, h1', h2', Bool.true_and])
      go_enter Tryz.func25, Tryz.ntmps25
      go_wp2_with fail
      go_ret
      exact ⟨by rw [R2.out]; rfl, Below.refl _ _⟩
  · have h1' : decide (0 ≤ id) = false := decide_eq_false h1
    have R2 := hide (show farOk10 id = false by rw [R.out, h1', Bool.false_and])
    go_enter Tryz.func25, Tryz.ntmps25
    go_wp2_with fail
    go_ret
    exact ⟨by rw [R2.out]; rfl, Below.refl _ _⟩
theorem imp_demand_yes (c : Int) (w : World) : Calls Tryz.prog 62 #[.bool true, .int .i64 c] w fun e w' => e = .returned (.tuple #[]) ∧ w' = w := by
  go_enter Tryz.func62, Tryz.ntmps62
  go_wp2_with fail
  go_end0
  exact ⟨rfl, rfl⟩
theorem imp_demand_no (c : Int) (w : World) : Calls Tryz.prog 62 #[.bool false, .int .i64 c] w fun e w' => e = .panicked [{ v := faultP c, recovered := false }] ∧ w' = w := by
  go_enter Tryz.func62, Tryz.ntmps62
  go_wp2_with fail
  exact ⟨rfl, rfl, rfl⟩
theorem run_fault (v : Value) (x : TypeId) (W : World) : (Instr.typeAssert (.iface 84 v) x 84 false).run Tryz.prog W = .ok v W := by
  simp [Instr.typeAssert, run_underlying Tryz.underlying84]
set_option maxRecDepth 100000 in
theorem imp_faultCode (c : Int) (w : World) : Calls Tryz.prog 36 #[faultP c] w fun e w' => e = .returned (.int .i64 c) ∧ w' = w := by
  have hta := run_fault
  have hfi : ∀ W : World, (Instr.field 84 (.agg #[.int .i64 c]) 0).run Tryz.prog W = .ok (.int .i64 c) W := fun W => by kernel_rfl
  unfold faultP
  go_enter Tryz.func36, Tryz.ntmps36
  go_wp2_with fail
  go_ret
  exact ⟨rfl, rfl⟩
/-- p stands in front of s. -/
def inFront (s p : ByteArray) : Prop := p.size ≤ s.size ∧ s.extract 0 p.size = p
instance (s p : ByteArray) : Decidable (inFront s p) := by unfold inFront; infer_instance
def cutT (s p : ByteArray) : ByteArray := if inFront s p then s.extract p.size s.size else s
theorem list_beq (a b : ByteArray) : (a.toList == b.toList) = decide (a = b) := by
  by_cases h : a = b
  · subst h; simp
  · rw [decide_eq_false h]
    exact beq_eq_false_iff_ne.2 (fun e => h (by rw [ByteArray.toList_eq, ByteArray.toList_eq] at e; exact ByteArray.ext (Array.toList_inj.1 e)))
set_option maxRecDepth 100000 in
theorem imp_hasPrefix (s p : ByteArray) (w : World) :
    Calls Tryz.prog 144 #[.string s, .string p] w fun e w' => e = .returned (.bool (decide (inFront s p))) ∧ w' = w := by
  by_cases h1 : p.size ≤ s.size
  · have h1' : (p.size : Int) ≤ (s.size : Int) := by omega
    have hsl : ∀ W : World, (Instr.slice 9 (.string s) none (some (.int .i64 (p.size : Int))) none).run Tryz.prog W = .ok (.string (s.extract 0 p.size)) W := fun W => run_front (P := Tryz.prog) W 9 s p.size Tryz.underlying9 h1
    have E := hide (show decide (inFront s p) = decide (s.extract 0 p.size = p) from decide_eq_decide.2 ⟨fun h => h.2, fun h => ⟨h1, h⟩⟩)
    go_enter Tryz.func144, Tryz.ntmps144
    go_wp2_with fail
    go_ret
    exact ⟨by rw [E.out, ← list_beq]; rfl, rfl⟩
  · have h1' : (s.size : Int) < (p.size : Int) := by omega
    have E := hide (show decide (inFront s p) = false from decide_eq_false fun h => h1 h.1)
    go_enter Tryz.func144, Tryz.ntmps144
    go_wp2_with fail
    go_ret
    exact ⟨by rw [E.out]; rfl, rfl⟩
set_option maxRecDepth 100000 in
theorem imp_cutLite (s p : ByteArray) (w : World) :
    Calls Tryz.prog 130 #[.string s, .string p] w fun e w' => e = .returned (.tuple #[.string (cutT s p), .bool (decide (inFront s p))]) ∧ w' = w := by
  have S := fun W => imp_hasPrefix s p W
  by_cases h : inFront s p
  · have E := hide (show cutT s p = s.extract p.size s.size from if_pos h)
    have D := hide (show decide (inFront s p) = true from decide_eq_true h)
    rw [D.out] at S
    have h1 : (p.size : Int) ≤ (s.size : Int) := by have := h.1; omega
    have S := hide S
    clear h
    go_enter Tryz.func130, Tryz.ntmps130
    go_wp2_with fail
    refine (S.out _).mono ?_
    rintro e w1 ⟨rfl, rfl⟩
    clear S
    go_wp2_with fail
    go_ret2
    exact ⟨by rw [E.out, D.out]; first | done | rfl, rfl⟩
  · have E := hide (show cutT s p = s from if_neg h)
    have D := hide (show decide (inFront s p) = false from decide_eq_false h)
    rw [D.out] at S
    have S := hide S
    clear h
    go_enter Tryz.func130, Tryz.ntmps130
    go_wp2_with fail
    refine (S.out _).mono ?_
    rintro e w1 ⟨rfl, rfl⟩
    clear S
    go_wp2_with fail
    go_ret2
    exact ⟨by rw [E.out, D.out]; first | done | rfl, rfl⟩
set_option maxRecDepth 100000 in
theorem imp_cutPre (s p : ByteArray) (w : World) :
    Calls Tryz.prog 98 #[.string s, .string p] w fun e w' => e = .returned (.tuple #[.string (cutT s p), .bool (decide (inFront s p))]) ∧ w' = w := by
  have S := hide (fun W => imp_cutLite s p W)
  go_enter Tryz.func98, Tryz.ntmps98
  go_wp2_with fail
  refine (S.out _).mono ?_
  rintro e w1 ⟨rfl, rfl⟩
  clear S
  go_wp2_with fail
  go_ret2
  exact ⟨rfl, rfl⟩
end Go.Proofs.YtconcnndghmdfaaGreatDoor
namespace Go.Proofs.YtconcnndghmdfaaGreatDoor
open Go.RowKit Go
theorem cell_row3 {W : World} {z T : Nat} {x0 x1 x2 : Value} (h : W.heap[z]? = some (.cells #[x0, x1, x2] T (0, 0))) (o : Nat) (v : Value) (hv : #[x0, x1, x2][o]? = some v) : W.cell? ⟨z, o, none⟩ = some v := by simp [World.cell?, h, hv]
theorem numOut_cells {g T : Nat} {W w1 : World} {n : Nat} {x0 x1 x2 : Value} (hb : Below n W w1) (hg : g < n) (hW : W.heap[g]? = some (.cells #[x0, x1, x2] T (0, 0))) : w1.heap[g]? = some (.cells #[x0, x1, x2] T (0, 0)) := (hb.block g hg).trans hW
set_option maxRecDepth 100000 in
set_option maxHeartbeats 1600000 in
theorem spec_open_short (H M b : ByteArray) (N : Nat) (w : World) (hs : b.size < 18) :
    Calls Tryz.prog 41 #[.agg #[.string H, .string M], .int .i64 (N : Int), .string b] w fun e w' => e = .returned (textO ⟨#[]⟩ 4) ∧ Below w.heap.size w w' := by
  have h' : (b.size : Int) < 18 := by omega
  have HB : OpW w H M _ := OpW.start (w := w) (H := H) (M := M)
  have r0 := HB.r0
  have r1 := HB.r1
  have r2 := HB.r2
  have fz := HB.fz
  have HB := hide HB
  unfold textO
  go_enter Tryz.func41, Tryz.ntmps41
  go_wp2_with fail
  go_returns
  exact ⟨rfl, by go_grown⟩
set_option maxRecDepth 100000 in
set_option maxHeartbeats 3200000 in
theorem spec_open_key (H M b : ByteArray) (N : Nat) (w : World) (hM : M.size ≤ 20000) (hs : 18 ≤ b.size) (hb : b.size ≤ 20000) (hne : ¬ take16 (macT M (bodyX b)) = tailX b) :
    Calls Tryz.prog 41 #[.agg #[.string H, .string M], .int .i64 (N : Int), .string b] w fun e w' => e = .returned (textO ⟨#[]⟩ 10) ∧ Below w.heap.size w w' := by
  have h' : ¬ (b.size : Int) < 18 := by omega
  obtain ⟨L, hL⟩ : ∃ L, b.size = L + 16 := ⟨b.size - 16, by omega⟩
  have hn : (b.size : Int) - 16 = (L : Int) := by omega
  have hbd : b.extract 0 L = bodyX b := by unfold bodyX; rw [show b.size - 16 = L by omega]
  have htl : b.extract L b.size = tailX b := by unfold tailX; rw [show b.size - 16 = L by omega]
  have hls : (bodyX b).size = L := by rw [bodyX_size]; omega
  have hl2 : ((bodyX b).size : Int) = (L : Int) := by omega
  have hsl1 : ∀ W : World, (Instr.slice 9 (.string b) none (some (.int .i64 (L : Int))) none).run Tryz.prog W = .ok (.string (bodyX b)) W := fun W => by rw [← hbd]; exact run_front (P := Tryz.prog) W 9 b L Tryz.underlying9 (by omega)
  have hsl2 : ∀ W : World, (Instr.slice 9 (.string b) (some (.int .i64 (L : Int))) none none).run Tryz.prog W = .ok (.string (tailX b)) W := fun W => by rw [← htl]; exact run_back (P := Tryz.prog) W 9 b L Tryz.underlying9 (by omega)
  have HX := macT_size M (bodyX b)
  have SM := hide (fun W => spec_mac M (bodyX b) W hM (by omega))
  have hsl3 : ∀ W : World, (Instr.slice 9 (.string (macT M (bodyX b))) none (some (.int .i64 16)) none).run Tryz.prog W = .ok (.string (take16 (macT M (bodyX b)))) W := fun W => run_front (P := Tryz.prog) W 9 (macT M (bodyX b)) 16 Tryz.underlying9 (by rw [HX]; decide)
  have hX' : (16 : Int) ≤ ((macT M (bodyX b)).size : Int) := by rw [HX]; decide
  have HB : OpW w H M _ := OpW.start (w := w) (H := H) (M := M)
  have c1 := HB.c1
  have HB := hide HB
  have hq2 : ((take16 (macT M (bodyX b))).toList == (tailX b).toList) = false := by rw [list_beq, decide_eq_false hne]
  generalize take16 (macT M (bodyX b)) = X at *
  generalize macT M (bodyX b) = XX at *
  generalize bodyX b = BD at *
  generalize tailX b = TL at *
  clear hbd htl HX hls
  unfold textO
  go_enter Tryz.func41, Tryz.ntmps41
  go_wp2_with fail
  go_region_with ((go_at_call 34; refine (SM.out _).mono ?_; rintro e w2 ⟨rfl, hb2⟩; have HB := hide (show OpW w H M w2 by first | exact HB.out.call hb2 | exact HB.out.call' hb2 | exact HB.out.drew.call hb2); clear hb2))
  all_goals (
    have r0 := HB.out.r0
    have r1 := HB.out.r1
    have r2 := HB.out.r2
    have fz := HB.out.fz
    go_wp2_with fail
    exact bodyPost_ret (results_cell_row Tryz.results41 _ _ (w.heap.size + 1) 31 #[.string ⟨#[]⟩, .int .i64 0, .int .i64 10] (0, 0) _ rfl (HB.out.all _ _ _) Tryz.underlying31 rfl (by kernel_rfl)) rfl ⟨rfl, HB.out.set3 _ _ _⟩)
end Go.Proofs.YtconcnndghmdfaaGreatDoor

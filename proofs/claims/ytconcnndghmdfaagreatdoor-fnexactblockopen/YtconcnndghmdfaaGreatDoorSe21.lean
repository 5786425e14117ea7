/- The walk over the model's l10Open. By mkopen.py. -/
import Derived.Test.YtconcnndghmdfaaGreatDoorSe20
import Derived.Test.YtconcnndghmdfaaGreatDoorSe4
import Derived.Deep.RegionWith
import Derived.Deep.RegionHeld3
import Derived.BigRegion
namespace Go.Proofs.YtconcnndghmdfaaGreatDoor
open Go.RowKit Go
theorem cell_row3 {W : World} {z T : Nat} {x0 x1 x2 : Value} (h : W.heap[z]? = some (.cells #[x0, x1, x2] T (0, 0))) (o : Nat) (v : Value) (hv : #[x0, x1, x2][o]? = some v) : W.cell? ⟨z, o, none⟩ = some v := by simp [World.cell?, h, hv]
theorem numOut_cells {g T : Nat} {W w1 : World} {n : Nat} {x0 x1 x2 : Value} (hb : Below n W w1) (hg : g < n) (hW : W.heap[g]? = some (.cells #[x0, x1, x2] T (0, 0))) : w1.heap[g]? = some (.cells #[x0, x1, x2] T (0, 0)) := (hb.block g hg).trans hW
set_option maxRecDepth 100000 in
set_option maxHeartbeats 1600000 in
theorem spec_open_short (H M b : ByteArray) (N : Nat) (w : World) (hs : b.size < 18) :
    Calls Tryz.prog 41 #[.agg #[.string H, .string M], .int .i64 (N : Int), .string b] w fun e w' => e = .returned (textO ⟨#[]⟩ 4) ∧ Below w.heap.size w w' := by
  have h' : (b.size : Int) < 18 := by omega
  have HB : OpW w H M _ := OpW.start (w := w) (H := H) (M := M)
  have r0 := HB.r0
  have r1 := HB.r1
  have r2 := HB.r2
  have fz := HB.fz
  have HB := hide HB
  unfold textO
  go_enter Tryz.func41, Tryz.ntmps41
  go_wp2_with fail
  go_returns
  exact ⟨rfl, by go_grown⟩
set_option maxRecDepth 100000 in
set_option maxHeartbeats 3200000 in
theorem spec_open_key (H M b : ByteArray) (N : Nat) (w : World) (hM : M.size ≤ 20000) (hs : 18 ≤ b.size) (hb : b.size ≤ 20000) (hne : ¬ take16 (macT M (bodyX b)) = tailX b) :
    Calls Tryz.prog 41 #[.agg #[.string H, .string M], .int .i64 (N : Int), .string b] w fun e w' => e = .returned (textO ⟨#[]⟩ 10) ∧ Below w.heap.size w w' := by
  have h' : ¬ (b.size : Int) < 18 := by omega
  obtain ⟨L, hL⟩ : ∃ L, b.size = L + 16 := ⟨b.size - 16, by omega⟩
  have hn : (b.size : Int) - 16 = (L : Int) := by omega
  have hbd : b.extract 0 L = bodyX b := by unfold bodyX; rw [show b.size - 16 = L by omega]
  have htl : b.extract L b.size = tailX b := by unfold tailX; rw [show b.size - 16 = L by omega]
  have hls : (bodyX b).size = L := by rw [bodyX_size]; omega
  have hl2 : ((bodyX b).size : Int) = (L : Int) := by omega
  have hsl1 : ∀ W : World, (Instr.slice 9 (.string b) none (some (.int .i64 (L : Int))) none).run Tryz.prog W = .ok (.string (bodyX b)) W := fun W => by rw [← hbd]; exact run_front (P := Tryz.prog) W 9 b L Tryz.underlying9 (by omega)
  have hsl2 : ∀ W : World, (Instr.slice 9 (.string b) (some (.int .i64 (L : Int))) none none).run Tryz.prog W = .ok (.string (tailX b)) W := fun W => by rw [← htl]; exact run_back (P := Tryz.prog) W 9 b L Tryz.underlying9 (by omega)
  have HX := macT_size M (bodyX b)
  have SM := hide (fun W => spec_mac M (bodyX b) W hM (by omega))
  have hsl3 : ∀ W : World, (Instr.slice 9 (.string (macT M (bodyX b))) none (some (.int .i64 16)) none).run Tryz.prog W = .ok (.string (take16 (macT M (bodyX b)))) W := fun W => run_front (P := Tryz.prog) W 9 (macT M (bodyX b)) 16 Tryz.underlying9 (by rw [HX]; decide)
  have hX' : (16 : Int) ≤ ((macT M (bodyX b)).size : Int) := by rw [HX]; decide
  have HB : OpW w H M _ := OpW.start (w := w) (H := H) (M := M)
  have c1 := HB.c1
  have HB := hide HB
  have hq2 : ((take16 (macT M (bodyX b))).toList == (tailX b).toList) = false := by rw [list_beq, decide_eq_false hne]
  generalize take16 (macT M (bodyX b)) = X at *
  generalize macT M (bodyX b) = XX at *
  generalize bodyX b = BD at *
  generalize tailX b = TL at *
  clear hbd htl HX hls
  unfold textO
  go_enter Tryz.func41, Tryz.ntmps41
  go_wp2_with fail
  go_region_with ((go_at_call 34; refine (SM.out _).mono ?_; rintro e w2 ⟨rfl, hb2⟩; have HB := hide (show OpW w H M w2 by first | exact HB.out.call hb2 | exact HB.out.call' hb2 | exact HB.out.drew.call hb2); clear hb2))
  all_goals (
    have r0 := HB.out.r0
    have r1 := HB.out.r1
    have r2 := HB.out.r2
    have fz := HB.out.fz
    go_wp2_with fail
    exact bodyPost_ret (results_cell_row Tryz.results41 _ _ (w.heap.size + 1) 31 #[.string ⟨#[]⟩, .int .i64 0, .int .i64 10] (0, 0) _ rfl (HB.out.all _ _ _) Tryz.underlying31 rfl (by kernel_rfl)) rfl ⟨rfl, HB.out.set3 _ _ _⟩)
end Go.Proofs.YtconcnndghmdfaaGreatDoor

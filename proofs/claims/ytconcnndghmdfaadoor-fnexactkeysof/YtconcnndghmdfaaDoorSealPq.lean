/- The walk over the program's KeysOf. -/
import Derived.Test.YtconcnndghmdfaaDoorKeyF
import Derived.Test.YtconcnndghmdfaaDoorMacTw
import Derived.Test.YtconcnndghmdfaaDoorImpStr
import Derived.Deep.RegionWith
import Derived.BigRegion
namespace Go.Proofs.YtconcnndghmdfaaDoor
open Go Go.RowKit
set_option maxRecDepth 100000 in
set_option maxHeartbeats 1600000 in
theorem imp_keysGood (pass : ByteArray) (w : World) (htab : Tab w) (hp : pass.size ≤ 20000) :
    Calls Tryd.prog 5 #[.string pass] w fun e w' => e = .returned (keysV (keysT pass)) ∧ Below w.heap.size w w' := by
  have hp' : ¬ (20000 : Int) < (pass.size : Int) := by omega
  have HT := hide htab
  have S0 := hide (fun W (h : Tab W) => impl_stretch pass 3 W h h.lt)
  have hs := stretchS_size pass 3
  have S1 := hide (fun L W (h : L.size ≤ 20000) (ht : Tab W) => imp_macT (stretchS pass 3) L W (by omega) h ht)
  have HX := hide (fun L => macT_size (stretchS pass 3) L)
  have E := hide (show keysV (keysT pass) = .agg #[.string ((macT (stretchS pass 3) hideW).extract 0 16), .string (macT (stretchS pass 3) markW)] by unfold keysV keysT take16; rfl)
  generalize macT (stretchS pass 3) = mac at *
  generalize stretchS pass 3 = K at *
  have hsl : ∀ (L : ByteArray) (W : World), (Instr.slice 9 (.string (mac L)) none (some (.int .i64 16)) none).run Tryd.prog W = .ok (.string ((mac L).extract 0 16)) W := fun L W => run_front (P := Tryd.prog) W 9 (mac L) 16 Tryd.underlying9 (by rw [HX.out L]; decide)
  have hX' : ∀ L, (16 : Int) ≤ ((mac L).size : Int) := fun L => by rw [HX.out L]; decide
  clear hs HX htab
  go_enter Tryd.func5, Tryd.ntmps5
  go_wp2_with fail
  refine (S0.out _ (HT.out.alloc _)).mono ?_
  rintro e w1 ⟨rfl, hb1⟩
  simp at hb1
  have HB := hide hb1
  obtain ⟨c0, c1, hf, _⟩ := keys_cells hb1 (Nat.lt_succ_self _) (heap_alloc_new w _)
  clear S0 hb1
  go_wp2_with fail
  go_region_with (go_at_call 9; refine (S1.out _ _ (by decide) (by first | exact HT.out.low (((Below.refl _ _).alloc (Nat.le_refl _) _).trans (HB.out.mono (Nat.le_succ _))) | exact (HT.out.low (((Below.refl _ _).alloc (Nat.le_refl _) _).trans (HB.out.mono (Nat.le_succ _)))).low (Below.refl _ _).drew)).mono ?_; rintro e w2 ⟨rfl, hb2⟩; have HB := hide (show Below (w.heap.size + 1) (w.alloc (.cells #[.string ⟨#[]⟩, .string ⟨#[]⟩] 23)) w2 by first | exact HB.out.drew.trans (hb2.mono (by have := HB.out.size; simp at this; simp; omega)) | exact HB.out.trans (hb2.mono (by have := HB.out.size; simp at this; omega))); obtain ⟨c0, c1, hf, hq⟩ := keys_cells HB.out (Nat.lt_succ_self _) (heap_alloc_new w _); clear hb2)
  all_goals (
    go_wp2_with fail
    exact bodyPost_ret (results_cell_row Tryd.results5 _ _ w.heap.size 23 #[.string ((mac hideW).extract 0 16), .string (mac markW)] (0, 0) _ rfl (keys_set hq) Tryd.underlying23 rfl (by kernel_rfl)) rfl ⟨by rw [E.out], keys_below HB.out⟩)
set_option maxRecDepth 100000 in
set_option maxHeartbeats 1600000 in
theorem imp_keysOf (pass : ByteArray) (w : World) (htab : Tab w) :
    Calls Tryd.prog 5 #[.string pass] w fun e w' => e = .returned (keysV (keysS pass)) ∧ Below w.heap.size w w' := by
  by_cases h : pass.size ≤ 20000
  · rw [show keysS pass = keysT pass from if_pos h]
    exact imp_keysGood pass w htab h
  · have h' : (20000 : Int) < (pass.size : Int) := by omega
    have E := hide (show keysS pass = (⟨#[]⟩, ⟨#[]⟩) from if_neg h)
    have HB := hide (Below.refl (w.heap.size + 1) (w.alloc (.cells #[.string ⟨#[]⟩, .string ⟨#[]⟩] 23)))
    obtain ⟨c0, c1, hf, hq⟩ := keys_cells HB.out (Nat.lt_succ_self _) (heap_alloc_new w _)
    go_enter Tryd.func5, Tryd.ntmps5
    go_wp2_with fail
    exact bodyPost_ret (results_cell_row Tryd.results5 _ _ w.heap.size 23 #[.string ⟨#[]⟩, .string ⟨#[]⟩] (0, 0) _ rfl hq Tryd.underlying23 rfl (by kernel_rfl)) rfl ⟨by rw [E.out]; rfl, (Below.refl _ _).alloc (Nat.le_refl _) _⟩
end Go.Proofs.YtconcnndghmdfaaDoor

/- The walk over the program's newParting. -/
import Derived.Test.YtdoodkabmeojmaaDoorRngB
namespace Go.Proofs.YtdoodkabmeojmaaDoor
open Go.RowKit
theorem parF_set {w : World} {g T size c X : Nat} {ch : Nat → Nat} {n : Nat} (h : w.rowIs g T n (parF size ch)) : (w.setCell ⟨g, 1 + c, none⟩ (.int .u64 (X : Int))).rowIs g T n (parF size (setCh ch c X)) := by
  refine (h.set (1 + c) _).congr ?_
  intro i _
  show (if i = 1 + c then Value.int .u64 (X : Int) else parF size ch i) = parF size (setCh ch c X) i
  unfold parF setCh
  by_cases e : i = 1 + c
  · rw [if_pos e, if_neg (by omega), if_pos (by omega)]
  · rw [if_neg e]
    by_cases e0 : i = 0
    · rw [if_pos e0, if_pos e0]
    · rw [if_neg e0, if_neg e0, if_neg (by omega)]
set_option maxRecDepth 100000 in
set_option maxHeartbeats 800000 in
theorem imp_parting (w : World) :
    Calls Tryd.prog 28 #[] w fun e w' => e = .returned (.agg (vL 1601 (parF 4294967295 fun _ => 1024)).toArray) ∧ Below w.heap.size w w' := by
  obtain ⟨hz, hsz⟩ := zero_of_info Tryd.infoPart
  have hbt := hide Tryd.builtPart
  have r0 := vrow_alloc w 61 1601 (parF 0 fun _ => 0)
  have r1 := vrow_alloc (w.alloc (.cells (vL 1601 (parF 0 fun _ => 0)).toArray 61)) 61 1601 (parF 0 fun _ => 0)
  rw [World.size_alloc] at r1
  have hth := vrow_there (o := 0) (n := 1601) r1 (by omega)
  have r2 := vrow_setCells0 (k := parF 4294967295 fun _ => 0) r1
  have r3 := row_setCells_other (b := w.heap.size + 1) (o := 0) (vs := vL 1601 (parF 4294967295 fun _ => 0)) (r0.alloc (.cells (vL 1601 (parF 0 fun _ => 0)).toArray 61)) (by omega)
  have rb := below_setCells' (b := w.heap.size + 1) (o := 0) (vs := vL 1601 (parF 4294967295 fun _ => 0)) (((Below.refl w.heap.size w).alloc (Nat.le_refl _) (.cells (vL 1601 (parF 0 fun _ => 0)).toArray 61)).alloc (by simp) (.cells (vL 1601 (parF 0 fun _ => 0)).toArray 61)) (by omega)
  have H := hide (And.intro r2 (And.intro r3 rb))
  clear r0 r1 r2 r3 rb
  go_enter Tryd.func28, Tryd.ntmps28
  go_wp2_with (first | (with_reducible (show wpList _ _ _ ({ dst := _, op := .build _ _, type := _, pos := _, after := _, guard := _ } :: _) _ _); refine wpList_build_1 rfl 61 0 _ rfl (.int .u64 4294967295) rfl _ hbt.out ?_) | (with_reducible (show wpList _ _ _ ({ dst := _, op := .store _ _ _, type := _, pos := _, after := _, guard := _ } :: _) _ _); refine wpList_store_V rfl 61 _ _ rfl (w.heap.size + 1) 0 1601 (parF 4294967295 fun _ => 0) rfl rfl hth hsz (fun j _ => parF_one _ _ j) ?_))
  clear hz hbt hth
  obtain ⟨r2, r3, rb⟩ := H.out
  generalize ((w.alloc (.cells (vL 1601 (parF 0 fun _ => 0)).toArray 61)).alloc (.cells (vL 1601 (parF 0 fun _ => 0)).toArray 61)).setCells (w.heap.size + 1) 0 (vL 1601 (parF 4294967295 fun _ => 0)) = W1 at *
  clear H
  go_loopw [4] (fun i wx => ∃ (k : Nat) (f : Nat → Nat), k ≤ 1600 ∧ i = .int .i64 k ∧ Hid (∀ j, j < k → f j = 1024) ∧ wx.rowIs (w.heap.size + 1) 61 1601 (parF 4294967295 f) ∧ wx.rowIs w.heap.size 61 1601 (parF 0 fun _ => 0) ∧ Below w.heap.size w wx) (fun i _ => 1600 - (intOf i).toNat)
  case atStart => exact ⟨0, fun _ => 0, by omega, rfl, fun j hj => by omega, r2, r3, rb⟩
  case round =>
    clear r2 r3 rb
    obtain ⟨k, f, hk, rfl, hf, hrw, hres, hbl⟩ := hrel
    by_cases hlt : k < 1600
    · have ck := hrw.cell (i := 1 + k) (by omega)
      have hfz := hrw.frozen (1 + k)
      have hlt' : (k : Int) < 1600 := by omega
      clear hsz
      go_wp2_with fail
      refine ⟨⟨k + 1, setCh f k 1024, by omega, by go_num, fun j hj => ?_, parF_set hrw, hres.setOther (by simp) _, hbl.setCell (by simp) _⟩, by simp [intOf]; omega⟩
      unfold setCh
      by_cases e : j = k
      · rw [if_pos e]
      · rw [if_neg e]; exact hf.out j (by omega)
    · have hlt' : ¬ (k : Int) < 1600 := by omega
      have hrw2 : wr.rowIs (w.heap.size + 1) 61 1601 (parF 4294967295 fun _ => 1024) := hrw.congr fun i hi => by
        unfold parF
        by_cases e : i = 0
        · rw [if_pos e, if_pos e]
        · rw [if_neg e, if_neg e, hf.out (i - 1) (by omega)]
      have hth := vrow_there (o := 0) (n := 1601) hres (by omega)
      have hfin := vrow_setCells0 (k := parF 4294967295 fun _ => 1024) hres
      clear hf hrw
      go_wp2_with (first | (with_reducible (show wpList _ _ _ ({ dst := _, op := .load _ _, type := _, pos := _, after := _, guard := _ } :: _) _ _); refine wpList_load_V rfl 61 _ rfl (w.heap.size + 1) 0 rfl _ _ 1601 _ (parF 4294967295 fun _ => 1024) _ hrw2 (by omega) (fun j _ => by rw [Nat.zero_add]) Tryd.underlying61 rfl hsz ?_) | (with_reducible (show wpList _ _ _ ({ dst := _, op := .store _ _ _, type := _, pos := _, after := _, guard := _ } :: _) _ _); refine wpList_store_V rfl 61 _ _ rfl w.heap.size 0 1601 (parF 4294967295 fun _ => 1024) rfl rfl hth hsz (fun j _ => parF_one _ _ j) ?_))
      exact bodyPost_ret (ret_V Tryd.results28 _ _ w.heap.size 1601 _ (parF 4294967295 fun _ => 1024) _ rfl hfin Tryd.underlying61 rfl hsz) rfl ⟨rfl, below_setCells' hbl (Nat.le_refl _)⟩
end Go.Proofs.YtdoodkabmeojmaaDoor

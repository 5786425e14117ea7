/- The walk over the program's highestFirst. -/
import Derived.Test.YtconcnndghmdfaaGreatDoorSd10
namespace Go.Proofs.YtconcnndghmdfaaGreatDoor
open Go.RowKit
def hiB (N j : Nat) : UInt8 := UInt8.ofNat (N / 2 ^ (56 - 8 * j) % 256)
theorem hiB_eq (N m s : Nat) (hs : s = 56 - 8 * m) : (N : Int) / 2 ^ s % 256 = ((hiB N m).toNat : Int) := by
 rw [hiB, ← hs, UInt8.toNat_ofNat']
 have e : ((N : Int) / 2 ^ s) = ((N / 2 ^ s : Nat) : Int) := by simp
 rw [e]; omega
theorem Tryz.size8b : (Tryz.prog.info? 105).map (·.size) = some 8 := by kernel_rfl
set_option maxRecDepth 100000 in
set_option maxHeartbeats 800000 in
theorem imp_highest (N : Nat) (w : World) (hN : N ≤ 9223372036854775807) :
 Calls Tryz.prog 78 #[.int .u64 (N : Int)] w fun e w' => e = .returned (.agg (bL 8 (hiB N)).toArray) ∧ Below w.heap.size w w' := by
 have hN' : (N : Int) ≤ 9223372036854775807 := by omega
 go_enter Tryz.func78, Tryz.ntmps78
 go_wp2_with fail
 go_loopw [5] (fun i wx => ∃ (k : Nat) (f : Nat → UInt8), k ≤ 8 ∧ i = .int .i64 k ∧ Hid (∀ p, p < k → f p = hiB N p) ∧ wx.rowIs w.heap.size 105 8 (u8V fun _ => 0) ∧ wx.rowIs (w.heap.size + 1) 105 8 (u8V f) ∧ Below w.heap.size w wx) (fun i _ => 8 - (intOf i).toNat)
 case atStart =>
  refine ⟨0, fun _ => 0, by omega, rfl, fun p hp => by omega, (zeros8_row 8 w _ _ rfl).alloc _, ?_, ((Below.refl _ _).alloc (Nat.le_refl _) _).alloc (by simp) _⟩
  have h := zeros8_row 8 (w.alloc (.cells (List.replicate 8 (Value.int .u8 0)).toArray 105)) _ 105 rfl
  rw [World.size_alloc] at h
  exact h
 case round =>
  obtain ⟨k, f, hk, rfl, hf, r0, r1, hbl⟩ := hrel
  by_cases hlt8 : k < 8
  · obtain ⟨y, ey⟩ : ∃ q, q = 8 * k := ⟨_, rfl⟩
    obtain ⟨s, es⟩ : ∃ q, q = 56 - 8 * k := ⟨_, rfl⟩
    have m2 : IntKind.i64.wrap (8 * (k : Int)) = (y : Int) := by simp only [IntKind.wrap_i64]; omega
    have m3 : IntKind.i64.wrap (56 - (y : Int)) = (s : Int) := by simp only [IntKind.wrap_i64]; omega
    have hs' : (s : Int) ≤ 56 := by omega
    have cq := r1.cell (i := k) hlt8
    have hfz := r1.frozen k
    have HS := hide es
    clear ey es
    go_wp2_with fail
    have hv := hiB_eq N k s HS.out
    rw [hv]
    refine ⟨⟨k + 1, fun j => if j = k then hiB N k else f j, by omega, by go_num, fun p hp => ?_, r0.setOther (by simp) _, set_byte r1 rfl, hbl.setCell (by simp) _⟩, by simp [intOf]; omega⟩
    show (if p = k then hiB N k else f p) = _
    by_cases e : p = k
    · rw [if_pos e, e]
    · rw [if_neg e]; exact hf.out p (by omega)
  · have r1' : wr.rowIs (w.heap.size + 1) 105 8 (u8V (hiB N)) := r1.congr fun i hi => by rw [u8V, u8V, hf.out i (by omega)]
    have hth := row_there (o := 0) (n := 8) r0 (by omega)
    have hfin := row_setCells0 (k := hiB N) r0
    clear hf r1
    go_wp2_with (first | (refine wpList_load_B rfl 105 (.tmp 3) rfl (w.heap.size + 1) 0 rfl _ _ 8 _ (hiB N) _ r1' (by omega) (fun j _ => by rw [Nat.zero_add]) Tryz.underlying105 rfl Tryz.size8b ?_) | (refine wpList_store_B rfl 105 (.tmp 2) (.tmp 17) rfl w.heap.size 0 8 (hiB N) rfl rfl hth Tryz.size8b ?_))
    exact bodyPost_ret (ret_B Tryz.results78 _ _ w.heap.size 8 _ _ _ rfl hfin Tryz.underlying105 rfl Tryz.size8b) rfl ⟨rfl, below_setCells' hbl (Nat.le_refl _)⟩
end Go.Proofs.YtconcnndghmdfaaGreatDoor

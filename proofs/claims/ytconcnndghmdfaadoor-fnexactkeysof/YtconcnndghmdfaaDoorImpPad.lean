/- The walk over the program's padded. -/
import Derived.Test.YtconcnndghmdfaaDoorShaM
import Derived.Test.YtconcnndghmdfaaDoorImpBytes
namespace Go.Proofs.YtconcnndghmdfaaDoor
open Go.RowKit
set_option maxRecDepth 100000 in
set_option maxHeartbeats 1600000 in
theorem pads (key : ByteArray) (m : UInt8) (w : World) (hk : key.size ≤ 64) :
    Calls Tryd.prog 13 #[.string key, .int .u8 (m.toNat : Int)] w fun e w' => e = .returned (.string (padT key m)) ∧ Below w.heap.size w w' := by
  have hm : (m.toNat : Int) ≤ 255 := by have := m.toNat_lt; omega
  go_enter Tryd.func13, Tryd.ntmps13
  go_wp2_with (refine wpList_copy_str rfl _ _ 37 9 rfl 5 Tryd.underlying37 Tryd.sizeP8 _ _ _ rfl key rfl w.heap.size 0 (List.replicate 64 (.int .u8 0)) 43 (heap_alloc_new w _) hk (fun _ => rfl) (by simpa using hk) w.heap.size w ((Below.refl _ _).alloc (Nat.le_refl _) _) (Nat.le_refl _) ?_)
  intro w1 hrow hb1
  have hr1 := row_copied w1 w.heap.size 43 key hk hrow.out
  clear hrow
  go_wp2_with fail
  go_loopw [10] (fun i wx => ∃ (k : Nat) (f : Nat → UInt8), k ≤ 64 ∧ i = .int .i64 k ∧ Hid (∀ j, f j = if j < k then keyAt key j ^^^ m else keyAt key j) ∧ wx.rowIs w.heap.size 43 64 (u8V f) ∧ Below w.heap.size w wx) (fun i _ => 64 - (intOf i).toNat)
  case atStart => exact ⟨0, keyAt key, by omega, rfl, fun j => by simp, hr1, hb1⟩
  case round =>
    clear hr1 hb1
    obtain ⟨k, f, hk64, rfl, hf, hr, hbl⟩ := hrel
    by_cases hlt : k < 64
    · have c : wr.cell? ⟨w.heap.size, k, none⟩ = some (.int .u8 ((f k).toNat : Int)) := hr.cell hlt
      have fz := hr.frozen k
      have hx := r_xor8 (f k) m
      have hf2 := hide (xor_step hf.out)
      go_wp2_with fail
      refine ⟨?rel, ?measure⟩
      case rel => exact ⟨k + 1, fun j => if j = k then f k ^^^ m else f j, by omega, by go_num, hf2, set_byte hr (by rw [UInt8.toNat_xor]), hbl.setCell (Nat.le_refl _) _⟩
      case measure => simp [intOf]; omega
    · have hcv := conv_row (P := Tryd.prog) (cap := 64) hr (pad_list hf.out (by omega)) (padL_length key m) Tryd.underlying37 Tryd.underlying5 Tryd.underlying9
      go_wp2_with fail
      go_ret
      exact ⟨rfl, hbl⟩
theorem padsT (key : ByteArray) (m : UInt8) (M : Int) (hM : M = (m.toNat : Int)) (w : World) (hk : key.size ≤ 64) :
    Calls Tryd.prog 13 #[.string key, .int .u8 M] w fun e w' => e = .returned (.string (padT key m)) ∧ Below w.heap.size w w' := by
  subst hM; exact pads key m w hk
end Go.Proofs.YtconcnndghmdfaaDoor

/- The walk over the model's Stretch. -/
import Derived.Test.YtconcnndghmdfaaDoorShaD
namespace Go.Proofs.YtconcnndghmdfaaDoor
open Go.RowKit
set_option maxRecDepth 100000 in
set_option maxHeartbeats 1600000 in
theorem stretch_bad (pass : ByteArray) (n : Int) (w : World) (h : ¬ (pass.size ≤ 20000 ∧ 1 ≤ n ∧ n ≤ 100)) :
    Calls Tryd.prog 10 #[.string pass, .int .i64 n] w fun e w' => e = .returned (.string ⟨#[]⟩) ∧ w' = w := by
  by_cases h1 : pass.size ≤ 20000
  · have h1' : ¬ (20000 : Int) < pass.size := by omega
    by_cases h2 : 1 ≤ n
    · have h2' : ¬ n < 1 := by omega
      have h3' : 100 < n := by omega
      go_enter Tryd.func10, Tryd.ntmps10
      go_wp2_with fail
      go_ret
      exact ⟨rfl, rfl⟩
    · have h2' : n < 1 := by omega
      go_enter Tryd.func10, Tryd.ntmps10
      go_wp2_with fail
      go_ret
      exact ⟨rfl, rfl⟩
  · have h1' : (20000 : Int) < pass.size := by omega
    go_enter Tryd.func10, Tryd.ntmps10
    go_wp2_with fail
    go_ret
    exact ⟨rfl, rfl⟩
set_option maxRecDepth 100000 in
set_option maxHeartbeats 1600000 in
theorem stretch_good (pass : ByteArray) (n : Nat) (w : World) (h1 : pass.size ≤ 20000) (h2 : 1 ≤ n) (h3 : n ≤ 100) :
    Calls Tryd.prog 10 #[.string pass, .int .i64 (n : Int)] w fun e w' => e = .returned (.string (stretchT pass n)) ∧ Below w.heap.size w w' := by
  have h1' : ¬ (20000 : Int) < pass.size := by omega
  have h2' : ¬ (n : Int) < 1 := by omega
  have h3' : ¬ 100 < (n : Int) := by omega
  go_enter Tryd.func10, Tryd.ntmps10
  go_wp2_with fail
  go_loopw [5, 6] (fun s i wx => ∃ k : Nat, k ≤ n ∧ i = .int .i64 k ∧ s = .string (stretchT pass k) ∧ Below w.heap.size w wx) (fun _ i _ => n - (intOf i).toNat)
  case atStart => exact ⟨0, Nat.zero_le _, rfl, rfl, Below.refl _ _⟩
  case round =>
    obtain ⟨k, hk, rfl, rfl, hbl⟩ := hrel
    by_cases hlt : k < n
    · have hlt' : (k : Int) < (n : Int) := by omega
      have hs := stretchT_size pass k
      go_wp2_with fail
      refine (spec_mac pass (stretchT pass k) _ h1 (by omega)).mono ?_
      rintro e w1 ⟨rfl, hb1⟩
      have hb2 := below3 hbl hb1
      clear hs hb1
      go_wp2_with fail
      go_roundw
      case rel => exact ⟨k + 1, by omega, by go_num, rfl, hb2⟩
      case measure => simp [intOf]; omega
    · have hlt' : ¬ (k : Int) < (n : Int) := by omega
      have hE := hide (show stretchT pass k = stretchT pass n by rw [show k = n by omega])
      go_wp2_with fail
      go_ret
      exact ⟨by rw [← hE.out]; rfl, hbl⟩
theorem spec_stretch (pass : ByteArray) (n : Int) (w : World) :
    Calls Tryd.prog 10 #[.string pass, .int .i64 n] w fun e w' => e = .returned (.string (stretchS pass n)) ∧ Below w.heap.size w w' := by
  by_cases h : pass.size ≤ 20000 ∧ 1 ≤ n ∧ n ≤ 100
  · obtain ⟨m, rfl⟩ : ∃ m : Nat, n = (m : Int) := ⟨n.toNat, by omega⟩
    rw [show stretchS pass (m : Int) = stretchT pass m from if_pos h]
    exact stretch_good pass m w h.1 (by omega) (by omega)
  · rw [show stretchS pass n = ⟨#[]⟩ from if_neg h]
    exact (stretch_bad pass n w h).mono fun _ _ ⟨a, b⟩ => ⟨a, by rw [b]; exact Below.refl _ _⟩
end Go.Proofs.YtconcnndghmdfaaDoor

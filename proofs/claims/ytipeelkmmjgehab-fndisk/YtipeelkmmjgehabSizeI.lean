/- The walk over the program's sizeOf: how many bytes texts have together. -/
import Derived.Test.YtipeelkmmjgehabRows
import Derived.Test.YtipeelkmmjgehabOwn
import Derived.WalkKit
import Derived.WalkSpells
namespace Go.Proofs.Ytipeelkmmjgehab
open Go.RowKit Go

/-- The bytes of texts, one behind the other. -/
def catB (ss : List ByteArray) : List UInt8 := ss.flatMap (fun s => s.data.toList)

theorem catB_take (ss : List ByteArray) (k : Nat) (hk : k < ss.length) : catB (ss.take (k + 1)) = catB (ss.take k) ++ ss[k].data.toList := by
  unfold catB
  rw [List.take_succ_eq_append_getElem hk, List.flatMap_append, List.flatMap_singleton]
theorem catB_len (ss : List ByteArray) (k : Nat) (hk : k < ss.length) : (catB (ss.take (k + 1))).length = (catB (ss.take k)).length + ss[k].size := by
  rw [catB_take ss k hk]; simp
theorem catB_le (ss : List ByteArray) (k : Nat) : (catB (ss.take k)).length ≤ (catB ss).length := by
  have h : catB ss = catB (ss.take k) ++ catB (ss.drop k) := by
    unfold catB; rw [← List.flatMap_append, List.take_append_drop]
  rw [h]; simp

set_option maxRecDepth 100000 in
set_option maxHeartbeats 400000 in
theorem sizeOf_any (b : Nat) (ss : List ByteArray) (w : World) (hc : ∀ j (hj : j < ss.length), w.cell? ⟨b, j, none⟩ = some (.string ss[j])) (hn : ss.length ≤ 1000) (ht : (catB ss).length ≤ 9223372036854775807) :
    Calls Try.prog 69 #[.slice (some ⟨b, 0, none⟩) ss.length ss.length] w fun e w' => e = .returned (.int .i64 ((catB ss).length : Nat)) ∧ w' = w := by
  go_enter Try.func69, Try.ntmps69
  go_wp2_with fail
  go_loop [3, 8] (fun s i => ∃ k : Nat, k ≤ ss.length ∧ i = .int .i64 k ∧ s = .int .i64 ((catB (ss.take k)).length : Nat)) (fun _ i => ss.length - (intOf i).toNat)
  case atStart => exact ⟨0, by omega, rfl, rfl⟩
  case round =>
    obtain ⟨k, hk, rfl, rfl⟩ := hrel
    have hle := catB_le ss k
    by_cases hlt : k < ss.length
    · have hck := hc k hlt
      have hl := catB_len ss k hlt
      have hl2 := catB_le ss (k + 1)
      have hs : ss[k].size ≤ 9223372036854775807 := by omega
      have hs2 : (catB (ss.take k)).length + ss[k].size ≤ 9223372036854775807 := by omega
      have HL := hide hl
      clear hl hc
      generalize ss[k] = sk at *
      go_wp2_with fail
      go_round
      case rel => exact ⟨k + 1, by omega, by go_num, by rw [unhide HL]; go_num⟩
      case measure => simp [intOf]; omega
    · have hkn : k = ss.length := by omega
      have hfull : (catB (ss.take k)).length = (catB ss).length := by rw [hkn, List.take_length]
      have HF := hide hfull
      clear hfull hle hkn
      go_wp2_with fail
      go_ret
      exact ⟨by rw [HF.out]; rfl, rfl⟩
end Go.Proofs.Ytipeelkmmjgehab

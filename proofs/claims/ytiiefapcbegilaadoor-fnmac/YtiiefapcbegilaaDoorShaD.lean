/- The walks over the model's Digest, Mac, Stretch. -/
import Derived.Test.YtiiefapcbegilaaDoorShaM
namespace Go.Proofs.YtiiefapcbegilaaDoor
open Go.RowKit
def digestS (t : ByteArray) : ByteArray := if t.size ≤ 20000 then digestT t else ⟨#[]⟩
def macS (key text : ByteArray) : ByteArray := if key.size ≤ 20000 ∧ text.size ≤ 20000 then macT key text else ⟨#[]⟩
def stretchS (pass : ByteArray) (n : Int) : ByteArray := if pass.size ≤ 20000 ∧ 1 ≤ n ∧ n ≤ 100 then stretchT pass n.toNat else ⟨#[]⟩
set_option maxRecDepth 100000 in
set_option maxHeartbeats 1600000 in
theorem spec_digest (t : ByteArray) (w : World) (_ht : t.size ≤ 9223372036854775807) :
    Calls Tryd.prog 13 #[.string t] w fun e w' => e = .returned (.string (digestS t)) ∧ Below w.heap.size w w' := by
  by_cases h : t.size ≤ 20000
  · have hE : digestS t = digestT t := if_pos h
    rw [hE]
    have h' : ¬ (20000 : Int) < t.size := by omega
    go_enter Tryd.func13, Tryd.ntmps13
    go_wp2_with fail
    refine (spec_allT t _ (by omega)).mono ?_
    rintro e w1 ⟨rfl, hb1⟩
    go_wp2_with fail
    go_ret
    exact ⟨rfl, hb1⟩
  · have hE : digestS t = ⟨#[]⟩ := if_neg h
    rw [hE]
    have h' : (20000 : Int) < t.size := by omega
    go_enter Tryd.func13, Tryd.ntmps13
    go_wp2_with fail
    go_ret
    exact ⟨rfl, Below.refl _ _⟩
set_option maxRecDepth 100000 in
set_option maxHeartbeats 1600000 in
theorem spec_Mac (key text : ByteArray) (w : World) (_hk : key.size ≤ 9223372036854775807) (_ht : text.size ≤ 9223372036854775807) :
    Calls Tryd.prog 16 #[.string key, .string text] w fun e w' => e = .returned (.string (macS key text)) ∧ Below w.heap.size w w' := by
  by_cases h : key.size ≤ 20000
  · by_cases h2 : text.size ≤ 20000
    · have hE : macS key text = macT key text := if_pos ⟨h, h2⟩
      rw [hE]
      have h' : ¬ (20000 : Int) < key.size := by omega
      have h2' : ¬ (20000 : Int) < text.size := by omega
      go_enter Tryd.func16, Tryd.ntmps16
      go_wp2_with fail
      refine (spec_mac key text _ h h2).mono ?_
      rintro e w1 ⟨rfl, hb1⟩
      go_wp2_with fail
      go_ret
      exact ⟨rfl, hb1⟩
    · have hE : macS key text = ⟨#[]⟩ := if_neg (by omega)
      rw [hE]
      have h' : ¬ (20000 : Int) < key.size := by omega
      have h2' : (20000 : Int) < text.size := by omega
      go_enter Tryd.func16, Tryd.ntmps16
      go_wp2_with fail
      go_ret
      exact ⟨rfl, Below.refl _ _⟩
  · have hE : macS key text = ⟨#[]⟩ := if_neg (by omega)
    rw [hE]
    have h' : (20000 : Int) < key.size := by omega
    go_enter Tryd.func16, Tryd.ntmps16
    go_wp2_with fail
    go_ret
    exact ⟨rfl, Below.refl _ _⟩
end Go.Proofs.YtiiefapcbegilaaDoor

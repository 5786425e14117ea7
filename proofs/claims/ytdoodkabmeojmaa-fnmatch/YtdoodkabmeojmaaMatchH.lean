/- The walk over the model's Parse. -/
import Derived.Test.YtdoodkabmeojmaaMatchG
namespace Go.Proofs.Ytdoodkabmeojmaa
open Go.RowKit
set_option maxRecDepth 100000 in
set_option maxHeartbeats 400000 in
theorem spec_parse (t : ByteArray) (w : World) (hts : t.size ≤ 9223372036854775807) :
    Calls Try.prog 16 #[.string t] w fun e w' => ∃ v, e = .returned v ∧ w'.ownsRow w.heap.size 40 3 v (parS t).length (tokC (parS t)) ∧ Below w.heap.size w w' := by
  by_cases h : t.size ≤ 4000
  · have h' : ¬ (4000 : Int) < (t.size : Int) := by omega
    have hE : parS t = parseL (bF t) t.size := if_pos h
    rw [hE]
    have SP := hide (spec_parse0 t w h)
    clear hE
    go_enter Try.func16, Try.ntmps16
    go_wp2_with fail
    refine SP.out.mono ?_
    rintro e w1 ⟨v, rfl, hown, hb1⟩
    go_wp2_with fail
    go_ret
    exact ⟨v, rfl, hown, hb1⟩
  · have h' : (4000 : Int) < (t.size : Int) := by omega
    have hE : parS t = [] := if_neg h
    rw [hE]
    have hown0 := hide (show (w.alloc (.cells #[] 40)).ownsRow w.heap.size 40 3 (.slice (some ⟨w.heap.size, 0, none⟩) 0 0) 0 [] by
      have h := World.ownsRow_made (e := 40) (size := 3) (base := w.heap.size) w #[] 0 (Nat.le_refl _) (by decide) (by simp)
      simpa using h)
    clear hE
    go_enter Try.func16, Try.ntmps16
    go_wp2_with fail
    go_ret
    exact ⟨_, rfl, hown0.out, (Below.refl _ _).alloc (Nat.le_refl _) _⟩
end Go.Proofs.Ytdoodkabmeojmaa

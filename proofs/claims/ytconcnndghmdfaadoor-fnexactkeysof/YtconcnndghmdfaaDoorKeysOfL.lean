/- The law's walk of KeysOf. -/
import Derived.Test.YtconcnndghmdfaaDoorSealK
import Derived.Test.YtconcnndghmdfaaDoorSealPq
import Derived.Test.YtconcnndghmdfaaDoorKeyO
import Derived.Handy
namespace Go.Proofs.YtconcnndghmdfaaDoor
open Go Go.RowKit
set_option maxRecDepth 100000 in
set_option maxHeartbeats 400000 in
theorem eqKeys_same (a b : ByteArray) (w : World) :
    Calls Tryd.prog 6 #[.agg #[.string a, .string b], .agg #[.string a, .string b]] w fun e w' => e = .returned (.bool true) ∧ Below w.heap.size w w' := by
  go_enter Tryd.func6, Tryd.ntmps6
  go_wp2
  go_ret
  exact ⟨rfl, by go_grown⟩
set_option maxRecDepth 100000 in
set_option maxHeartbeats 800000 in
theorem fnExactKeysOf_walk (a0 : ByteArray) (h0 : a0.size ≤ maxLen) (w : World) (htab : Tab w) (_hz : 0 < w.heap.size) :
    Calls Tryd.prog 3 #[.string a0] w fun e w' => e = .returned (.bool true) ∧ Below w.heap.size w w' := by
  have h0 : a0.size ≤ 9223372036854775807 := h0
  have HT := hide htab
  clear htab
  by_cases h : 1048576 < a0.size
  · have h' : (1048576 : Int) < (a0.size : Int) := by omega
    go_enter Tryd.func3, Tryd.ntmps3
    go_wp2_with fail
    go_ret
    exact ⟨rfl, Below.refl _ _⟩
  · have h' : ¬ (1048576 : Int) < (a0.size : Int) := by omega
    have S1 := fun W => spec_keysOf a0 W
    have S2 := fun W (ht : Tab W) => imp_keysOf a0 W ht
    unfold keysV at S1 S2
    generalize keysS a0 = k at *
    obtain ⟨X, Y⟩ := k
    dsimp only at S1 S2
    have S1 := hide S1
    have S2 := hide S2
    go_enter Tryd.func3, Tryd.ntmps3
    go_wp2_with fail
    refine (S1.out _).mono ?_
    rintro e w1 ⟨rfl, hb1⟩
    have HB1 := hide (hb1.alloc hb1.size (.cells #[.string X, .string Y] 23))
    have hz1 := hide hb1.size
    clear hb1 S1
    go_wp2_with fail
    refine (S2.out _ (HT.out.low HB1.out)).mono ?_
    rintro e w2 ⟨rfl, hb2⟩
    simp at hb2
    obtain ⟨c0, c1, _, hq⟩ := keys_cells hb2 (Nat.lt_succ_self _) (heap_alloc_new w1 _)
    have HB2 := hide (HB1.out.trans (hb2.mono (Nat.le_succ_of_le hz1.out)))
    have hq2 := hq
    clear hb2 S2
    have d0 : (w2.alloc (.cells #[.string X, .string Y] 23)).cell? ⟨w1.heap.size, 0, none⟩ = some (.string X) := by rw [World.cell?_alloc_lt _ _ ⟨w1.heap.size, 0, none⟩ (Array.getElem?_eq_some_iff.1 hq2).1]; exact c0
    have d1 : (w2.alloc (.cells #[.string X, .string Y] 23)).cell? ⟨w1.heap.size, 1, none⟩ = some (.string Y) := by rw [World.cell?_alloc_lt _ _ ⟨w1.heap.size, 1, none⟩ (Array.getElem?_eq_some_iff.1 hq2).1]; exact c1
    clear hq hq2
    go_wp2_with fail
    refine (eqKeys_same X Y _).mono ?_
    rintro e w3 ⟨rfl, hb3⟩
    have HB3 := hide ((HB2.out.alloc HB2.out.size _).trans (hb3.mono (by have := HB2.out.size; simp; omega)))
    clear hb3
    go_wp2_with fail
    go_ret
    exact ⟨rfl, HB3.out⟩
end Go.Proofs.YtconcnndghmdfaaDoor

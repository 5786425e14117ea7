/- The walks over the program's Digest, Mac, Stretch. -/
import Derived.Test.YtconcnndghmdfaaDoorImpOf
import Derived.Test.YtconcnndghmdfaaDoorImpPad
import Derived.Test.YtconcnndghmdfaaDoorShaS
namespace Go.Proofs.YtconcnndghmdfaaDoor
open Go.RowKit
theorem join_one (t : ByteArray) : (⟨(joinB [t]).toArray⟩ : ByteArray) = t := by
  apply ByteArray.ext; show (joinB [t]).toArray = t.data; simp [joinB]
theorem join_two (a b : ByteArray) : (⟨(joinB [a, b]).toArray⟩ : ByteArray) = a ++ b := by
  apply ByteArray.ext; show (joinB [a, b]).toArray = (a ++ b).data
  rw [ByteArray.data_append]
  simp [joinB]
theorem oneOf (t : ByteArray) (w : World) (T : Nat) (ht : t.size ≤ 1048576) (htab : Tab w) (h0 : 0 < w.heap.size) :
    Calls Tryd.prog 12 #[.slice (some ⟨w.heap.size, 0, none⟩) 1 1] (w.alloc (.cells #[.string t] T)) fun e w' => e = .returned (.string (digestT t)) ∧ Below w.heap.size w w' := by
  have hb : Below w.heap.size w (w.alloc (.cells #[.string t] T)) := (Below.refl _ _).alloc (Nat.le_refl _) _
  have h := ofParts w.heap.size 1 1 [t] (w.alloc (.cells #[.string t] T)) rfl (by omega) (by simp) (by
    intro j x hx
    match j, hx with
    | 0, hx => simp at hx; subst hx; exact ⟨ht, cell_of_row _ _ _ _ _ _ (heap_alloc_new w _)⟩) (htab.below hb h0)
  rw [join_one] at h
  exact h.mono fun e w' ⟨a, b⟩ => ⟨a, hb.trans (b.mono (by simp))⟩
theorem twoOf (s t : ByteArray) (w : World) (T : Nat) (hs : s.size ≤ 1048576) (ht : t.size ≤ 1048576) (htab : Tab w) (h0 : 0 < w.heap.size) :
    Calls Tryd.prog 12 #[.slice (some ⟨w.heap.size, 0, none⟩) 2 2] (w.alloc (.cells #[.string s, .string t] T)) fun e w' => e = .returned (.string (digestT (s ++ t))) ∧ Below w.heap.size w w' := by
  have hb : Below w.heap.size w (w.alloc (.cells #[.string s, .string t] T)) := (Below.refl _ _).alloc (Nat.le_refl _) _
  have h := ofParts w.heap.size 2 2 [s, t] (w.alloc (.cells #[.string s, .string t] T)) rfl (by omega) (by simp) (by
    intro j x hx
    match j, hx with
    | 0, hx => simp at hx; subst hx; exact ⟨hs, cell_of_row _ _ _ _ _ _ (heap_alloc_new w _)⟩
    | 1, hx => simp at hx; subst hx; exact ⟨ht, cell_of_row _ _ _ _ _ _ (heap_alloc_new w _)⟩) (htab.below hb h0)
  rw [join_two] at h
  exact h.mono fun e w' ⟨a, b⟩ => ⟨a, hb.trans (b.mono (by simp))⟩
set_option maxRecDepth 100000 in
set_option maxHeartbeats 1600000 in
theorem impl_mac (key text : ByteArray) (w : World) (htab : Tab w) (h0 : 0 < w.heap.size) :
    Calls Tryd.prog 9 #[.string key, .string text] w fun e w' => e = .returned (.string (macS key text)) ∧ Below w.heap.size w w' := by
  have HT := hide htab
  clear htab
  have fin : ∀ (K : ByteArray), K.size ≤ 64 → (padT K 54).size ≤ 1048576 ∧ (padT K 92).size ≤ 1048576 ∧ (digestT (padT K 54 ++ text)).size ≤ 1048576 := by
    intro K _; rw [padT_size, padT_size, digestT_size]; omega
  by_cases h : key.size ≤ 20000
  · by_cases h2 : text.size ≤ 20000
    · have h' : ¬ (20000 : Int) < key.size := by omega
      have h2' : ¬ (20000 : Int) < text.size := by omega
      have hS : macS key text = macT key text := if_pos ⟨h, h2⟩
      rw [hS]
      by_cases h64 : key.size ≤ 64
      · have hK : keyT key = key := if_pos h64
        have hlt : ¬ (64 : Int) < key.size := by omega
        have hE := hide (show macT key text = digestT (padT key 92 ++ digestT (padT key 54 ++ text)) by rw [macT, hK])
        obtain ⟨z1, z2, z3⟩ := fin key h64
        clear hK hS fin
        go_enter Tryd.func9, Tryd.ntmps9
        go_wp2_with fail
        refine (padsT key 54 54 rfl _ h64).mono ?_
        rintro e w1 ⟨rfl, hb1⟩
        go_wp2_with fail
        refine (twoOf (padT key 54) text w1 _ z1 (by omega) (HT.out.below hb1 h0) (by have := hb1.size; omega)).mono ?_
        rintro e w2 ⟨rfl, hb2⟩
        have hc2 := below3 hb1 hb2
        go_wp2_with fail
        refine (padsT key 92 92 rfl _ h64).mono ?_
        rintro e w3 ⟨rfl, hb3⟩
        have hc3 := below3 hc2 hb3
        go_wp2_with fail
        refine (twoOf (padT key 92) (digestT (padT key 54 ++ text)) w3 _ z2 z3 (HT.out.below hc3 h0) (by have := hc3.size; omega)).mono ?_
        rintro e w4 ⟨rfl, hb4⟩
        go_wp2_with fail
        go_ret
        exact ⟨by rw [hE.out]; rfl, below3 hc3 hb4⟩
      · have hK : keyT key = digestT key := if_neg h64
        have hlt : (64 : Int) < key.size := by omega
        have hE := hide (show macT key text = digestT (padT (digestT key) 92 ++ digestT (padT (digestT key) 54 ++ text)) by rw [macT, hK])
        have hd : (digestT key).size ≤ 64 := by rw [digestT_size]; omega
        obtain ⟨z1, z2, z3⟩ := fin (digestT key) hd
        clear hK hS fin
        go_enter Tryd.func9, Tryd.ntmps9
        go_wp2_with fail
        refine (oneOf key w _ (by omega) HT.out h0).mono ?_
        rintro e w0 ⟨rfl, hc0⟩
        go_wp2_with fail
        refine (padsT (digestT key) 54 54 rfl _ hd).mono ?_
        rintro e w1 ⟨rfl, hb1⟩
        have hc1 := below3 hc0 hb1
        go_wp2_with fail
        refine (twoOf (padT (digestT key) 54) text w1 _ z1 (by omega) (HT.out.below hc1 h0) (by have := hc1.size; omega)).mono ?_
        rintro e w2 ⟨rfl, hb2⟩
        have hc2 := below3 hc1 hb2
        go_wp2_with fail
        refine (padsT (digestT key) 92 92 rfl _ hd).mono ?_
        rintro e w3 ⟨rfl, hb3⟩
        have hc3 := below3 hc2 hb3
        go_wp2_with fail
        refine (twoOf (padT (digestT key) 92) (digestT (padT (digestT key) 54 ++ text)) w3 _ z2 z3 (HT.out.below hc3 h0) (by have := hc3.size; omega)).mono ?_
        rintro e w4 ⟨rfl, hb4⟩
        go_wp2_with fail
        go_ret
        exact ⟨by rw [hE.out]; rfl, below3 hc3 hb4⟩
    · have hE : macS key text = ⟨#[]⟩ := if_neg (by omega)
      rw [hE]
      have h' : ¬ (20000 : Int) < key.size := by omega
      have h2' : (20000 : Int) < text.size := by omega
      go_enter Tryd.func9, Tryd.ntmps9
      go_wp2_with fail
      go_ret
      exact ⟨rfl, Below.refl _ _⟩
  · have hE : macS key text = ⟨#[]⟩ := if_neg (by omega)
    rw [hE]
    have h' : (20000 : Int) < key.size := by omega
    go_enter Tryd.func9, Tryd.ntmps9
    go_wp2_with fail
    go_ret
    exact ⟨rfl, Below.refl _ _⟩
end Go.Proofs.YtconcnndghmdfaaDoor

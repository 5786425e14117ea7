/- The walks over the program's Digest, Mac, Stretch. -/
import Derived.Test.YtiiefapcbegilaaDoorImpOf
import Derived.Test.YtiiefapcbegilaaDoorImpPad
import Derived.Test.YtiiefapcbegilaaDoorShaS
namespace Go.Proofs.YtiiefapcbegilaaDoor
open Go.RowKit
theorem join_one (t : ByteArray) : (⟨(joinB [t]).toArray⟩ : ByteArray) = t := by
  apply ByteArray.ext; show (joinB [t]).toArray = t.data; simp [joinB]
theorem join_two (a b : ByteArray) : (⟨(joinB [a, b]).toArray⟩ : ByteArray) = a ++ b := by
  apply ByteArray.ext; show (joinB [a, b]).toArray = (a ++ b).data
  rw [ByteArray.data_append]
  simp [joinB]
theorem oneOf (t : ByteArray) (w : World) (T : Nat) (ht : t.size ≤ 1048576) (htab : Tab w) (h0 : 0 < w.heap.size) :
    Calls Tryd.prog 21 #[.slice (some ⟨w.heap.size, 0, none⟩) 1 1] (w.alloc (.cells #[.string t] T)) fun e w' => e = .returned (.string (digestT t)) ∧ Below w.heap.size w w' := by
  have hb : Below w.heap.size w (w.alloc (.cells #[.string t] T)) := (Below.refl _ _).alloc (Nat.le_refl _) _
  have h := ofParts w.heap.size 1 1 [t] (w.alloc (.cells #[.string t] T)) rfl (by omega) (by simp) (by
    intro j x hx
    match j, hx with
    | 0, hx => simp at hx; subst hx; exact ⟨ht, cell_of_row _ _ _ _ _ _ (heap_alloc_new w _)⟩) (htab.below hb h0)
  rw [join_one] at h
  exact h.mono fun e w' ⟨a, b⟩ => ⟨a, hb.trans (b.mono (by simp))⟩
theorem twoOf (s t : ByteArray) (w : World) (T : Nat) (hs : s.size ≤ 1048576) (ht : t.size ≤ 1048576) (htab : Tab w) (h0 : 0 < w.heap.size) :
    Calls Tryd.prog 21 #[.slice (some ⟨w.heap.size, 0, none⟩) 2 2] (w.alloc (.cells #[.string s, .string t] T)) fun e w' => e = .returned (.string (digestT (s ++ t))) ∧ Below w.heap.size w w' := by
  have hb : Below w.heap.size w (w.alloc (.cells #[.string s, .string t] T)) := (Below.refl _ _).alloc (Nat.le_refl _) _
  have h := ofParts w.heap.size 2 2 [s, t] (w.alloc (.cells #[.string s, .string t] T)) rfl (by omega) (by simp) (by
    intro j x hx
    match j, hx with
    | 0, hx => simp at hx; subst hx; exact ⟨hs, cell_of_row _ _ _ _ _ _ (heap_alloc_new w _)⟩
    | 1, hx => simp at hx; subst hx; exact ⟨ht, cell_of_row _ _ _ _ _ _ (heap_alloc_new w _)⟩) (htab.below hb h0)
  rw [join_two] at h
  exact h.mono fun e w' ⟨a, b⟩ => ⟨a, hb.trans (b.mono (by simp))⟩
set_option maxRecDepth 100000 in
set_option maxHeartbeats 1600000 in
theorem impl_digest (t : ByteArray) (w : World) (htab : Tab w) (h0 : 0 < w.heap.size) :
    Calls Tryd.prog 8 #[.string t] w fun e w' => e = .returned (.string (digestS t)) ∧ Below w.heap.size w w' := by
  have HT := hide htab
  clear htab
  by_cases h : t.size ≤ 20000
  · have hE : digestS t = digestT t := if_pos h
    rw [hE]
    have h' : ¬ (20000 : Int) < t.size := by omega
    go_enter Tryd.func8, Tryd.ntmps8
    go_wp2_with fail
    refine (oneOf t w _ (by omega) HT.out h0).mono ?_
    rintro e w1 ⟨rfl, hb1⟩
    go_wp2_with fail
    go_ret
    exact ⟨rfl, hb1⟩
  · have hE : digestS t = ⟨#[]⟩ := if_neg h
    rw [hE]
    have h' : (20000 : Int) < t.size := by omega
    go_enter Tryd.func8, Tryd.ntmps8
    go_wp2_with fail
    go_ret
    exact ⟨rfl, Below.refl _ _⟩
set_option maxRecDepth 100000 in
set_option maxHeartbeats 1600000 in
theorem impl_mac (key text : ByteArray) (w : World) (htab : Tab w) (h0 : 0 < w.heap.size) :
    Calls Tryd.prog 10 #[.string key, .string text] w fun e w' => e = .returned (.string (macS key text)) ∧ Below w.heap.size w w' := by
  have HT := hide htab
  clear htab
  have fin : ∀ (K : ByteArray), K.size ≤ 64 → (padT K 54).size ≤ 1048576 ∧ (padT K 92).size ≤ 1048576 ∧ (digestT (padT K 54 ++ text)).size ≤ 1048576 := by
    intro K _; rw [padT_size, padT_size, digestT_size]; omega
  by_cases h : key.size ≤ 20000
  · by_cases h2 : text.size ≤ 20000
    · have h' : ¬ (20000 : Int) < key.size := by omega
      have h2' : ¬ (20000 : Int) < text.size := by omega
      have hS : macS key text = macT key text := if_pos ⟨h, h2⟩
      rw [hS]
      by_cases h64 : key.size ≤ 64
      · have hK : keyT key = key := if_pos h64
        have hlt : ¬ (64 : Int) < key.size := by omega
        have hE := hide (show macT key text = digestT (padT key 92 ++ digestT (padT key 54 ++ text)) by rw [macT, hK])
        obtain ⟨z1, z2, z3⟩ := fin key h64
        clear hK hS fin
        go_enter Tryd.func10, Tryd.ntmps10
        go_wp2_with fail
        refine (padsT key 54 54 rfl _ h64).mono ?_
        rintro e w1 ⟨rfl, hb1⟩
        go_wp2_with fail
        refine (twoOf (padT key 54) text w1 _ z1 (by omega) (HT.out.below hb1 h0) (by have := hb1.size; omega)).mono ?_
        rintro e w2 ⟨rfl, hb2⟩
        have hc2 := below3 hb1 hb2
        go_wp2_with fail
        refine (padsT key 92 92 rfl _ h64).mono ?_
        rintro e w3 ⟨rfl, hb3⟩
        have hc3 := below3 hc2 hb3
        go_wp2_with fail
        refine (twoOf (padT key 92) (digestT (padT key 54 ++ text)) w3 _ z2 z3 (HT.out.below hc3 h0) (by have := hc3.size; omega)).mono ?_
        rintro e w4 ⟨rfl, hb4⟩
        go_wp2_with fail
        go_ret
        exact ⟨by rw [hE.out]; rfl, below3 hc3 hb4⟩
      · have hK : keyT key = digestT key := if_neg h64
        have hlt : (64 : Int) < key.size := by omega
        have hE := hide (show macT key text = digestT (padT (digestT key) 92 ++ digestT (padT (digestT key) 54 ++ text)) by rw [macT, hK])
        have hd : (digestT key).size ≤ 64 := by rw [digestT_size]; omega
        obtain ⟨z1, z2, z3⟩ := fin (digestT key) hd
        clear hK hS fin
        go_enter Tryd.func10, Tryd.ntmps10
        go_wp2_with fail
        refine (oneOf key w _ (by omega) HT.out h0).mono ?_
        rintro e w0 ⟨rfl, hc0⟩
        go_wp2_with fail
        refine (padsT (digestT key) 54 54 rfl _ hd).mono ?_
        rintro e w1 ⟨rfl, hb1⟩
        have hc1 := below3 hc0 hb1
        go_wp2_with fail
        refine (twoOf (padT (digestT key) 54) text w1 _ z1 (by omega) (HT.out.below hc1 h0) (by have := hc1.size; omega)).mono ?_
        rintro e w2 ⟨rfl, hb2⟩
        have hc2 := below3 hc1 hb2
        go_wp2_with fail
        refine (padsT (digestT key) 92 92 rfl _ hd).mono ?_
        rintro e w3 ⟨rfl, hb3⟩
        have hc3 := below3 hc2 hb3
        go_wp2_with fail
        refine (twoOf (padT (digestT key) 92) (digestT (padT (digestT key) 54 ++ text)) w3 _ z2 z3 (HT.out.below hc3 h0) (by have := hc3.size; omega)).mono ?_
        rintro e w4 ⟨rfl, hb4⟩
        go_wp2_with fail
        go_ret
        exact ⟨by rw [hE.out]; rfl, below3 hc3 hb4⟩
    · have hE : macS key text = ⟨#[]⟩ := if_neg (by omega)
      rw [hE]
      have h' : ¬ (20000 : Int) < key.size := by omega
      have h2' : (20000 : Int) < text.size := by omega
      go_enter Tryd.func10, Tryd.ntmps10
      go_wp2_with fail
      go_ret
      exact ⟨rfl, Below.refl _ _⟩
  · have hE : macS key text = ⟨#[]⟩ := if_neg (by omega)
    rw [hE]
    have h' : (20000 : Int) < key.size := by omega
    go_enter Tryd.func10, Tryd.ntmps10
    go_wp2_with fail
    go_ret
    exact ⟨rfl, Below.refl _ _⟩
set_option maxRecDepth 100000 in
set_option maxHeartbeats 1600000 in
theorem impl_stretch_bad (pass : ByteArray) (n : Int) (w : World) (h : ¬ (pass.size ≤ 20000 ∧ 1 ≤ n ∧ n ≤ 100)) :
    Calls Tryd.prog 14 #[.string pass, .int .i64 n] w fun e w' => e = .returned (.string ⟨#[]⟩) ∧ w' = w := by
  by_cases h1 : pass.size ≤ 20000
  · have h1' : ¬ (20000 : Int) < pass.size := by omega
    by_cases h2 : 1 ≤ n
    · have h2' : ¬ n < 1 := by omega
      have h3' : 100 < n := by omega
      go_enter Tryd.func14, Tryd.ntmps14
      go_wp2_with fail
      go_ret
      exact ⟨rfl, rfl⟩
    · have h2' : n < 1 := by omega
      go_enter Tryd.func14, Tryd.ntmps14
      go_wp2_with fail
      go_ret
      exact ⟨rfl, rfl⟩
  · have h1' : (20000 : Int) < pass.size := by omega
    go_enter Tryd.func14, Tryd.ntmps14
    go_wp2_with fail
    go_ret
    exact ⟨rfl, rfl⟩
set_option maxRecDepth 100000 in
set_option maxHeartbeats 1600000 in
theorem impl_stretch_good (pass : ByteArray) (n : Nat) (w : World) (h1 : pass.size ≤ 20000) (h2 : 1 ≤ n) (h3 : n ≤ 100) (htab : Tab w) (h0 : 0 < w.heap.size) :
    Calls Tryd.prog 14 #[.string pass, .int .i64 (n : Int)] w fun e w' => e = .returned (.string (stretchT pass n)) ∧ Below w.heap.size w w' := by
  have HT := hide htab
  clear htab
  have h1' : ¬ (20000 : Int) < pass.size := by omega
  have h2' : ¬ (n : Int) < 1 := by omega
  have h3' : ¬ 100 < (n : Int) := by omega
  go_enter Tryd.func14, Tryd.ntmps14
  go_wp2_with fail
  go_loopw [5, 18] (fun s i wx => ∃ k : Nat, k ≤ n ∧ i = .int .i64 k ∧ s = .string (stretchT pass k) ∧ Below w.heap.size w wx) (fun _ i _ => n - (intOf i).toNat)
  case atStart => exact ⟨0, Nat.zero_le _, rfl, rfl, Below.refl _ _⟩
  case round =>
    obtain ⟨k, hk, rfl, rfl, hbl⟩ := hrel
    by_cases hlt : k < n
    · have hlt' : (k : Int) < (n : Int) := by omega
      have hs := stretchT_size pass k
      have hE := hide (show macS pass (stretchT pass k) = stretchT pass (k + 1) from if_pos ⟨h1, by omega⟩)
      go_wp2_with fail
      refine (impl_mac pass (stretchT pass k) _ (HT.out.below hbl h0) (by have := hbl.size; omega)).mono ?_
      rintro e w1 ⟨rfl, hb1⟩
      have hb2 := below3 hbl hb1
      clear hs hb1
      go_wp2_with fail
      exact ⟨⟨k + 1, by omega, by go_num, by rw [hE.out], hb2⟩, by simp [intOf]; omega⟩
    · have hlt' : ¬ (k : Int) < (n : Int) := by omega
      have hE := hide (show stretchT pass k = stretchT pass n by rw [show k = n by omega])
      go_wp2_with fail
      go_ret
      exact ⟨by rw [← hE.out]; rfl, hbl⟩
theorem impl_stretch (pass : ByteArray) (n : Int) (w : World) (htab : Tab w) (h0 : 0 < w.heap.size) :
    Calls Tryd.prog 14 #[.string pass, .int .i64 n] w fun e w' => e = .returned (.string (stretchS pass n)) ∧ Below w.heap.size w w' := by
  by_cases h : pass.size ≤ 20000 ∧ 1 ≤ n ∧ n ≤ 100
  · obtain ⟨m, rfl⟩ : ∃ m : Nat, n = (m : Int) := ⟨n.toNat, by omega⟩
    rw [show stretchS pass (m : Int) = stretchT pass m from if_pos h]
    exact impl_stretch_good pass m w h.1 (by omega) (by omega) htab h0
  · rw [show stretchS pass n = ⟨#[]⟩ from if_neg h]
    exact (impl_stretch_bad pass n w h).mono fun _ _ ⟨a, b⟩ => ⟨a, by rw [b]; exact Below.refl _ _⟩
end Go.Proofs.YtiiefapcbegilaaDoor

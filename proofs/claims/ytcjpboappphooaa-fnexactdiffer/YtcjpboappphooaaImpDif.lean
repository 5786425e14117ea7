/- The program's Differ and Sum at every argument; the walks over their laws. -/
import Derived.Test.YtcjpboappphooaaDifS
import Derived.Test.YtcjpboappphooaaImpApartD
import Derived.Test.YtcjpboappphooaaImpApartS
namespace Go.Proofs.Ytcjpboappphooaa
open Go.RowKit Go
set_option maxRecDepth 100000 in
theorem dif_meet (a b : UInt8) (w : World) : Calls Try.prog 16 #[.int .u8 (a.toNat : Int), .int .u8 (b.toNat : Int)] w fun e w' => e = .returned (.tuple #[.int .u8 ((a - b).toNat : Int), .int .u8 (a.toNat : Int)]) ∧ w' = w := by
  have h := sub8 a b
  obtain ⟨X, hX⟩ : ∃ X, X = a - b := ⟨_, rfl⟩
  rw [← hX] at h ⊢
  clear hX
  go_enter Try.func16, Try.ntmps16
  go_wp2_with fail
  go_ret2
  exact ⟨rfl, rfl⟩
set_option maxRecDepth 100000 in
theorem sum_meet (a b : UInt8) (w : World) : Calls Try.prog 18 #[.int .u8 (a.toNat : Int), .int .u8 (b.toNat : Int)] w fun e w' => e = .returned (.tuple #[.int .u8 ((a + b).toNat : Int), .int .u8 ((a + b).toNat : Int)]) ∧ w' = w := by
  have h := add8 a b
  obtain ⟨X, hX⟩ : ∃ X, X = a + b := ⟨_, rfl⟩
  rw [← hX] at h ⊢
  clear hX
  go_enter Try.func18, Try.ntmps18
  go_wp2_with fail
  go_ret2
  exact ⟨rfl, rfl⟩
theorem dif_met (T : Nat → UInt8) (far j : Nat) (hf : 0 < far) : T j - metF (fun a _ => a) T far j = difF T far j := by
  unfold metF difF
  by_cases h : far ≤ j
  · rw [if_pos ⟨h, hf⟩, if_pos h, keptF_eq]
  · rw [if_neg (fun x => h x.1), if_neg h]; simp
theorem sum_kept (T : Nat → UInt8) (far : Nat) (hf : 0 < far) : ∀ j, keptF (fun a b => a + b) T far j = sumF T far j := by
  intro j
  induction j using Nat.strongRecOn with
  | _ j ih =>
    rw [keptF_eq, metF, sumF]
    by_cases h : far ≤ j
    · rw [if_pos ⟨h, hf⟩, dif_pos ⟨h, hf⟩, ih (j - far) (by omega)]
    · rw [if_neg (fun x => h x.1), dif_neg (fun x => h x.1)]; simp
set_option maxRecDepth 100000 in
set_option maxHeartbeats 800000 in
theorem apart_no (v : Value) (text : ByteArray) (far : Int) (w : World) (b : Nat) (hcell : w.cell? ⟨b, 0, none⟩ = some (.string text)) (ht : text.size ≤ 9223372036854775807) (h : ¬ farOk text far) :
    Calls Try.prog 17 #[.int .i64 far, v, .slice (some ⟨b, 0, none⟩) 1 1] w fun e w' => e = .returned (.string ⟨#[]⟩) ∧ Below w.heap.size w w' := by
  have hso := hide (fun w h1 h2 h3 => sizeOf_any b [text] w h1 h2 h3)
  have e1 : (catB [text]).length = text.size := by simp [catB]
  unfold farOk at h
  by_cases h1 : text.size ≤ 20000
  · have h1' : ¬ (20000 : Int) < (text.size : Int) := by omega
    by_cases h2 : 1 ≤ far
    · have h2' : ¬ far < 1 := by omega
      have h3' : (256 : Int) < far := by omega
      clear h
      go_enter Try.func17, Try.ntmps17
      go_wp2_with fail
      refine (hso.out _ (fun j hj => by match j, hj with | 0, _ => exact hcell) (by simp) (by rw [e1]; omega)).mono ?_
      rw [e1]
      rintro e w1 ⟨rfl, rfl⟩
      go_wp2_with fail
      go_ret
      exact ⟨rfl, Below.refl _ _⟩
    · have h2' : far < 1 := by omega
      clear h
      go_enter Try.func17, Try.ntmps17
      go_wp2_with fail
      refine (hso.out _ (fun j hj => by match j, hj with | 0, _ => exact hcell) (by simp) (by rw [e1]; omega)).mono ?_
      rw [e1]
      rintro e w1 ⟨rfl, rfl⟩
      go_wp2_with fail
      go_ret
      exact ⟨rfl, Below.refl _ _⟩
  · have h1' : (20000 : Int) < (text.size : Int) := by omega
    clear h
    go_enter Try.func17, Try.ntmps17
    go_wp2_with fail
    refine (hso.out _ (fun j hj => by match j, hj with | 0, _ => exact hcell) (by simp) (by rw [e1]; omega)).mono ?_
    rw [e1]
    rintro e w1 ⟨rfl, rfl⟩
    go_wp2_with fail
    go_ret
    exact ⟨rfl, Below.refl _ _⟩
theorem text_cell (w : World) (text : ByteArray) (t : Nat) : (w.alloc (.cells #[.string text] t)).cell? ⟨w.heap.size, 0, none⟩ = some (.string text) := by simp
theorem apart_dif (text : ByteArray) (far : Int) (w : World) (ht : text.size ≤ 9223372036854775807) :
    Calls Try.prog 17 #[.int .i64 far, .func (.func 16) #[] #[], .slice (some ⟨w.heap.size, 0, none⟩) 1 1] (w.alloc (.cells #[.string text] 9)) fun e w' => e = .returned (.string (differS text far)) ∧ Below w.heap.size w w' := by
  have hb0 := (Below.refl w.heap.size w).alloc (Nat.le_refl _) (.cells #[.string text] 9)
  by_cases h : farOk text far
  · have hE : differS text far = ⟨((List.range text.size).map (difF (bF text) far.toNat)).toArray⟩ := if_pos h
    rw [hE]
    obtain ⟨h1, h2, h3⟩ := h
    obtain ⟨n, rfl⟩ := Int.eq_ofNat_of_zero_le (show 0 ≤ far by omega)
    refine (apart_D (fun a b => a - b) (fun a _ => a) dif_meet text n _ w.heap.size (text_cell w text _) (by simp) h1 (by omega) (by omega)).mono ?_
    rintro e w' ⟨rfl, hb⟩
    refine ⟨?_, hb0.trans (hb.mono (by simp))⟩
    congr 5
    funext j; exact dif_met (bF text) n j (by omega)
  · have hE : differS text far = ⟨#[]⟩ := if_neg h
    rw [hE]
    refine (apart_no _ text far _ w.heap.size (text_cell w text _) ht h).mono ?_
    rintro e w' ⟨rfl, hb⟩
    exact ⟨rfl, hb0.trans (hb.mono (by simp))⟩
theorem apart_sum (text : ByteArray) (far : Int) (w : World) (ht : text.size ≤ 9223372036854775807) :
    Calls Try.prog 17 #[.int .i64 far, .func (.func 18) #[] #[], .slice (some ⟨w.heap.size, 0, none⟩) 1 1] (w.alloc (.cells #[.string text] 9)) fun e w' => e = .returned (.string (sumS text far)) ∧ Below w.heap.size w w' := by
  have hb0 := (Below.refl w.heap.size w).alloc (Nat.le_refl _) (.cells #[.string text] 9)
  by_cases h : farOk text far
  · have hE : sumS text far = ⟨((List.range text.size).map (sumF (bF text) far.toNat)).toArray⟩ := if_pos h
    rw [hE]
    obtain ⟨h1, h2, h3⟩ := h
    obtain ⟨n, rfl⟩ := Int.eq_ofNat_of_zero_le (show 0 ≤ far by omega)
    refine (apart_S (fun a b => a + b) (fun a b => a + b) sum_meet text n _ w.heap.size (text_cell w text _) (by simp) h1 (by omega) (by omega)).mono ?_
    rintro e w' ⟨rfl, hb⟩
    refine ⟨?_, hb0.trans (hb.mono (by simp))⟩
    congr 5
    funext j; exact (keptF_eq (fun a b => a + b) (bF text) n j).symm.trans (sum_kept (bF text) n (by omega) j)
  · have hE : sumS text far = ⟨#[]⟩ := if_neg h
    rw [hE]
    refine (apart_no _ text far _ w.heap.size (text_cell w text _) ht h).mono ?_
    rintro e w' ⟨rfl, hb⟩
    exact ⟨rfl, hb0.trans (hb.mono (by simp))⟩
set_option maxRecDepth 100000 in
theorem imp_differ (text : ByteArray) (far : Int) (w : World) (ht : text.size ≤ 9223372036854775807) :
    Calls Try.prog 7 #[.string text, .int .i64 far] w fun e w' => e = .returned (.string (differS text far)) ∧ Below w.heap.size w w' := by
  have S := hide (fun w => apart_dif text far w ht)
  generalize differS text far = R at *
  go_enter Try.func7, Try.ntmps7
  go_wp2_with fail
  refine (S.out w).mono ?_
  rintro e w1 ⟨rfl, hb1⟩
  go_wp2_with fail
  go_ret
  exact ⟨rfl, hb1⟩
set_option maxRecDepth 100000 in
theorem imp_sum (text : ByteArray) (far : Int) (w : World) (ht : text.size ≤ 9223372036854775807) :
    Calls Try.prog 8 #[.string text, .int .i64 far] w fun e w' => e = .returned (.string (sumS text far)) ∧ Below w.heap.size w w' := by
  have S := hide (fun w => apart_sum text far w ht)
  generalize sumS text far = R at *
  go_enter Try.func8, Try.ntmps8
  go_wp2_with fail
  refine (S.out w).mono ?_
  rintro e w1 ⟨rfl, hb1⟩
  go_wp2_with fail
  go_ret
  exact ⟨rfl, hb1⟩
set_option maxRecDepth 100000 in
theorem fnExactDiffer_walk (a0 : ByteArray) (w0 : a0.size ≤ maxLen) (n : Int) (_hn : (Lit.int .i64 n).wf = true) (w : World) :
    Calls Try.prog 4 #[.string a0, .int .i64 n] w fun e w' => e = .returned (.bool true) ∧ Below w.heap.size w w' := by
  unfold maxLen at w0
  by_cases h0 : 1048576 < a0.size
  · go_enter Try.func4, Try.ntmps4
    go_wp2_with fail
    go_ret
    exact ⟨rfl, Below.refl _ _⟩
  · have S := hide (And.intro (fun w => spec_differ a0 n w) (fun w => imp_differ a0 n w (by omega)))
    generalize differS a0 n = R at *
    have hs : (R.toList == R.toList) = true := str_eq rfl
    go_enter Try.func4, Try.ntmps4
    go_wp2_with fail
    refine (S.out.1 _).mono ?_
    rintro e u1 ⟨rfl, hb1⟩
    go_wp2_with fail
    refine (S.out.2 _).mono ?_
    rintro e u2 ⟨rfl, hb2⟩
    go_wp2_with fail
    go_ret
    exact ⟨rfl, hb1.trans (hb2.mono hb1.size)⟩
set_option maxRecDepth 100000 in
theorem fnExactSum_walk (a0 : ByteArray) (w0 : a0.size ≤ maxLen) (n : Int) (_hn : (Lit.int .i64 n).wf = true) (w : World) :
    Calls Try.prog 5 #[.string a0, .int .i64 n] w fun e w' => e = .returned (.bool true) ∧ Below w.heap.size w w' := by
  unfold maxLen at w0
  by_cases h0 : 1048576 < a0.size
  · go_enter Try.func5, Try.ntmps5
    go_wp2_with fail
    go_ret
    exact ⟨rfl, Below.refl _ _⟩
  · have S := hide (And.intro (fun w => spec_sum a0 n w) (fun w => imp_sum a0 n w (by omega)))
    generalize sumS a0 n = R at *
    have hs : (R.toList == R.toList) = true := str_eq rfl
    go_enter Try.func5, Try.ntmps5
    go_wp2_with fail
    refine (S.out.1 _).mono ?_
    rintro e u1 ⟨rfl, hb1⟩
    go_wp2_with fail
    refine (S.out.2 _).mono ?_
    rintro e u2 ⟨rfl, hb2⟩
    go_wp2_with fail
    go_ret
    exact ⟨rfl, hb1.trans (hb2.mono hb1.size)⟩
end Go.Proofs.Ytcjpboappphooaa

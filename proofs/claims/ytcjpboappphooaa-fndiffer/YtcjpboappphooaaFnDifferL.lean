/- Differ and Sum undo one another; the walk over the law FnDiffer. -/
import Derived.Test.YtcjpboappphooaaImpDif
import Derived.Test.YtcjpboappphooaaDrawDif
import Derived.BigRegion
namespace Go.Proofs.Ytcjpboappphooaa
open Go.RowKit Go
def mkB (n : Nat) (f : Nat → UInt8) : ByteArray := ⟨((List.range n).map f).toArray⟩
theorem mkB_size (n : Nat) (f : Nat → UInt8) : (mkB n f).size = n := by unfold mkB; rw [size_mk]; simp
theorem mkB_at (n : Nat) (f : Nat → UInt8) (j : Nat) (hj : j < n) : bF (mkB n f) j = f j := by
  unfold bF mkB
  show ((List.range n).map f).toArray.toList.getD j 0 = _
  rw [List.getD_eq_getElem?_getD, List.toList_toArray, List.getElem?_map, List.getElem?_range hj]; rfl
theorem mkB_self {n : Nat} {f : Nat → UInt8} (t : ByteArray) (hn : n = t.size) (hf : ∀ j, j < n → f j = bF t j) : mkB n f = t := by
  subst hn
  apply ByteArray.ext
  rw [← Array.toList_inj]
  show ((List.range t.size).map f).toArray.toList = _
  rw [List.toList_toArray]
  apply List.ext_getElem?
  intro j
  by_cases hj : j < t.size
  · rw [bF_at t t.size rfl j hj, List.getElem?_map, List.getElem?_range hj]
    show some (f j) = _
    rw [hf j hj]
  · have e : t.data.toList.length = t.size := rfl
    rw [List.getElem?_eq_none (by simp; omega), List.getElem?_eq_none (by omega)]
theorem differS_yes {t : ByteArray} {far : Int} (h : farOk t far) : differS t far = mkB t.size (difF (bF t) far.toNat) := if_pos h
theorem sumS_yes {t : ByteArray} {far : Int} (h : farOk t far) : sumS t far = mkB t.size (sumF (bF t) far.toNat) := if_pos h
theorem sum_dif (T U : Nat → UInt8) (n far : Nat) (hf : 0 < far) (hU : ∀ j, j < n → U j = difF T far j) : ∀ j, j < n → sumF U far j = T j := by
  intro j
  induction j using Nat.strongRecOn with
  | _ j ih =>
    intro hj
    rw [sumF, hU j hj, difF]
    by_cases h : far ≤ j
    · rw [dif_pos ⟨h, hf⟩, if_pos h, ih (j - far) (by omega) (by omega), UInt8.sub_add_cancel]
    · rw [dif_neg (fun x => h x.1), if_neg h]
theorem dif_sum (T U : Nat → UInt8) (n far : Nat) (hf : 0 < far) (hU : ∀ j, j < n → U j = sumF T far j) (j : Nat) (hj : j < n) : difF U far j = T j := by
  rw [difF]
  by_cases h : far ≤ j
  · rw [if_pos h, hU j hj, hU (j - far) (by omega), sumF, dif_pos ⟨h, hf⟩, UInt8.add_sub_cancel]
  · rw [if_neg h, hU j hj, sumF, dif_neg (fun x => h x.1)]
theorem sum_of_dif {t : ByteArray} {far : Int} (h : farOk t far) : (differS t far).size = t.size ∧ sumS (differS t far) far = t := by
  have hs : (differS t far).size = t.size := by rw [differS_yes h, mkB_size]
  refine ⟨hs, ?_⟩
  have h2 : farOk (differS t far) far := ⟨by rw [hs]; exact h.1, h.2⟩
  rw [sumS_yes h2]
  refine mkB_self t hs fun j hj => ?_
  rw [hs] at hj
  refine sum_dif (bF t) _ t.size far.toNat (by have := h.2.1; omega) (fun i hi => ?_) j hj
  rw [differS_yes h, mkB_at _ _ _ hi]
theorem dif_of_sum {t : ByteArray} {far : Int} (h : farOk t far) : (sumS t far).size = t.size ∧ differS (sumS t far) far = t := by
  have hs : (sumS t far).size = t.size := by rw [sumS_yes h, mkB_size]
  refine ⟨hs, ?_⟩
  have h2 : farOk (sumS t far) far := ⟨by rw [hs]; exact h.1, h.2⟩
  rw [differS_yes h2]
  refine mkB_self t hs fun j hj => ?_
  rw [hs] at hj
  refine dif_sum (bF t) _ t.size far.toNat (by have := h.2.1; omega) (fun i hi => ?_) j hj
  rw [sumS_yes h, mkB_at _ _ _ hi]
set_option maxRecDepth 100000 in
set_option maxHeartbeats 1600000 in
theorem fnDiffer_main (a0 : Option Addr) (len0 cap0 : Nat) (w : World) (hl0 : len0 ≤ 1048576) (hb0 : BytesIn w w.heap.size a0 len0) :
    Calls Try.prog 3 #[.slice a0 len0 cap0] w fun e w' => e = .returned (.bool true) ∧ Below w.heap.size w w' := by
  have h0' : ¬ (1048576 : Int) < (len0 : Int) := by omega
  have HB0 := hide hb0
  clear hb0
  go_enter Try.func3, Try.ntmps3
  go_wp2_with fail
  refine (drawDiffer_any _ a0 len0 cap0 hl0 HB0.out).mono ?_
  rintro e w1 ⟨t, far, rfl, ht, hn1, hn2, hg1⟩
  have B1 := hide (grownBy_toBelow hg1)
  have SI := hide (And.intro (fun (t : ByteArray) w (h : t.size ≤ 20000) => imp_differ t far w (by omega)) (fun (t : ByteArray) w (h : t.size ≤ 20000) => imp_sum t far w (by omega)))
  have SS := hide (And.intro (fun w => spec_differ t far w) (fun w => spec_sum t far w))
  clear HB0 hg1
  go_wp2_with fail
  refine (SI.out.1 t _ (by omega)).mono ?_
  rintro e w2 ⟨rfl, hb2⟩
  have B2 := hide (B1.out.trans (hb2.mono B1.out.size))
  obtain ⟨x, hx⟩ : ∃ x, x = differS t far := ⟨_, rfl⟩
  rw [← hx] at SS ⊢
  have HX := hide hx
  have sx : (x.toList == x.toList) = true := str_eq rfl
  clear B1 hb2 hx
  go_wp2_with fail
  refine (SI.out.2 t _ (by omega)).mono ?_
  rintro e w3 ⟨rfl, hb3⟩
  have B3 := hide (B2.out.trans (hb3.mono B2.out.size))
  obtain ⟨y, hy⟩ : ∃ y, y = sumS t far := ⟨_, rfl⟩
  rw [← hy] at SS ⊢
  have HY := hide hy
  have sy : (y.toList == y.toList) = true := str_eq rfl
  clear B2 hb3 hy
  go_wp2_with fail
  refine (SS.out.1 _).mono ?_
  rintro e w4 ⟨rfl, hb4⟩
  have B4 := hide (B3.out.trans (hb4.mono B3.out.size))
  clear B3 hb4
  go_wp2_with fail
  refine (SS.out.2 _).mono ?_
  rintro e w5 ⟨rfl, hb5⟩
  have B5 := hide (B4.out.trans (hb5.mono B4.out.size))
  clear B4 hb5 SS
  by_cases h1 : far < 1
  · have ex : x = ⟨#[]⟩ := by rw [HX.out]; exact if_neg (fun h => by have := h.2.1; omega)
    have ey : y = ⟨#[]⟩ := by rw [HY.out]; exact if_neg (fun h => by have := h.2.1; omega)
    subst ex ey
    have h1d : decide (far < 1) = true := decide_eq_true h1
    clear HX HY SI
    go_wp2_with fail
    go_ret
    exact ⟨rfl, B5.out⟩
  by_cases h2 : 256 < far
  · have ex : x = ⟨#[]⟩ := by rw [HX.out]; exact if_neg (fun h => by have := h.2.2; omega)
    have ey : y = ⟨#[]⟩ := by rw [HY.out]; exact if_neg (fun h => by have := h.2.2; omega)
    subst ex ey
    have h2d : decide (256 < far) = true := decide_eq_true h2
    clear HX HY SI
    go_wp2_with fail
    go_ret
    exact ⟨rfl, B5.out⟩
  have hok : farOk t far := ⟨by omega, by omega, by omega⟩
  obtain ⟨s1, e1⟩ := sum_of_dif hok
  obtain ⟨s2, e2⟩ := dif_of_sum hok
  rw [← HX.out] at s1 e1
  rw [← HY.out] at s2 e2
  have S1 := hide (fun w => SI.out.2 x w (by omega))
  have S2 := hide (fun w => SI.out.1 y w (by omega))
  rw [e1] at S1
  rw [e2] at S2
  have st : (t.toList == t.toList) = true := str_eq rfl
  have h3 : ¬ (20000 : Int) < (t.size : Int) := by omega
  have s1' : (x.size : Int) = (t.size : Int) := by omega
  clear HX HY SI e1 e2 hok s1 s2
  go_wp2_with fail
  refine (S1.out _).mono ?_
  rintro e w6 ⟨rfl, hb6⟩
  have B6 := hide (B5.out.trans (hb6.mono B5.out.size))
  clear B5 hb6
  go_wp2_with fail
  refine (S2.out _).mono ?_
  rintro e w7 ⟨rfl, hb7⟩
  have B7 := hide (B6.out.trans (hb7.mono B6.out.size))
  clear B6 hb7
  go_wp2_with fail
  go_ret
  exact ⟨rfl, B7.out⟩
theorem row_lenD {k : IntKind} {w : World} {a : Option Addr} {len cap : Nat} {zs : List Int} (h : IsRow k w a len cap zs) : len ≤ 9223372036854775807 := by
  rcases h with ⟨_, h, _⟩ | ⟨_, _, h1, h2, _⟩
  · omega
  · unfold maxLen at h2; omega
set_option maxRecDepth 100000 in
set_option maxHeartbeats 400000 in
theorem fnDiffer_walk (a0 : Option Addr) (len0 cap0 : Nat) (z0 : List Int) (w : World) (w0 : IsRow .u8 w a0 len0 cap0 z0) :
    Calls Try.prog 3 #[.slice a0 len0 cap0] w fun e w' => e = .returned (.bool true) ∧ Below w.heap.size w w' := by
  have h0 := row_lenD w0
  by_cases hl0 : 1048576 < len0
  · have hl0' : 1048576 < (len0 : Int) := by omega
    clear w0
    go_enter Try.func3, Try.ntmps3
    go_wp2_with fail
    go_ret
    exact ⟨rfl, Below.refl _ _⟩
  exact fnDiffer_main a0 len0 cap0 w (by omega) (bytesIn_of_row w0)
end Go.Proofs.Ytcjpboappphooaa

/- The walks over the laws' markText, eqStringS, markStringS, heldStringS. -/
import Derived.Test.YtipeelkmmjgehabRows
import Derived.Test.YtipeelkmmjgehabOwn
import Derived.Test.YtipeelkmmjgehabSrc
import Derived.Below
import Derived.BigRegion
import Derived.BigQuiet
import Derived.Deep.RegionHeld3
namespace Go.Proofs.Ytipeelkmmjgehab
open Go.RowKit
/-- The digits of k, ahead of what there is. -/
def digs (k : Nat) (out : List UInt8) : List UInt8 := if _h : k = 0 then out else digs (k / 10) (UInt8.ofNat (48 + k % 10) :: out)
theorem digs_zero (out : List UInt8) : digs 0 out = out := by rw [digs, dif_pos rfl]
theorem digs_pos (k : Nat) (out : List UInt8) (h : k ≠ 0) : digs k out = digs (k / 10) (UInt8.ofNat (48 + k % 10) :: out) := by rw [digs, dif_neg h]
/-- markText. -/
def markT (k : Nat) : ByteArray := if k = 0 then ⟨#[109, 48]⟩ else ⟨((109 : UInt8) :: digs k []).toArray⟩
theorem one_conv {P : Program} (w : World) (src dst e t n : Nat) (X : Int) (b : UInt8) (hX : X = (b.toNat : Int)) (hn : w.heap.size = n) (hs : P.underlying src = some (.slice e)) (he : P.underlying e = some (.int .u8)) (hd : P.underlying dst = some .string) :
    (convert src dst (.slice (some ⟨n, 0, none⟩) 1 1)).run P (w.alloc (.cells #[.int .u8 X] t)) = .ok (.string ⟨#[b]⟩) (w.alloc (.cells #[.int .u8 X] t)) := by
  subst hn hX
  exact run_convert_bytes_back (P := P) (w.alloc (.cells #[.int .u8 (b.toNat : Int)] t)) src dst e ⟨w.heap.size, 0, none⟩ 1 [b] hs he hd (fun j hj => by
    have h0 : j = 0 := by simpa using hj
    subst h0
    exact one_cell w _ t 0 _ rfl)
set_option maxRecDepth 100000 in
set_option maxHeartbeats 800000 in
theorem mark_text (k0 : Nat) (w : World) (hk : k0 ≤ 100000000) :
    Calls Try.prog 68 #[.int .i64 k0] w fun e w' => e = .returned (.string (markT k0)) ∧ Below w.heap.size w w' := by
  by_cases h0 : k0 = 0
  · have hE : markT k0 = ⟨#[109, 48]⟩ := if_pos h0
    rw [hE]
    subst h0
    go_enter Try.func68, Try.ntmps68
    go_wp2_with fail
    go_ret
    exact ⟨rfl, Below.refl _ _⟩
  · have hE : markT k0 = ⟨((109 : UInt8) :: digs k0 []).toArray⟩ := if_neg h0
    rw [hE]
    have h0' : ¬ (k0 : Int) ≤ 0 := by omega
    have h0'' : decide ((k0 : Int) ≤ 0) = false := decide_eq_false h0'
    go_enter Try.func68, Try.ntmps68
    go_wp2_with fail
    go_loopw [0, 3] (fun i s wx => ∃ (k : Nat) (out : List UInt8), k ≤ 100000000 ∧ out.length + k ≤ 100000000 ∧ i = .int .i64 k ∧ s = .string ⟨out.toArray⟩ ∧ Hid (digs k out = digs k0 []) ∧ Below w.heap.size w wx) (fun i _ _ => (intOf i).toNat)
    case atStart => exact ⟨k0, [], hk, by simpa using hk, rfl, rfl, rfl, Below.refl _ _⟩
    case round =>
      obtain ⟨k, out, hkb, hlen, rfl, rfl, hd, hbl⟩ := hrel
      by_cases hpos : 0 < k
      · have hpos' : decide (0 < (k : Int)) = true := decide_eq_true (by omega)
        obtain ⟨r, er⟩ : ∃ r, r = k % 10 := ⟨_, rfl⟩
        obtain ⟨q, eq⟩ : ∃ q, q = k / 10 := ⟨_, rfl⟩
        have tr : (k : Int) % 10 = (r : Int) := by omega
        have tr2 : (k : Int).tmod 10 = (r : Int) := by rw [Int.tmod_eq_emod_of_nonneg (by omega)]; exact tr
        have tq : (k : Int).tdiv 10 = (q : Int) := by rw [Int.tdiv_eq_ediv_of_nonneg (by omega)]; omega
        have tq2 : (k : Int) / 10 = (q : Int) := by omega
        have hr : (r : Int) ≤ 9 := by omega
        obtain ⟨d, ed⟩ : ∃ d : UInt8, d = UInt8.ofNat (48 + r) := ⟨_, rfl⟩
        have hdn : (48 + (r : Int)) = (d.toNat : Int) := by rw [ed, ofNat_byte _ (by omega)]; simp
        have hcv := one_conv (P := Try.prog) wr 22 9 5 5 wr.heap.size (48 + (r : Int)) d hdn rfl Try.underlying22 Try.underlying5 Try.underlying9
        have hd2 := hide (show digs q (d :: out) = digs k0 [] by rw [← hd.out, digs_pos k out (by omega), ed, er, eq])
        have hqk := hide (show q < k ∧ q ≤ 100000000 ∧ (d :: out).length + q ≤ 100000000 from ⟨by omega, by omega, by simp only [List.length_cons]; omega⟩)
        have hsz : (⟨out.toArray⟩ : ByteArray).size ≤ 100000000 := by rw [size_mk]; omega
        have hsz1 : (⟨#[d]⟩ : ByteArray).size = 1 := rfl
        clear er eq ed hdn
        go_wp2_with fail
        obtain ⟨q1, q2, q3⟩ := hqk.out
        refine ⟨⟨q, d :: out, q2, q3, rfl, ?_, hd2, hbl.alloc hbl.size _⟩, by simpa [intOf] using q1⟩
        rw [show (⟨#[d]⟩ : ByteArray) ++ ⟨out.toArray⟩ = ⟨(d :: out).toArray⟩ from by apply ByteArray.ext; rw [ByteArray.data_append]; simp]
      · have hpos' : decide (0 < (k : Int)) = false := decide_eq_false (by omega)
        have hk0 : k = 0 := by omega
        subst hk0
        have hout := hide (show out = digs k0 [] by rw [← hd.out, digs_zero])
        have hsz : (⟨out.toArray⟩ : ByteArray).size ≤ 100000000 := by rw [size_mk]; omega
        have hsz1 : (⟨#[109]⟩ : ByteArray).size = 1 := rfl
        go_wp2_with fail
        go_ret
        refine ⟨?_, hbl⟩
        rw [← hout.out]
        exact ret_str (by apply ByteArray.ext; rw [ByteArray.data_append]; simp)
/-- A list of n texts f behind the value v. -/
def strV (w : World) (v : Value) (n : Nat) (f : Nat → ByteArray) : Prop :=
  ∃ ao cap, v = .slice ao n cap ∧ (n = 0 ∨ ∃ g, ao = some ⟨g, 0, none⟩ ∧ g < w.heap.size ∧ ∀ j, j < n → w.cell? ⟨g, j, none⟩ = some (.string (f j)) ∧ w.frozen? ⟨g, j, none⟩ = false)
theorem strV.below {w w' : World} {v : Value} {n : Nat} {f : Nat → ByteArray} (h : strV w v n f) (hb : Below w.heap.size w w') : strV w' v n f := by
  obtain ⟨ao, cap, rfl, h | ⟨g, rfl, hg, hc⟩⟩ := h
  · exact ⟨ao, cap, rfl, .inl h⟩
  · exact ⟨_, cap, rfl, .inr ⟨g, rfl, Nat.lt_of_lt_of_le hg hb.size, fun j hj => by rw [hb.cell (p := ⟨g, j, none⟩) hg, hb.frozen (p := ⟨g, j, none⟩) hg]; exact hc j hj⟩⟩
set_option maxRecDepth 100000 in
set_option maxHeartbeats 800000 in
theorem eq_strs (va vb : Value) (n : Nat) (f : Nat → ByteArray) (w : World) (hn : n ≤ 100000000) (ha : strV w va n f) (hb : strV w vb n f) :
    Calls Try.prog 53 #[va, vb] w fun e w' => e = .returned (.bool true) ∧ Below w.heap.size w w' := by
  obtain ⟨aa, ca, rfl, hA⟩ := ha
  obtain ⟨ab, cb, rfl, hB⟩ := hb
  have HA := hide hA
  have HB := hide hB
  clear hA hB
  go_enter Try.func53, Try.ntmps53
  go_wp2_with fail
  go_loopw [5] (fun i wx => ∃ k : Nat, k ≤ n ∧ i = .int .i64 k ∧ Below w.heap.size w wx) (fun i _ => n - (intOf i).toNat)
  case atStart => exact ⟨0, Nat.zero_le _, rfl, Below.refl _ _⟩
  case round =>
    obtain ⟨k, hk, rfl, hbl⟩ := hrel
    by_cases hlt : k < n
    · have hlt' : decide ((k : Int) < (n : Int)) = true := decide_eq_true (by omega)
      have hlt2 : (k : Int) < (n : Int) := by omega
      obtain h0 | ⟨ga, rfl, hga, hca⟩ := HA.out
      · omega
      obtain h0 | ⟨gb, rfl, hgb, hcb⟩ := HB.out
      · omega
      have c1 : wr.cell? ⟨ga, k, none⟩ = some (.string (f k)) := (hbl.cell (p := ⟨ga, k, none⟩) hga).trans (hca k hlt).1
      have c2 : wr.cell? ⟨gb, k, none⟩ = some (.string (f k)) := (hbl.cell (p := ⟨gb, k, none⟩) hgb).trans (hcb k hlt).1
      clear hca hcb HA HB
      generalize f k = X at *
      go_wp2_with fail
      go_region
      go_wp2_with fail
      go_roundw
      case rel => exact ⟨k + 1, by omega, by go_num, hbl.drew⟩
      case measure => simp [intOf]; omega
    · have hlt' : decide ((k : Int) < (n : Int)) = false := decide_eq_false (by omega)
      go_wp2_with fail
      go_ret
      exact ⟨rfl, hbl⟩
theorem grown_below {w w1 w2 : World} {r : Option Nat} (h : w.grownBy w1 r) (h2 : Below w1.heap.size w1 w2) : w.grownBy w2 r := grownBy_none h (below_grownBy h2)
set_option maxRecDepth 100000 in
set_option maxHeartbeats 800000 in
theorem mark_strs (v : Value) (n k0 : Nat) (f : Nat → ByteArray) (w : World) (hn : n ≤ 8388608) (hk0 : k0 ≤ 8388608) (ha : strV w v n f) :
    Calls Try.prog 55 #[v, .int .i64 k0] w fun e w' => e = .returned (.int .i64 ((k0 + n : Nat) : Int)) ∧ strV w' v n (fun j => markT (k0 + j)) ∧ w.grownBy w' v.ownBlock := by
  obtain ⟨ao, cap, rfl, h0 | ⟨g, rfl, hg, hc⟩⟩ := ha
  · subst h0
    go_enter Try.func55, Try.ntmps55
    go_wp2_with fail
    go_loopw [1, 5] (fun k i wx => k = .int .i64 k0 ∧ i = .int .i64 0 ∧ w = wx) (fun _ _ _ => 0)
    case atStart => exact ⟨rfl, rfl, rfl⟩
    case round =>
      obtain ⟨rfl, rfl, rfl⟩ := hrel
      go_wp2_with fail
      go_ret
      exact ⟨rfl, ⟨ao, cap, rfl, .inl rfl⟩, ⟨rfl, rfl, rfl, Nat.le_refl _, fun _ _ _ => rfl⟩⟩
  · have HC := hide hc
    clear hc
    go_enter Try.func55, Try.ntmps55
    go_wp2_with fail
    go_loopw [1, 5] (fun k i wx => ∃ (m : Nat) (h : Nat → ByteArray), m ≤ n ∧ i = .int .i64 m ∧ k = .int .i64 ((k0 + m : Nat) : Int) ∧ Hid (∀ j, j < m → h j = markT (k0 + j)) ∧ g < wx.heap.size ∧ Hid (∀ j, j < n → wx.cell? ⟨g, j, none⟩ = some (.string (h j)) ∧ wx.frozen? ⟨g, j, none⟩ = false) ∧ w.grownBy wx (some g)) (fun _ i _ => n - (intOf i).toNat)
    case atStart => exact ⟨0, f, Nat.zero_le _, rfl, rfl, fun j hj => by omega, hg, HC, ⟨rfl, rfl, rfl, Nat.le_refl _, fun _ _ _ => rfl⟩⟩
    case round =>
      obtain ⟨m, h, hm, rfl, rfl, hh, hg2, hc, hgr⟩ := hrel
      obtain ⟨km, ekm⟩ : ∃ q, q = k0 + m := ⟨_, rfl⟩
      rw [← ekm]
      by_cases hlt : m < n
      · have hlt' : decide ((m : Int) < (n : Int)) = true := decide_eq_true (by omega)
        have hlt2 : (m : Int) < (n : Int) := by omega
        have hkm : (km : Int) ≤ 16777216 := by omega
        have HKM := hide ekm
        clear ekm
        go_wp2_with fail
        refine (mark_text km wr (by omega)).mono ?_
        rintro e w1 ⟨rfl, hb1⟩
        obtain ⟨X, hX⟩ : ∃ X, X = markT km := ⟨_, rfl⟩
        rw [← hX]
        have hc1 := hide (show ∀ j, j < n → w1.cell? ⟨g, j, none⟩ = some (.string (h j)) ∧ w1.frozen? ⟨g, j, none⟩ = false from fun j hj => by rw [hb1.cell (p := ⟨g, j, none⟩) hg2, hb1.frozen (p := ⟨g, j, none⟩) hg2]; exact hc.out j hj)
        have cm := (hc1.out m hlt).1
        have fm := (hc1.out m hlt).2
        have hgr1 := grown_below hgr hb1
        have hg3 : g < w1.heap.size := Nat.lt_of_lt_of_le hg2 hb1.size
        have HX := hide hX
        clear hX hb1 hc hgr
        go_wp2_with fail
        refine ⟨⟨m + 1, fun j => if j = m then X else h j, by omega, by go_num, by rw [HKM.out]; exact congrArg _ (by omega), fun j hj => ?_, by simpa [World.setCell] using hg3, fun j hj => ⟨?_, ?_⟩, grownBy_set hgr1 _⟩, by simp [intOf]; omega⟩
        · show (if j = m then X else h j) = _
          by_cases e : j = m
          · rw [if_pos e, HX.out, HKM.out, e]
          · rw [if_neg e]; exact hh.out j (by omega)
        · show _ = some (Value.string (if j = m then X else h j))
          by_cases e : j = m
          · rw [if_pos e, e]; exact World.cell?_setCell_same _ _ _ cm
          · rw [if_neg e, World.cell?_setCell_other _ _ _ _ (by intro e2; injection e2 with _ e3; exact e e3.symm)]
            exact (hc1.out j hj).1
        · rw [World.frozen?_setCell]; exact (hc1.out j hj).2
      · have hlt' : decide ((m : Int) < (n : Int)) = false := decide_eq_false (by omega)
        have hmn : m = n := by omega
        subst hmn
        have HKM := hide ekm
        clear ekm
        go_wp2_with fail
        go_ret
        exact ⟨by rw [HKM.out]; rfl, ⟨_, cap, rfl, .inr ⟨g, rfl, hg2, fun j hj => by show _ = some (Value.string (markT (k0 + j))) ∧ _; rw [← hh.out j hj]; exact hc.out j hj⟩⟩, hgr⟩
set_option maxRecDepth 100000 in
set_option maxHeartbeats 800000 in
theorem held_strs (v : Value) (n k0 : Nat) (w : World) (hn : n ≤ 8388608) (hk0 : k0 ≤ 8388608) (ha : strV w v n (fun j => markT (k0 + j))) :
    Calls Try.prog 59 #[v, .int .i64 k0] w fun e w' => e = .returned (.int .i64 ((k0 + n : Nat) : Int)) ∧ Below w.heap.size w w' := by
  obtain ⟨ao, cap, rfl, hA⟩ := ha
  have HA := hide hA
  clear hA
  go_enter Try.func59, Try.ntmps59
  go_wp2_with fail
  go_loopw [1, 5] (fun k i wx => ∃ m : Nat, m ≤ n ∧ i = .int .i64 m ∧ k = .int .i64 ((k0 + m : Nat) : Int) ∧ Below w.heap.size w wx) (fun _ i _ => n - (intOf i).toNat)
  case atStart => exact ⟨0, Nat.zero_le _, rfl, rfl, Below.refl _ _⟩
  case round =>
    obtain ⟨m, hm, rfl, rfl, hbl⟩ := hrel
    obtain ⟨km, ekm⟩ : ∃ q, q = k0 + m := ⟨_, rfl⟩
    rw [← ekm]
    by_cases hlt : m < n
    · have hlt' : decide ((m : Int) < (n : Int)) = true := decide_eq_true (by omega)
      have hlt2 : (m : Int) < (n : Int) := by omega
      have hkm : (km : Int) ≤ 16777216 := by omega
      obtain h0 | ⟨g, rfl, hg, hc⟩ := HA.out
      · omega
      have c1 : wr.cell? ⟨g, m, none⟩ = some (.string (markT km)) := by rw [ekm]; exact (hbl.cell (p := ⟨g, m, none⟩) hg).trans (hc m hlt).1
      have hkm2 := hide (show km ≤ 100000000 by omega)
      obtain ⟨X, hX⟩ : ∃ X, X = markT km := ⟨_, rfl⟩
      rw [← hX] at c1
      have hct := hide (show ∀ wx, Calls Try.prog 68 #[.int .i64 km] wx fun e w' => e = .returned (.string X) ∧ Below wx.heap.size wx w' by intro wx; rw [hX]; exact mark_text km wx hkm2.out)
      have hgw : g < wr.heap.size := Nat.lt_of_lt_of_le hg hbl.size
      have HKM := hide ekm
      clear hc ekm HA hX
      go_wp2_with fail
      go_region_held3 (fun w' => w'.cell? ⟨g, m, none⟩ = some (.string X)) (first | exact (hb9.cell (p := ⟨g, m, none⟩) hgw).trans c1 | go_keep) (first | (go_at_call 68; refine (hct.out _).mono ?_; rintro e w9 ⟨rfl, hb9⟩))
      rename_i _ hH
      have hbl9 := hbl.trans ((show Below wr.heap.size wr w9 from ⟨hb9.os, hb9.tape, hb9.output, hb9.size, hb9.block⟩).mono hbl.size)
      clear hH hct c1 hb9
      go_wp2_with fail
      go_roundw
      case rel => exact ⟨m + 1, by omega, by go_num, by rw [HKM.out]; exact congrArg _ (by omega), hbl9⟩
      case measure => simp [intOf]; omega
    · have hlt' : decide ((m : Int) < (n : Int)) = false := decide_eq_false (by omega)
      have hmn : m = n := by omega
      subst hmn
      have HKM := hide ekm
      clear ekm
      go_wp2_with fail
      go_ret
      exact ⟨by rw [HKM.out]; rfl, hbl⟩
end Go.Proofs.Ytipeelkmmjgehab

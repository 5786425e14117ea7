/- The walk over the law FnMac. -/
import Derived.Test.YtiiefapcbegilaaDoorDrawMac
import Derived.Test.YtiiefapcbegilaaDoorImpMac
namespace Go.Proofs.YtiiefapcbegilaaDoor
open Go.RowKit
theorem BytesIn.mono {w : World} {B B' : Nat} {a : Option Addr} {len : Nat} (h : BytesIn w B a len) (hB : B ≤ B') : BytesIn w B' a len := by
  rcases h with h | ⟨b, off, rfl, hb, hc⟩
  · exact .inl h
  · exact .inr ⟨b, off, rfl, by omega, hc⟩
theorem row_len {k : IntKind} {w : World} {a : Option Addr} {len cap : Nat} {zs : List Int} (h : IsRow k w a len cap zs) : len ≤ 9223372036854775807 := by
  rcases h with ⟨_, h, _⟩ | ⟨_, _, h1, h2, _⟩
  · omega
  · unfold maxLen at h2; omega

set_option maxRecDepth 100000 in
set_option maxHeartbeats 1600000 in
theorem law_pad (key : ByteArray) (m : UInt8) (w : World) (hk : key.size ≤ 64) :
    Calls Tryd.prog 9 #[.string key, .int .u8 (m.toNat : Int)] w fun e w' => e = .returned (.string (padT key m)) ∧ Below w.heap.size w w' := by
  have hmk : ∀ w : World, (Instr.makeSlice 22 (.int .i64 64) (.int .i64 64)).run Tryd.prog w = .ok (.slice (some ⟨w.heap.size, 0, none⟩) 64 64) (w.alloc (.cells (madeCells #[.int .u8 0] 64) 5)) := run_make_row' (P := Tryd.prog) 22 5 (.int .u8 0) 1 (by kernel_rfl) Tryd.infoP8 rfl .i64 .i64 64 (by omega) (by omega)
  have hmade : madeCells #[Value.int .u8 0] 64 = (List.replicate 64 (Value.int .u8 0)).toArray := by
    apply Array.toList_inj.1; rw [toList_madeCells_one]
  obtain ⟨cur, hcur⟩ : ∃ l : List Value, l = List.replicate 64 (Value.int .u8 0) := ⟨_, rfl⟩
  rw [hmade, ← hcur] at hmk
  have hcl : cur.length = 64 := by rw [hcur]; simp
  have HC := hide hcur
  clear hcur hmade
  have hm : (m.toNat : Int) ≤ 255 := by have := m.toNat_lt; omega
  go_enter Tryd.func9, Tryd.ntmps9
  go_wp2_with (refine wpList_copy_str rfl _ _ 22 9 rfl 5 Tryd.underlying22 Tryd.sizeP8 _ _ _ rfl key rfl w.heap.size 0 cur 5 (heap_alloc_new w _) hk (fun _ => rfl) (by omega) w.heap.size w ((Below.refl _ _).alloc (Nat.le_refl _) _) (Nat.le_refl _) ?_)
  intro w1 hrow hb1
  have hr1 := row_copied w1 w.heap.size 5 key hk (by rw [← HC.out]; exact hrow.out)
  clear hrow hmk HC hcl
  go_wp2_with fail
  go_loopw [6] (fun i wx => ∃ (k : Nat) (f : Nat → UInt8), k ≤ 64 ∧ i = .int .i64 k ∧ Hid (∀ j, f j = if j < k then keyAt key j ^^^ m else keyAt key j) ∧ wx.rowIs w.heap.size 5 64 (u8V f) ∧ Below w.heap.size w wx) (fun i _ => 64 - (intOf i).toNat)
  case atStart => exact ⟨0, keyAt key, by omega, rfl, fun j => by simp, hr1, hb1⟩
  case round =>
    clear hr1 hb1
    obtain ⟨k, f, hk64, rfl, hf, hr, hbl⟩ := hrel
    by_cases hlt : k < 64
    · have c : wr.cell? ⟨w.heap.size, k, none⟩ = some (.int .u8 ((f k).toNat : Int)) := hr.cell hlt
      have fz := hr.frozen k
      have hx := r_xor8 (f k) m
      have hf2 := hide (xor_step hf.out)
      go_wp2_with fail
      refine ⟨?rel, ?measure⟩
      case rel => exact ⟨k + 1, fun j => if j = k then f k ^^^ m else f j, by omega, by go_num, hf2, set_byte hr (by rw [UInt8.toNat_xor]), hbl.setCell (Nat.le_refl _) _⟩
      case measure => simp [intOf]; omega
    · have hcv := pad_conv (P := Tryd.prog) (cap := 64) hr (pad_list hf.out (by omega)) (padL_length key m) Tryd.underlying22 Tryd.underlying5 Tryd.underlying9
      go_wp2_with fail
      go_ret
      exact ⟨rfl, hbl⟩
theorem law_padT (key : ByteArray) (m : UInt8) (M : Int) (hM : M = (m.toNat : Int)) (w : World) (hk : key.size ≤ 64) :
    Calls Tryd.prog 9 #[.string key, .int .u8 M] w fun e w' => e = .returned (.string (padT key m)) ∧ Below w.heap.size w w' := by
  subst hM; exact law_pad key m w hk

theorem digest_at (t T : ByteArray) (w : World) (hT : digestS t = T) (htab : Tab w) (h0 : 0 < w.heap.size) :
    Calls Tryd.prog 8 #[.string t] w fun e w' => e = .returned (.string T) ∧ Below w.heap.size w w' := by
  subst hT; exact impl_digest t w htab h0
theorem mac_at (k t T : ByteArray) (w : World) (hT : macS k t = T) (htab : Tab w) (h0 : 0 < w.heap.size) :
    Calls Tryd.prog 10 #[.string k, .string t] w fun e w' => e = .returned (.string T) ∧ Below w.heap.size w w' := by
  subst hT; exact impl_mac k t w htab h0
theorem stretch_at (p : ByteArray) (n : Int) (T : ByteArray) (w : World) (hT : stretchS p n = T) (htab : Tab w) (h0 : 0 < w.heap.size) :
    Calls Tryd.prog 14 #[.string p, .int .i64 n] w fun e w' => e = .returned (.string T) ∧ Below w.heap.size w w' := by
  subst hT; exact impl_stretch p n w htab h0
theorem stretch_next (p : ByteArray) (n : Int) (hp : p.size ≤ 20000) (h1 : 1 ≤ n) (h2 : n ≤ 99) : stretchS p (n + 1) = macS p (stretchS p n) := by
  have e1 : stretchS p n = stretchT p n.toNat := if_pos ⟨hp, by omega, by omega⟩
  have e2 : stretchS p (n + 1) = stretchT p (n + 1).toNat := if_pos ⟨hp, by omega, by omega⟩
  have hs := stretchT_size p n.toNat
  rw [e1, e2, show (n + 1).toNat = n.toNat + 1 by omega, show macS p (stretchT p n.toNat) = macT p (stretchT p n.toNat) from if_pos ⟨hp, by omega⟩]
  rfl
set_option maxRecDepth 100000 in
set_option maxHeartbeats 3200000 in
theorem fnMac_main (a0 : Option Addr) (len0 cap0 : Nat) (a1 : Option Addr) (len1 cap1 : Nat) (w : World) (hl0 : len0 ≤ 1048576) (hl1 : len1 ≤ 1048576) (hb0 : BytesIn w w.heap.size a0 len0) (hb1 : BytesIn w w.heap.size a1 len1) (htab : Tab w) (hz : 0 < w.heap.size) :
    Calls Tryd.prog 3 #[.slice a0 len0 cap0, .slice a1 len1 cap1] w fun e w' => e = .returned (.bool true) ∧ Below w.heap.size w w' := by
  have HB0 := hide hb0
  have HB1 := hide hb1
  have HT := hide htab
  have hl0' : (len0 : Int) ≤ 1048576 := by omega
  have hl1' : (len1 : Int) ≤ 1048576 := by omega
  clear hb0 hb1 htab
  go_enter Tryd.func3, Tryd.ntmps3
  go_wp2_with fail
  refine (drawMac_any _ a0 len0 cap0 hl0 HB0.out).mono ?_
  rintro e w1 ⟨key, text, rfl, hk, ht, hG1⟩
  have B1 := hide (grownBy_toBelow hG1)
  clear hG1
  by_cases h64 : key.size ≤ 64
  · have h64' : (key.size : Int) ≤ 64 := by omega
    have ht' : (text.size : Int) ≤ 19936 := by omega
    have z1 := padT_size key 54
    have z2 := padT_size key 92
    have hin := hide (show digestS (padT key 54 ++ text) = digestT (padT key 54 ++ text) from if_pos (by rw [ByteArray.size_append, z1]; omega))
    have z3 := digestT_size (padT key 54 ++ text)
    have hout := hide (show digestS (padT key 92 ++ digestT (padT key 54 ++ text)) = macT key text by
      rw [show digestS (padT key 92 ++ digestT (padT key 54 ++ text)) = digestT (padT key 92 ++ digestT (padT key 54 ++ text)) from if_pos (by rw [ByteArray.size_append, z2, z3]; omega), macT, show keyT key = key from if_pos h64])
    have hmac := hide (show macS key text = macT key text from if_pos ⟨by omega, by omega⟩)
    go_wp2_with fail
    refine (law_padT key 54 54 rfl _ h64).mono ?_
    rintro e w2 ⟨rfl, hw2⟩
    have Bw2 := hide (below3 B1.out hw2)
    clear hw2 B1
    go_wp2_with fail
    refine (digest_at (padT key 54 ++ text) (digestT (padT key 54 ++ text)) w2 hin.out (HT.out.below Bw2.out hz) (by have := Bw2.out.size; omega)).mono ?_
    rintro e w3 ⟨rfl, hw3⟩
    have Bw3 := hide (below3 Bw2.out hw3)
    clear hw3 Bw2
    go_wp2_with fail
    refine (mac_at key text (macT key text) w3 hmac.out (HT.out.below Bw3.out hz) (by have := Bw3.out.size; omega)).mono ?_
    rintro e w4 ⟨rfl, hw4⟩
    have Bw4 := hide (below3 Bw3.out hw4)
    clear hw4 Bw3
    go_wp2_with fail
    refine (law_padT key 92 92 rfl _ h64).mono ?_
    rintro e w5 ⟨rfl, hw5⟩
    have Bw5 := hide (below3 Bw4.out hw5)
    clear hw5 Bw4
    go_wp2_with fail
    refine (digest_at (padT key 92 ++ digestT (padT key 54 ++ text)) (macT key text) w5 hout.out (HT.out.below Bw5.out hz) (by have := Bw5.out.size; omega)).mono ?_
    rintro e w6 ⟨rfl, hw6⟩
    have Bw6 := hide (below3 Bw5.out hw6)
    clear hw6 Bw5
    go_wp2_with fail
    clear z1 z2 hin hout hmac h64' ht'
    refine (drawDigest_any _ a1 len1 cap1 hl1 (HB1.out.below Bw6.out (Nat.le_refl _) |>.mono (by have := Bw6.out.size; omega))).mono ?_
    rintro e wA ⟨t, rfl, htA, hGA⟩
    have BwA := hide (below3 Bw6.out (grownBy_toBelow hGA))
    clear hGA Bw6
    go_wp2_with fail
    refine (drawStretch_any _ a1 len1 cap1 hl1 (HB1.out.below BwA.out (Nat.le_refl _) |>.mono (by have := BwA.out.size; omega))).mono ?_
    rintro e wC ⟨pass, n, rfl, hp, n0, n1, hGC⟩
    have BwC := hide (below3 BwA.out (grownBy_toBelow hGC))
    clear hGC BwA
    go_wp2_with fail
    refine (digest_at t (digestS t) wC rfl (HT.out.below BwC.out hz) (by have := BwC.out.size; omega)).mono ?_
    rintro e wD ⟨rfl, hwD⟩
    have BwD := hide (below3 BwC.out hwD)
    clear hwD BwC
    go_wp2_with fail
    refine (spec_digest t _ (by omega)).mono ?_
    rintro e wE ⟨rfl, hwE⟩
    have BwE := hide (below3 BwD.out hwE)
    clear hwE BwD
    go_wp2_with fail
    refine (stretch_at pass n (stretchS pass n) wE rfl (HT.out.below BwE.out hz) (by have := BwE.out.size; omega)).mono ?_
    rintro e wF ⟨rfl, hwF⟩
    have BwF := hide (below3 BwE.out hwF)
    clear hwF BwE
    go_wp2_with fail
    refine (spec_stretch pass n _).mono ?_
    rintro e wG ⟨rfl, hwG⟩
    have BwG := hide (below3 BwF.out hwG)
    clear hwG BwF
    by_cases hn1 : n < 1
    · go_wp2_with fail
      go_ret
      exact ⟨rfl, BwG.out⟩
    by_cases hn2 : 99 < n
    · go_wp2_with fail
      go_ret
      exact ⟨rfl, BwG.out⟩
    have hE := hide (stretch_next pass n (by omega) (by omega) (by omega))
    go_wp2_with fail
    refine (stretch_at pass (n + 1) (stretchS pass (n + 1)) wG rfl (HT.out.below BwG.out hz) (by have := BwG.out.size; omega)).mono ?_
    rintro e wH ⟨rfl, hwH⟩
    have BwH := hide (below3 BwG.out hwH)
    clear hwH BwG
    go_wp2_with fail
    refine (stretch_at pass n (stretchS pass n) wH rfl (HT.out.below BwH.out hz) (by have := BwH.out.size; omega)).mono ?_
    rintro e wI ⟨rfl, hwI⟩
    have BwI := hide (below3 BwH.out hwI)
    clear hwI BwH
    go_wp2_with fail
    refine (mac_at pass (stretchS pass n) (stretchS pass (n + 1)) wI hE.out.symm (HT.out.below BwI.out hz) (by have := BwI.out.size; omega)).mono ?_
    rintro e wJ ⟨rfl, hwJ⟩
    have BwJ := hide (below3 BwI.out hwJ)
    clear hwJ BwI
    go_wp2_with fail
    go_ret
    exact ⟨rfl, BwJ.out⟩
  · have h64' : ¬ (key.size : Int) ≤ 64 := by omega
    go_wp2_with fail
    refine (drawDigest_any _ a1 len1 cap1 hl1 (HB1.out.below B1.out (Nat.le_refl _) |>.mono (by have := B1.out.size; omega))).mono ?_
    rintro e wA ⟨t, rfl, htA, hGA⟩
    have BwA := hide (below3 B1.out (grownBy_toBelow hGA))
    clear hGA B1
    go_wp2_with fail
    refine (drawStretch_any _ a1 len1 cap1 hl1 (HB1.out.below BwA.out (Nat.le_refl _) |>.mono (by have := BwA.out.size; omega))).mono ?_
    rintro e wC ⟨pass, n, rfl, hp, n0, n1, hGC⟩
    have BwC := hide (below3 BwA.out (grownBy_toBelow hGC))
    clear hGC BwA
    go_wp2_with fail
    refine (digest_at t (digestS t) wC rfl (HT.out.below BwC.out hz) (by have := BwC.out.size; omega)).mono ?_
    rintro e wD ⟨rfl, hwD⟩
    have BwD := hide (below3 BwC.out hwD)
    clear hwD BwC
    go_wp2_with fail
    refine (spec_digest t _ (by omega)).mono ?_
    rintro e wE ⟨rfl, hwE⟩
    have BwE := hide (below3 BwD.out hwE)
    clear hwE BwD
    go_wp2_with fail
    refine (stretch_at pass n (stretchS pass n) wE rfl (HT.out.below BwE.out hz) (by have := BwE.out.size; omega)).mono ?_
    rintro e wF ⟨rfl, hwF⟩
    have BwF := hide (below3 BwE.out hwF)
    clear hwF BwE
    go_wp2_with fail
    refine (spec_stretch pass n _).mono ?_
    rintro e wG ⟨rfl, hwG⟩
    have BwG := hide (below3 BwF.out hwG)
    clear hwG BwF
    by_cases hn1 : n < 1
    · go_wp2_with fail
      go_ret
      exact ⟨rfl, BwG.out⟩
    by_cases hn2 : 99 < n
    · go_wp2_with fail
      go_ret
      exact ⟨rfl, BwG.out⟩
    have hE := hide (stretch_next pass n (by omega) (by omega) (by omega))
    go_wp2_with fail
    refine (stretch_at pass (n + 1) (stretchS pass (n + 1)) wG rfl (HT.out.below BwG.out hz) (by have := BwG.out.size; omega)).mono ?_
    rintro e wH ⟨rfl, hwH⟩
    have BwH := hide (below3 BwG.out hwH)
    clear hwH BwG
    go_wp2_with fail
    refine (stretch_at pass n (stretchS pass n) wH rfl (HT.out.below BwH.out hz) (by have := BwH.out.size; omega)).mono ?_
    rintro e wI ⟨rfl, hwI⟩
    have BwI := hide (below3 BwH.out hwI)
    clear hwI BwH
    go_wp2_with fail
    refine (mac_at pass (stretchS pass n) (stretchS pass (n + 1)) wI hE.out.symm (HT.out.below BwI.out hz) (by have := BwI.out.size; omega)).mono ?_
    rintro e wJ ⟨rfl, hwJ⟩
    have BwJ := hide (below3 BwI.out hwJ)
    clear hwJ BwI
    go_wp2_with fail
    go_ret
    exact ⟨rfl, BwJ.out⟩
set_option maxRecDepth 100000 in
set_option maxHeartbeats 400000 in
theorem fnMac_walk (a0 : Option Addr) (len0 cap0 : Nat) (z0 : List Int) (a1 : Option Addr) (len1 cap1 : Nat) (z1 : List Int) (w : World) (w0 : IsRow .u8 w a0 len0 cap0 z0) (w1 : IsRow .u8 w a1 len1 cap1 z1) (htab : Tab w) (hz : 0 < w.heap.size) :
    Calls Tryd.prog 3 #[.slice a0 len0 cap0, .slice a1 len1 cap1] w fun e w' => e = .returned (.bool true) ∧ Below w.heap.size w w' := by
  have h0 := row_len w0
  have h1 := row_len w1
  by_cases hl0 : 1048576 < len0
  · have hl0' : 1048576 < (len0 : Int) := by omega
    clear w0 w1 htab
    go_enter Tryd.func3, Tryd.ntmps3
    go_wp2_with fail
    go_ret
    exact ⟨rfl, Below.refl _ _⟩
  by_cases hl1 : 1048576 < len1
  · have hl0' : (len0 : Int) ≤ 1048576 := by omega
    have hl1' : 1048576 < (len1 : Int) := by omega
    clear w0 w1 htab
    go_enter Tryd.func3, Tryd.ntmps3
    go_wp2_with fail
    go_ret
    exact ⟨rfl, Below.refl _ _⟩
  exact fnMac_main a0 len0 cap0 a1 len1 cap1 w (by omega) (by omega) (bytesIn_of_row w0) (bytesIn_of_row w1) htab hz
end Go.Proofs.YtiiefapcbegilaaDoor

/- Put together: JoinedI, JoinedT, SealPk, Bits, PutNumI, KeyW, SealPn, SealPr. -/
import Derived.Test.YtconcnndghmdfaaGreatDoorSc26
import Derived.Test.YtconcnndghmdfaaGreatDoorSc3
import Derived.WalkKit
import Derived.WalkSpells
import Derived.Test.YtconcnndghmdfaaGreatDoorSc15
import Derived.BigRegion
import Derived.Laws.BitsLemmas
import Derived.Laws.Bits64
import Derived.Laws.Bits64b
import Derived.Test.YtconcnndghmdfaaGreatDoorSc10
import Derived.Test.YtconcnndghmdfaaGreatDoorSc1
import Derived.Test.YtconcnndghmdfaaGreatDoorSc22
import Derived.Test.YtconcnndghmdfaaGreatDoorSc18
import Derived.BigQuiet
import Derived.WalkSmall
namespace Go.Proofs.YtconcnndghmdfaaGreatDoor
open Go.RowKit Go

theorem Tryz.infoJ8 : (Tryz.prog.info? 5).map (fun i => (i.zero, i.size, i.bytes)) = some (some (.int .u8 0), 1, 1) := by kernel_rfl
theorem Tryz.sizeB8 : (Tryz.prog.info? 5).map (·.size) = some 1 := by kernel_rfl

theorem made_row {w : World} {B e g n : Nat} {xs : List Value} (h : w.ownsRow B e 1 (.slice (some ⟨g, 0, none⟩) n n) n xs) : ∃ cur : List Value, Hid (w.heap[g]? = some (.cells cur.toArray e (0, 0))) ∧ cur.length = n := by
  obtain ⟨_, ⟨h1, _⟩ | ⟨g', cap, cur, h1, _, hh, _, _, hs, _⟩⟩ := h
  · cases h1
  · simp at h1
    obtain ⟨rfl, rfl⟩ := h1
    exact ⟨cur.toList, by simpa [Hid] using hh, by simpa using hs⟩

theorem splice_step {k tot : Nat} {ss : List ByteArray} {sk : ByteArray} {cur : List Value} (htk : Hid (cur.take (catB (ss.take k)).length = (catB (ss.take k)).map byteV)) (HT : Hid (catB (ss.take (k + 1)) = catB (ss.take k) ++ sk.data.toList))
    (hs : (catB (ss.take k)).length + sk.size ≤ tot) (hcur : cur.length = tot) :
    (splice cur (catB (ss.take k)).length (sk.data.toList.map byteV)).length = tot ∧ Hid ((splice cur (catB (ss.take k)).length (sk.data.toList.map byteV)).take (catB (ss.take (k + 1))).length = (catB (ss.take (k + 1))).map byteV) := by
  have hsize : sk.data.toList.length = sk.size := by simp
  constructor
  · rw [length_splice _ _ _ (by simp; omega), hcur]
  · show _ = _
    have htk' : cur.take (catB (ss.take k)).length = (catB (ss.take k)).map byteV := htk
    rw [HT.out]
    unfold splice
    rw [htk', List.map_append, ← List.append_assoc]
    exact List.take_left' (by simp)

theorem join_end {P : Program} {w : World} {g e src dst tot : Nat} {ss : List ByteArray} {cur : List Value} (ht : tot = (catB ss).length) (hrow : Hid (w.heap[g]? = some (.cells cur.toArray e (0, 0)))) (hcur : cur.length = tot)
    (htk : Hid (cur.take (catB ss).length = (catB ss).map byteV)) (hs : P.underlying src = some (.slice e)) (he : P.underlying e = some (.int .u8)) (hd : P.underlying dst = some .string) :
    (convert src dst (.slice (some ⟨g, 0, none⟩) tot tot)).run P w = .ok (.string ⟨(catB ss).toArray⟩) w := by
  subst ht
  have hc : cur = (catB ss).map byteV := by rw [← htk.out, List.take_of_length_le (by omega)]
  subst hc
  refine run_convert_bytes_back w src dst e ⟨g, 0, none⟩ (catB ss).length (catB ss) hs he hd (fun j hj => ?_)
  have e1 : (⟨g, 0, none⟩ : Addr).add j = ⟨g, j, none⟩ := by by_cases hz : j = 0 <;> simp [Addr.add, hz]
  rw [e1]
  simp [World.cell?, hrow.out, hj, byteV]

set_option maxRecDepth 100000 in
set_option maxHeartbeats 400000 in
theorem joined_any (b : Nat) (ss : List ByteArray) (w : World) (hc : ∀ j (hj : j < ss.length), w.cell? ⟨b, j, none⟩ = some (.string ss[j])) (hbw : b < w.heap.size) (hn : ss.length ≤ 1000) (ht : (catB ss).length ≤ 1099511627776) :
    Calls Tryz.prog 47 #[.slice (some ⟨b, 0, none⟩) ss.length ss.length] w fun e w' => e = .returned (.string ⟨(catB ss).toArray⟩) ∧ Below w.heap.size w w' := by
  obtain ⟨i0, hi, hz0, hz1, hz2⟩ := info_parts Tryz.infoJ8
  go_enter Tryz.func47, Tryz.ntmps47
  obtain ⟨tot, htot⟩ : ∃ n, n = (catB ss).length := ⟨_, rfl⟩
  have ht' : tot ≤ 1099511627776 := by omega
  have hso := hide (sizeOf_any b ss w hc hn (by omega))
  rw [← htot] at hso
  have HT0 := hide htot
  clear htot
  go_wp2_with fail
  refine (hso.out).mono ?_
  rintro e w0 ⟨rfl, rfl⟩
  go_wp2_with (at_make; refine wpList_make_full _ rfl _ _ 22 rfl w0.heap.size 5 i0 (.int .u8 0) 1 Tryz.underlying22 hi hz0 hz1 .i64 .i64 _ _ tot rfl rfl rfl rfl ?m1 ?m2 (Nat.le_refl _) ?_)
  case m1 => rw [hz2]; omega
  case m2 => unfold maxLen; omega
  intro w1 hown hgrow
  obtain ⟨cur0, hrow0, hcur0⟩ := made_row hown
  have hb1 : Below w0.heap.size w0 w1 := (Below.refl _ _).grown hgrow (Nat.le_refl _) (fun k hk => by cases hk)
  clear hown hgrow
  go_wp2_with fail
  go_loopw [4, 12] (fun a i wr => ∃ (k : Nat) (cur : List Value), k ≤ ss.length ∧ i = .int .i64 k ∧ a = .int .i64 ((catB (ss.take k)).length : Nat) ∧ Hid (wr.heap[w0.heap.size]? = some (.cells cur.toArray 5 (0, 0))) ∧ cur.length = tot ∧ Hid (cur.take (catB (ss.take k)).length = (catB (ss.take k)).map byteV) ∧ Below w0.heap.size w0 wr) (fun _ i _ => ss.length - (intOf i).toNat)
  case atStart => exact ⟨0, cur0, by omega, rfl, rfl, hrow0, hcur0, rfl, hb1⟩
  case round =>
    obtain ⟨k, cur, hk, rfl, rfl, hrow, hcur, htk, hb2⟩ := hrel
    have hle : (catB (ss.take k)).length ≤ tot := by rw [unhide HT0]; exact catB_le ss k
    by_cases hlt : k < ss.length
    · have hck : wr.cell? ⟨b, k, none⟩ = some (.string ss[k]) := (hb2.cell (by exact hbw)).trans (hc k hlt)
      have hl := catB_len ss k hlt
      have hl2 := catB_le ss (k + 1)
      have hs : (catB (ss.take k)).length + ss[k].size ≤ tot := by rw [unhide HT0]; omega
      have HL := hide hl
      have HT := hide (catB_take ss k hlt)
      clear hl hl2 hc ht
      generalize ss[k] = sk at *
      have R := hide (splice_step htk HT hs hcur)
      generalize hat : (catB (ss.take k)).length = at0 at *
      have HC := hide hcur
      clear hat htk hcur HT0
      rcases (show at0 < tot ∨ at0 = tot from by omega) with hlt2 | rfl
      · have hne : ¬ tot = at0 := by omega
        go_wp2_with (refine wpList_copy_str rfl _ _ 22 9 rfl 5 Tryz.underlying22 Tryz.sizeB8 _ _ _ rfl sk rfl w0.heap.size at0 cur 5 hrow.out (by omega) (fun _ => by simp) (by rw [unhide HC]; omega) w0.heap.size w0 hb2 (Nat.le_refl _) ?_)
        intro w2 hrow2 hb3
        clear hrow hb2 hck
        go_wp2_with fail
        go_roundw
        case rel => exact ⟨k + 1, _, by omega, by go_num, by rw [unhide HL]; go_num, hrow2, R.out.1, R.out.2, hb3⟩
        case measure => simp [intOf]; omega
      · have hz : sk.size = 0 := by omega
        go_wp2_with (refine wpList_copy_str rfl _ _ 22 9 rfl 5 Tryz.underlying22 Tryz.sizeB8 _ _ _ rfl sk rfl w0.heap.size at0 cur 5 hrow.out (by omega) (fun _ => by omega) (by rw [unhide HC]; omega) w0.heap.size w0 hb2 (Nat.le_refl _) ?_)
        intro w2 hrow2 hb3
        clear hrow hb2 hck
        go_wp2_with fail
        go_roundw
        case rel => exact ⟨k + 1, _, by omega, by go_num, by rw [unhide HL]; go_num, hrow2, R.out.1, R.out.2, hb3⟩
        case measure => simp [intOf]; omega
    · have hkn : k = ss.length := by omega
      have hcv := join_end (P := Tryz.prog) (unhide HT0) hrow hcur (by rw [hkn, List.take_length] at htk; exact htk) Tryz.underlying22 Tryz.underlying5 Tryz.underlying9
      clear hkn htk hcur hrow hc
      go_wp2
      go_ret
      exact ⟨rfl, hb2⟩
end Go.Proofs.YtconcnndghmdfaaGreatDoor
namespace Go.Proofs.YtconcnndghmdfaaGreatDoor
open Go.RowKit

theorem cat_one (s : ByteArray) : (⟨(catB [s]).toArray⟩ : ByteArray) = s := by
  apply ByteArray.ext; simp [catB]
theorem cat_two (s t : ByteArray) : (⟨(catB [s, t]).toArray⟩ : ByteArray) = s ++ t := by
  apply ByteArray.ext; simp [catB]

theorem joined_one (s : ByteArray) (w : World) (b : Nat) (hbw : b = w.heap.size) (h : s.size ≤ 1099511627776) :
    Calls Tryz.prog 47 #[.slice (some ⟨b, 0, none⟩) 1 1] (w.alloc (.cells #[.string s] 9)) fun e w' => e = .returned (.string s) ∧ Below w.heap.size w w' := by
  subst hbw
  refine (joined_any w.heap.size [s] (w.alloc (.cells #[.string s] 9)) ?_ (by simp) (by simp) (by simpa [catB] using h)).mono ?_
  · intro j hj
    match j, hj with
    | 0, _ => simp
  · rintro e w' ⟨rfl, hb⟩
    exact ⟨by rw [cat_one], ((Below.refl w.heap.size w).alloc (Nat.le_refl _) _).trans (hb.mono (by simp))⟩
theorem joined_two (s t : ByteArray) (w : World) (b : Nat) (hbw : b = w.heap.size) (h : s.size + t.size ≤ 1099511627776) :
    Calls Tryz.prog 47 #[.slice (some ⟨b, 0, none⟩) 2 2] (w.alloc (.cells #[.string s, .string t] 9)) fun e w' => e = .returned (.string (s ++ t)) ∧ Below w.heap.size w w' := by
  subst hbw
  refine (joined_any w.heap.size [s, t] (w.alloc (.cells #[.string s, .string t] 9)) ?_ (by simp) (by simp) (by simpa [catB] using h)).mono ?_
  · intro j hj
    match j, hj with
    | 0, _ => simp
    | 1, _ => simp
  · rintro e w' ⟨rfl, hb⟩
    exact ⟨by rw [cat_two], ((Below.refl w.heap.size w).alloc (Nat.le_refl _) _).trans (hb.mono (by simp))⟩
end Go.Proofs.YtconcnndghmdfaaGreatDoor
namespace Go.Proofs.YtconcnndghmdfaaGreatDoor
open Go.RowKit Go
set_option maxRecDepth 100000 in
set_option maxHeartbeats 800000 in
theorem imp_macOf (H M body : ByteArray) (w : World) (hM : M.size ≤ 20000) (hb : body.size ≤ 20000) (htab : Tab w) :
    Calls Tryz.prog 48 #[.agg #[.string H, .string M], .string body] w fun e w' => e = .returned (.string (take16 (macT M body))) ∧ Below w.heap.size w w' := by
  have HX := macT_size M body
  have S := hide (imp_macT M body (w.alloc (.cells #[.string H, .string M] 24)) hM hb (htab.alloc _))
  have E := hide (show take16 (macT M body) = (macT M body).extract 0 16 from rfl)
  have hsl : ∀ W : World, (Instr.slice 9 (.string (macT M body)) none (some (.int .i64 16)) none).run Tryz.prog W = .ok (.string ((macT M body).extract 0 16)) W := fun W => run_front (P := Tryz.prog) W 9 (macT M body) 16 Tryz.underlying9 (by rw [HX]; decide)
  have hX' : (16 : Int) ≤ ((macT M body).size : Int) := by rw [HX]; decide
  have q0 := hide ((Below.refl w.heap.size w).alloc (Nat.le_refl _) (.cells #[.string H, .string M] 24))
  generalize macT M body = X at *
  clear HX htab hM hb
  go_enter Tryz.func48, Tryz.ntmps48
  go_wp2_with fail
  refine S.out.mono ?_
  rintro e w1 ⟨rfl, hb1⟩
  have HB := hide (q0.out.trans (hb1.mono (by simp)))
  clear hb1 S
  go_wp2_with fail
  go_ret
  exact ⟨by rw [E.out]; first | done | rfl, HB.out⟩
theorem cat_three (a b c : ByteArray) : (⟨(catB [a, b, c]).toArray⟩ : ByteArray) = a ++ b ++ c := by
  apply ByteArray.ext; simp [catB]
set_option maxRecDepth 100000 in
set_option maxHeartbeats 800000 in
theorem imp_sealed (H M a b c : ByteArray) (B : Nat) (w : World) (hM : M.size ≤ 20000) (hs : (a ++ b ++ c).size ≤ 20000) (htab : Tab w) (hc : w.heap[B]? = some (.cells #[.string a, .string b, .string c] 9 (0, 0))) :
    Calls Tryz.prog 27 #[.agg #[.string H, .string M], .slice (some ⟨B, 0, none⟩) 3 3] w fun e w' => e = .returned (.string (a ++ b ++ c ++ take16 (macT M (a ++ b ++ c)))) ∧ Below w.heap.size w w' := by
  have hB : B < w.heap.size := (Array.getElem?_eq_some_iff.1 hc).1
  have hl : (catB [a, b, c]).length ≤ 1099511627776 := by
    have e : (⟨(catB [a, b, c]).toArray⟩ : ByteArray).size = (catB [a, b, c]).length := size_mk _
    rw [cat_three] at e
    omega
  have hw : ∀ W, Below w.heap.size w W → W.heap[B]? = some (.cells #[.string a, .string b, .string c] 9 (0, 0)) := fun W h => (h.block B hB).trans hc
  have q0 := (Below.refl w.heap.size w).alloc (Nat.le_refl _) (.cells #[.string H, .string M] 24)
  have S1 := joined_any B [a, b, c] (w.alloc (.cells #[.string H, .string M] 24)) (fun j hj => by
    have h := hw _ q0
    match j, hj with
    | 0, _ => simp [World.cell?, h]
    | 1, _ => simp [World.cell?, h]
    | 2, _ => simp [World.cell?, h]) (by simp; omega) (by simp) hl
  rw [cat_three] at S1
  generalize a ++ b ++ c = T at *
  have S1 : Calls Tryz.prog 47 #[.slice (some ⟨B, 0, none⟩) 3 3] (w.alloc (.cells #[.string H, .string M] 24)) fun e w' => e = .returned (.string T) ∧ Below (w.alloc (.cells #[.string H, .string M] 24)).heap.size (w.alloc (.cells #[.string H, .string M] 24)) w' := S1
  have S1 := hide S1
  have S2 := hide (fun W (h : Tab W) => imp_macOf H M T W hM hs h)
  have h16 : (take16 (macT M T)).size = 16 := take16_size _ (by rw [macT_size]; decide)
  have S3 := hide (fun W b hb => joined_two T (take16 (macT M T)) W b hb (by omega))
  generalize take16 (macT M T) = X at *
  have HT := hide htab
  have Q0 := hide q0
  clear hw q0 hc hl htab
  go_enter Tryz.func27, Tryz.ntmps27
  go_wp2_with fail
  refine S1.out.mono ?_
  rintro e w1 ⟨rfl, hb1⟩
  simp at hb1
  have c0 := (keys_cells hb1 (Nat.lt_succ_self _) (heap_alloc_new w _)).1
  have c1 := (keys_cells hb1 (Nat.lt_succ_self _) (heap_alloc_new w _)).2.1
  have hB1 : Below w.heap.size w w1 := Q0.out.trans (hb1.mono (Nat.le_succ _))
  have HB := hide hB1
  have HT1 := hide (HT.out.low hB1)
  clear hb1 hB1 S1
  go_wp2_with fail
  refine (S2.out _ HT1.out).mono ?_
  rintro e w2 ⟨rfl, hb2⟩
  have HB2 := hide (HB.out.trans (hb2.mono HB.out.size))
  clear hb2 S2 c0 c1
  go_wp2_with fail
  refine (S3.out w2 _ rfl).mono ?_
  rintro e w3 ⟨rfl, hb3⟩
  have HB3 := hide (HB2.out.trans (hb3.mono HB2.out.size))
  clear hb3 S3
  go_wp2_with fail
  go_ret
  exact ⟨rfl, HB3.out⟩
end Go.Proofs.YtconcnndghmdfaaGreatDoor
namespace Go.Proofs.YtconcnndghmdfaaGreatDoor
open Go

theorem wraps64 (n : Int) (h₀ : 0 ≤ n) (h₁ : n < 2 ^ 64) : IntKind.u64.wrap n = n := by rw [IntKind.wrap_u64]; omega
theorem u64_and127 (x : Int) (h₀ : 0 ≤ x) (h₁ : x < 18446744073709551616) : bits .and .u64 x 127 = x % 128 := bits_mask .u64 64 (by decide) wraps64 7 (by decide) x h₀ h₁
theorem u8_or_128 (x : Int) (h₀ : 0 ≤ x) (h₁ : x < 128) : bits .or .u8 x 128 = x + 128 := by
  obtain ⟨a, rfl⟩ := Int.eq_ofNat_of_zero_le h₀
  have ha : a < 128 := by omega
  rw [show (128 : Int) = ((128 : Nat) : Int) from rfl, (bits_nat .u8 8 (by decide) wraps_u8 a 128 (by omega) (by decide)).2]
  have h := Nat.two_pow_add_eq_or_of_lt (i := 7) ha 1
  rw [Nat.or_comm]
  have e : (2 : Nat) ^ 7 * 1 = 128 := by decide
  rw [e] at h
  rw [← h]; omega

theorem xor_ones (a : Nat) (ha : a < 18446744073709551616) : a ^^^ 18446744073709551615 = 18446744073709551615 - a := by
  have h1 : (BitVec.ofNat 64 a ^^^ BitVec.allOnes 64).toNat = (~~~ (BitVec.ofNat 64 a)).toNat := by rw [BitVec.xor_allOnes]
  rw [BitVec.toNat_xor, BitVec.toNat_not, BitVec.toNat_ofNat, BitVec.toNat_allOnes] at h1
  have e : a % 2 ^ 64 = a := Nat.mod_eq_of_lt (by omega)
  rw [e] at h1
  have e2 : (2 : Nat) ^ 64 - 1 = 18446744073709551615 := by decide
  rw [e2] at h1
  exact h1

/-- Twice n, its bits turned below 0. -/
theorem zig (n : Int) (h1 : -9223372036854775808 ≤ n) (h2 : n ≤ 9223372036854775807) :
    bits .xor .u64 (IntKind.u64.wrap (IntKind.u64.wrap n * 2)) (IntKind.u64.wrap (n / 9223372036854775808)) = (foldNum n : Int) := by
  simp only [IntKind.wrap_u64]
  by_cases h : n < 0
  · have e1 : (n % 18446744073709551616 * 2) % 18446744073709551616 = ((2 * n + 18446744073709551616).toNat : Int) := by omega
    have e2 : (n / 9223372036854775808) % 18446744073709551616 = ((18446744073709551615 : Nat) : Int) := by omega
    rw [e1, e2, bits_xor_u64_nat _ _ (by omega) (by omega), xor_ones _ (by omega)]
    unfold foldNum; rw [if_pos h]; omega
  · have e1 : (n % 18446744073709551616 * 2) % 18446744073709551616 = ((2 * n).toNat : Int) := by omega
    have e2 : (n / 9223372036854775808) % 18446744073709551616 = ((0 : Nat) : Int) := by omega
    rw [e1, e2, bits_xor_u64_nat _ _ (by omega) (by omega), Nat.xor_zero]
    unfold foldNum; rw [if_neg h]
end Go.Proofs.YtconcnndghmdfaaGreatDoor
namespace Go.Proofs.YtconcnndghmdfaaGreatDoor
open Go.RowKit
set_option maxRecDepth 100000 in
set_option maxHeartbeats 400000 in
theorem impl_putNum (n : Int) (w : World) (h1 : -9223372036854775808 ≤ n) (h2 : n ≤ 9223372036854775807) :
    Calls Tryz.prog 28 #[.int .i64 n] w fun e w' => e = .returned (.string ⟨(encNum (foldNum n)).toArray⟩) ∧ Below w.heap.size w w' := by
  have hm := fold_le n h1 h2
  have hz := zig n h1 h2
  obtain ⟨i0, hi, hz0, hz1, hz2⟩ := info_parts Tryz.infoU8
  go_enter Tryz.func28, Tryz.ntmps28
  go_wp2_with fail
  go_loopw [3, 4] (fun u v wr => ∃ (U : Nat) (done : List UInt8), (U : Int) ≤ 18446744073709551615 ∧ u = .int .u64 U ∧ Hid (done ++ encNum U = encNum (foldNum n)) ∧ wr.ownsRow w.heap.size 5 1 v done.length (done.map byteV) ∧ Below w.heap.size w wr) (fun u _ _ => (intOf u).toNat)
  case atStart => exact ⟨foldNum n, [], by omega, by first | rfl | rw [hz], rfl, World.ownsRow_nil _ _ _ _, Below.refl _ _⟩
  case round =>
    obtain ⟨U, done, hU, rfl, hd, hown, hb⟩ := hrel
    have hl := len_le hd.out hm
    have hs := hb.size
    have hm7 := u64_and127 U (by omega) (by omega)
    have ho7 := u8_or_128 ((U : Int) % 128) (by omega) (by omega)
    clear hm hz
    by_cases hlt : U < 128
    · go_wp2_with (at_builtin; refine wpList_append_own _ rfl _ _ 22 rfl w.heap.size 5 i0 (.int .u8 0) 1 1 Tryz.underlying22 hi hz0 hz1 hz2 rfl (by decide) _ _ _ rfl (hown.alloc _) ⟨wr.heap.size, 0, none⟩ 1 1 [.int .u8 (U : Int)] rfl rfl (one_cell _ _ _) (one_oneCell _ _) ?c3 ?c4 ?c5 ?_)
      case c3 => unfold maxLen; omega
      case c4 => omega
      case c5 => simp; omega
      intro v' w1 hown' hgrow _
      have R := last_step hlt hd.out hown hown' hgrow hb
      clear hown hown' hgrow hb
      obtain ⟨g, cap, rfl, hcv, hb'⟩ := R
      have hcv := hcv Tryz.prog 22 9 Tryz.underlying22 Tryz.underlying5 Tryz.underlying9
      go_wp2
      go_ret
      exact ⟨rfl, hb'⟩
    · go_wp2_with (at_builtin; refine wpList_append_own _ rfl _ _ 22 rfl w.heap.size 5 i0 (.int .u8 0) 1 1 Tryz.underlying22 hi hz0 hz1 hz2 rfl (by decide) _ _ _ rfl (hown.alloc _) ⟨wr.heap.size, 0, none⟩ 1 1 [.int .u8 ((U : Int) % 128 + 128)] rfl rfl (one_cell _ _ _) (one_oneCell _ _) ?d3 ?d4 ?d5 ?_)
      case d3 => unfold maxLen; omega
      case d4 => omega
      case d5 => simp; omega
      intro v' w1 hown' hgrow _
      have R := more_step hlt hd.out hown hown' hgrow hb
      clear hown hown' hgrow hb
      go_wp2
      go_roundw
      case rel => exact ⟨U / 128, _, by omega, by go_num, R.1, R.2.1, R.2.2⟩
      case measure => simp [intOf]; omega
end Go.Proofs.YtconcnndghmdfaaGreatDoor
namespace Go.Proofs.YtconcnndghmdfaaGreatDoor
open Go.RowKit
/-- Where the keys' block stands, and all that was there before. -/
structure KeyW (w : World) (H M : ByteArray) (w2 : World) : Prop where
  b : Below (w.heap.size + 1) (w.alloc (.cells #[.string H, .string M] 24)) w2
theorem KeyW.size {w w2 : World} {H M : ByteArray} (h : KeyW w H M w2) : w.heap.size + 1 ≤ w2.heap.size := by have := h.b.size; simpa using this
theorem KeyW.call {w w1 w2 : World} {H M : ByteArray} (h : KeyW w H M w1) (hb : Below w1.heap.size w1 w2) : KeyW w H M w2 := ⟨h.b.trans (hb.mono h.size)⟩
theorem KeyW.call' {w w1 w2 : World} {H M : ByteArray} (h : KeyW w H M w1) (hb : Below w1.drew.heap.size w1.drew w2) : KeyW w H M w2 := ⟨h.b.drew.trans (hb.mono h.size)⟩
theorem KeyW.c0 {w w2 : World} {H M : ByteArray} (h : KeyW w H M w2) : w2.cell? ⟨w.heap.size, 0, none⟩ = some (.string H) := (keys_cells h.b (Nat.lt_succ_self _) (heap_alloc_new w _)).1
theorem KeyW.c1 {w w2 : World} {H M : ByteArray} (h : KeyW w H M w2) : w2.cell? ⟨w.heap.size, 1, none⟩ = some (.string M) := (keys_cells h.b (Nat.lt_succ_self _) (heap_alloc_new w _)).2.1
theorem KeyW.alloc {w w1 : World} {H M : ByteArray} (h : KeyW w H M w1) (o : Obj) : KeyW w H M (w1.alloc o) := ⟨h.b.alloc h.size o⟩
theorem KeyW.drew {w w1 : World} {H M : ByteArray} (h : KeyW w H M w1) : KeyW w H M w1.drew := ⟨h.b.drew⟩
theorem KeyW.low {w w2 : World} {H M : ByteArray} (h : KeyW w H M w2) : Below w.heap.size w w2 := ((Below.refl _ _).alloc (Nat.le_refl _) _).trans (h.b.mono (Nat.le_succ _))
theorem KeyW.one {w w1 : World} {H M : ByteArray} (h : Below (w.alloc (.cells #[.string H, .string M] 24)).heap.size (w.alloc (.cells #[.string H, .string M] 24)) w1) : KeyW w H M w1 := ⟨by simpa using h⟩
end Go.Proofs.YtconcnndghmdfaaGreatDoor
namespace Go.Proofs.YtconcnndghmdfaaGreatDoor
open Go.RowKit Go
set_option maxRecDepth 100000 in
set_option maxHeartbeats 1600000 in
theorem imp_body_short (H M b : ByteArray) (w : World) (hs : b.size < 18) :
    Calls Tryz.prog 64 #[.agg #[.string H, .string M], .string b] w fun e w' => e = .panicked [{ v := faultP 4, recovered := false }] ∧ Below w.heap.size w w' := by
  have h' : ¬ 18 ≤ (b.size : Int) := by omega
  have d' : decide (18 ≤ (b.size : Int)) = false := decide_eq_false h'
  have q0 := hide ((Below.refl w.heap.size w).alloc (Nat.le_refl _) (.cells #[.string H, .string M] 24))
  have SD := hide (fun W => imp_demand_no 4 W)
  go_enter Tryz.func64, Tryz.ntmps64
  go_wp2_with fail
  refine (SD.out _).mono ?_
  rintro e w1 ⟨rfl, rfl⟩
  go_wp2_with fail
  exact ⟨rfl, rfl, q0.out⟩
set_option maxRecDepth 100000 in
set_option maxHeartbeats 3200000 in
theorem imp_body (H M b : ByteArray) (w : World) (htab : Tab w) (hM : M.size ≤ 20000) (hs : 18 ≤ b.size) (hb : b.size ≤ 20000) :
    Calls Tryz.prog 64 #[.agg #[.string H, .string M], .string b] w fun e w' => e = (if take16 (macT M (bodyX b)) = tailX b then .returned (.string (bodyX b)) else .panicked [{ v := faultP 10, recovered := false }]) ∧ Below w.heap.size w w' := by
  have h' : 18 ≤ (b.size : Int) := by omega
  have d' : decide (18 ≤ (b.size : Int)) = true := decide_eq_true h'
  obtain ⟨L, hL⟩ : ∃ L, b.size = L + 16 := ⟨b.size - 16, by omega⟩
  have hn : (b.size : Int) - 16 = (L : Int) := by omega
  have hbd : b.extract 0 L = bodyX b := by unfold bodyX; rw [show b.size - 16 = L by omega]
  have htl : b.extract L b.size = tailX b := by unfold tailX; rw [show b.size - 16 = L by omega]
  have hls : (bodyX b).size = L := by rw [bodyX_size]; omega
  have hsl1 : ∀ W : World, (Instr.slice 9 (.string b) none (some (.int .i64 (L : Int))) none).run Tryz.prog W = .ok (.string (bodyX b)) W := fun W => by rw [← hbd]; exact run_front (P := Tryz.prog) W 9 b L Tryz.underlying9 (by omega)
  have hsl2 : ∀ W : World, (Instr.slice 9 (.string b) (some (.int .i64 (L : Int))) none none).run Tryz.prog W = .ok (.string (tailX b)) W := fun W => by rw [← htl]; exact run_back (P := Tryz.prog) W 9 b L Tryz.underlying9 (by omega)
  have SM := hide (fun W (h : Tab W) => imp_macOf H M (bodyX b) W hM (by omega) h)
  have SD := hide (fun W => imp_demand_yes 4 W)
  have SE := hide (fun W => imp_demand_yes 10 W)
  have SN := hide (fun W => imp_demand_no 10 W)
  have HT := hide htab
  have HB0 : KeyW w H M (w.alloc (.cells #[.string H, .string M] 24)) := ⟨Below.refl _ _⟩
  have HB := hide HB0
  have c0 := HB0.c0
  have c1 := HB0.c1
  generalize take16 (macT M (bodyX b)) = X at *
  generalize bodyX b = BD at *
  generalize tailX b = TL at *
  clear hbd htl hls htab HB0 hL
  by_cases hX : X = TL
  · rw [if_pos hX]
    subst hX
    go_enter Tryz.func64, Tryz.ntmps64
    go_wp2_with fail
    refine (SD.out _).mono ?_
    rintro e w1 ⟨rfl, rfl⟩
    go_wp2_with fail
    go_quiet (fail)
    go_wp2_with fail
    refine (SM.out _ (HT.out.low (below_drewN HB.out.low nq))).mono ?_
    rintro e w2 ⟨rfl, hb2⟩
    have HB2 := hide (show KeyW w H M w2 from ⟨(below_drewN HB.out.b nq).trans (hb2.mono HB.out.size)⟩)
    clear hb2
    go_wp2_with fail
    refine (SE.out _).mono ?_
    rintro e w3 ⟨rfl, rfl⟩
    go_wp2_with fail
    go_ret
    exact ⟨rfl, HB2.out.low⟩
  · rw [if_neg hX]
    have hq2 : (X.toList == TL.toList) = false := by rw [list_beq, decide_eq_false hX]
    go_enter Tryz.func64, Tryz.ntmps64
    go_wp2_with fail
    refine (SD.out _).mono ?_
    rintro e w1 ⟨rfl, rfl⟩
    go_wp2_with fail
    go_quiet (fail)
    go_wp2_with fail
    refine (SM.out _ (HT.out.low (below_drewN HB.out.low nq))).mono ?_
    rintro e w2 ⟨rfl, hb2⟩
    have HB2 := hide (show KeyW w H M w2 from ⟨(below_drewN HB.out.b nq).trans (hb2.mono HB.out.size)⟩)
    clear hb2
    go_wp2_with fail
    refine (SN.out _).mono ?_
    rintro e w3 ⟨rfl, rfl⟩
    go_wp2_with fail
    exact ⟨rfl, rfl, HB2.out.low⟩
theorem numRet_at (t : ByteArray) (q : Nat) : (∃ n a : Int, numRet q (decAt t q) = .tuple #[.int .i64 n, .int .i64 a, .nilIface] ∧ (decAt t q).1 = 0 ∧ n = unfold (decAt t q).2.1 ∧ a = ((q + (decAt t q).2.2 : Nat) : Int)) ∨ (∃ c : Int, numRet q (decAt t q) = .tuple #[.int .i64 0, .int .i64 0, faultP c] ∧ ¬ (decAt t q).1 = 0) := by
  rcases decAt_form t q with ⟨U, m, h, hm⟩ | h | h <;> rw [h]
  · refine .inl ⟨unfold U, (q : Int) + m, by rw [numRet_good], rfl, rfl, ?_⟩
    show (q : Int) + (m : Int) = ((q + m : Nat) : Int); omega
  · exact .inr ⟨3, by rw [numRet_bad q 3 (by omega)]; rfl, by simp⟩
  · exact .inr ⟨4, by rw [numRet_bad q 4 (by omega)]; rfl, by simp⟩
set_option maxRecDepth 100000 in
set_option maxHeartbeats 3200000 in
theorem imp_hiddenOf (t : ByteArray) (id : Int) (w : World) (h0 : 0 ≤ id) (h1 : id ≤ 2000000) (ht : t.size ≤ 20000) :
    Calls Tryz.prog 63 #[.string t, .int .i64 id] w fun e w' => e = (if headOk t id then .returned (.tuple #[.int .i64 (farX t), .string (restX t)]) else .panicked [{ v := faultP 5, recovered := false }]) ∧ Below w.heap.size w w' := by
  have SN := hide (show ∀ W : World, Calls Tryz.prog 28 #[.int .i64 id] W fun e w' => e = .returned (.string (numB id)) ∧ Below W.heap.size W w' from fun W => impl_putNum id W (by omega) (by omega))
  have SP := hide (fun W => imp_cutPre t (numB id) W)
  have SD := hide (fun W => imp_demand_yes 5 W)
  have SE := hide (fun W => imp_demand_no 5 W)
  by_cases hf : inFront t (numB id)
  · obtain ⟨k1, k2, k3, k4, k5⟩ := front_yes t id h0 h1 hf
    rw [decide_eq_true hf] at SP
    have hcs : (cutT t (numB id)).size ≤ 20000 := by rw [k5, ByteArray.size_extract]; omega
    have SR0 : ∀ W : World, Calls Tryz.prog 99 #[.string (cutT t (numB id)), .int .i64 0] W fun e w' => e = .returned (numRet 0 (decAt (cutT t (numB id)) 0)) ∧ W = w' := fun W => impl_readNum (cutT t (numB id)) 0 W hcs (by decide)
    rcases numRet_at (cutT t (numB id)) 0 with ⟨n, a, e1, e2, e3, e4⟩ | ⟨c, e1, e2⟩
    · rw [e1] at SR0
      rw [k4] at e2 e3 e4
      have hm : fromX t = (numB id).size + (num2 t).2.2 := by unfold fromX; rw [k3]
      have hle := fromX_le t
      have hN : (numB id).size ≤ t.size := hf.1
      have hrx : (cutT t (numB id)).extract (num2 t).2.2 (cutT t (numB id)).size = restX t := by
        rw [k5, rest_cut, ← hm]; rfl
      have hsl : ∀ W : World, (Instr.slice 9 (.string (cutT t (numB id))) (some (.int .i64 a)) none none).run Tryz.prog W = .ok (.string (restX t)) W := fun W => by
        rw [e4, Nat.zero_add, ← hrx]; exact run_back (P := Tryz.prog) W 9 _ _ Tryz.underlying9 (by rw [k5, ByteArray.size_extract]; omega)
      have hfar : farX t = n := e3.symm
      have hok : headOk t id ↔ (0 ≤ n ∧ n ≤ 256) := by
        unfold headOk
        rw [← e3]
        exact ⟨fun h => ⟨h.2.2.2.1, h.2.2.2.2⟩, fun h => ⟨k1, e2, k2, h.1, h.2⟩⟩
      have SR := hide SR0
      clear SR0 e1 e2 e3 e4 hm hle hN hrx hcs k1 k2 k3 k4 k5 hf
      rw [hfar]
      generalize restX t = RX at *
      generalize cutT t (numB id) = CT at *
      by_cases hr : 0 ≤ n ∧ n ≤ 256
      · rw [if_pos (hok.2 hr)]
        have SF := hide (fun W => by have h := imp_farRight n W; rw [show farOk10 n = true by unfold farOk10; simp; exact hr] at h; exact h)
        clear hok hr hfar
        go_enter Tryz.func63, Tryz.ntmps63
        go_wp2_with fail
        refine (SN.out _).mono ?_
        rintro e w1 ⟨rfl, hb1⟩
        go_wp2_with fail
        refine (SP.out _).mono ?_
        rintro e w2 ⟨rfl, rfl⟩
        go_wp2_with fail
        refine (SD.out _).mono ?_
        rintro e w3 ⟨rfl, rfl⟩
        go_wp2_with fail
        refine (SR.out _).mono ?_
        rintro e w4 ⟨rfl, rfl⟩
        go_wp2_with fail
        refine (SF.out _).mono ?_
        rintro e w5 ⟨rfl, hb5⟩
        have HB := hide (hb1.trans (hb5.mono hb1.size))
        clear hb1 hb5
        go_wp2_with fail
        refine (SD.out _).mono ?_
        rintro e w6 ⟨rfl, rfl⟩
        go_wp2_with fail
        go_quiet (fail)
        go_wp2_with fail
        go_ret2
        exact ⟨rfl, below_drewN HB.out _⟩
      · rw [if_neg (fun h => hr (hok.1 h))]
        have SF := hide (fun W => by have h := imp_farRight n W; rw [show farOk10 n = false from Bool.eq_false_iff.2 (fun h => hr (by unfold farOk10 at h; simpa using h))] at h; exact h)
        clear hok hr hfar
        go_enter Tryz.func63, Tryz.ntmps63
        go_wp2_with fail
        refine (SN.out _).mono ?_
        rintro e w1 ⟨rfl, hb1⟩
        go_wp2_with fail
        refine (SP.out _).mono ?_
        rintro e w2 ⟨rfl, rfl⟩
        go_wp2_with fail
        refine (SD.out _).mono ?_
        rintro e w3 ⟨rfl, rfl⟩
        go_wp2_with fail
        refine (SR.out _).mono ?_
        rintro e w4 ⟨rfl, rfl⟩
        go_wp2_with fail
        refine (SF.out _).mono ?_
        rintro e w5 ⟨rfl, hb5⟩
        have HB := hide (hb1.trans (hb5.mono hb1.size))
        clear hb1 hb5
        go_wp2_with fail
        refine (SE.out _).mono ?_
        rintro e w6 ⟨rfl, rfl⟩
        go_wp2_with fail
        exact ⟨rfl, rfl, HB.out⟩
    · rw [e1] at SR0
      rw [k4] at e2
      rw [if_neg (fun h => e2 h.2.1)]
      have SR := hide SR0
      clear SR0 e1 e2 k1 k2 k3 k4 k5 hf hcs
      unfold faultP at SR
      generalize cutT t (numB id) = CT at *
      go_enter Tryz.func63, Tryz.ntmps63
      go_wp2_with fail
      refine (SN.out _).mono ?_
      rintro e w1 ⟨rfl, hb1⟩
      go_wp2_with fail
      refine (SP.out _).mono ?_
      rintro e w2 ⟨rfl, rfl⟩
      go_wp2_with fail
      refine (SD.out _).mono ?_
      rintro e w3 ⟨rfl, rfl⟩
      go_wp2_with fail
      refine (SR.out _).mono ?_
      rintro e w4 ⟨rfl, rfl⟩
      go_wp2_with fail
      refine (SE.out _).mono ?_
      rintro e w6 ⟨rfl, rfl⟩
      go_wp2_with fail
      exact ⟨rfl, rfl, hb1⟩
  · rw [if_neg (front_no t id h0 h1 hf)]
    rw [decide_eq_false hf] at SP
    clear hf
    generalize cutT t (numB id) = CT at *
    go_enter Tryz.func63, Tryz.ntmps63
    go_wp2_with fail
    refine (SN.out _).mono ?_
    rintro e w1 ⟨rfl, hb1⟩
    go_wp2_with fail
    refine (SP.out _).mono ?_
    rintro e w2 ⟨rfl, rfl⟩
    go_wp2_with fail
    refine (SE.out _).mono ?_
    rintro e w3 ⟨rfl, rfl⟩
    go_wp2_with fail
    exact ⟨rfl, rfl, hb1⟩
end Go.Proofs.YtconcnndghmdfaaGreatDoor
namespace Go.Proofs.YtconcnndghmdfaaGreatDoor
open Go.RowKit
set_option maxRecDepth 100000 in
theorem imp_keysRight (H M : ByteArray) (w : World) :
    Calls Tryz.prog 23 #[.agg #[.string H, .string M]] w fun e w' => e = .returned (.bool (keysOk (H, M))) ∧ Below w.heap.size w w' := by
  have q0 := hide ((Below.refl w.heap.size w).alloc (Nat.le_refl _) (.cells #[.string H, .string M] 24))
  have R := hide (show keysOk (H, M) = (decide (H.size = 16) && decide (M.size = 32)) from rfl)
  by_cases h1 : H.size = 16
  · have h1' : (H.size : Int) = 16 := by omega
    by_cases h2 : M.size = 32
    · have h2' : (M.size : Int) = 32 := by omega
      have R2 := hide (show keysOk (H, M) = true by rw [R.out, decide_eq_true h1, decide_eq_true h2, Bool.and_self])
      go_enter Tryz.func23, Tryz.ntmps23
      go_wp2_with fail
      go_ret
      exact ⟨by rw [R2.out]; rfl, q0.out⟩
    · have h2' : ((M.size : Int) == 32) = false := beq_eq_false_iff_ne.2 (by omega)
      have R2 := hide (show keysOk (H, M) = false by rw [R.out, decide_eq_true h1, decide_eq_false h2, Bool.true_and])
      go_enter Tryz.func23, Tryz.ntmps23
      go_wp2_with fail
      go_ret
      exact ⟨by rw [R2.out]; rfl, q0.out⟩
  · have h1' : ((H.size : Int) == 16) = false := beq_eq_false_iff_ne.2 (by omega)
    have R2 := hide (show keysOk (H, M) = false by rw [R.out, decide_eq_false h1, Bool.false_and])
    go_enter Tryz.func23, Tryz.ntmps23
    go_wp2_with fail
    go_ret
    exact ⟨by rw [R2.out]; rfl, q0.out⟩
end Go.Proofs.YtconcnndghmdfaaGreatDoor

/- Put together: SizeI, JoinedI, JoinedT, SealPk, SealPr, SealPs. -/
import Derived.Test.YtconcnndghmdfaaGreatDoorRows
import Derived.Test.YtconcnndghmdfaaGreatDoorSa1
import Derived.WalkKit
import Derived.WalkSpells
import Derived.Test.YtconcnndghmdfaaGreatDoorSa4
import Derived.Test.YtconcnndghmdfaaGreatDoorSa23
import Derived.Test.YtconcnndghmdfaaGreatDoorSa27
import Derived.BigRegion
import Derived.Test.YtconcnndghmdfaaGreatDoorSa5
import Derived.WalkSmall
import Derived.Stop.Asserts
namespace Go.Proofs.YtconcnndghmdfaaGreatDoor
open Go.RowKit Go

/-- The bytes of texts, one behind the other. -/
def catB (ss : List ByteArray) : List UInt8 := ss.flatMap (fun s => s.data.toList)

theorem catB_take (ss : List ByteArray) (k : Nat) (hk : k < ss.length) : catB (ss.take (k + 1)) = catB (ss.take k) ++ ss[k].data.toList := by
  unfold catB
  rw [List.take_succ_eq_append_getElem hk, List.flatMap_append, List.flatMap_singleton]
theorem catB_len (ss : List ByteArray) (k : Nat) (hk : k < ss.length) : (catB (ss.take (k + 1))).length = (catB (ss.take k)).length + ss[k].size := by
  rw [catB_take ss k hk]; simp
theorem catB_le (ss : List ByteArray) (k : Nat) : (catB (ss.take k)).length ≤ (catB ss).length := by
  have h : catB ss = catB (ss.take k) ++ catB (ss.drop k) := by
    unfold catB; rw [← List.flatMap_append, List.take_append_drop]
  rw [h]; simp

set_option maxRecDepth 100000 in
set_option maxHeartbeats 400000 in
theorem sizeOf_any (b : Nat) (ss : List ByteArray) (w : World) (hc : ∀ j (hj : j < ss.length), w.cell? ⟨b, j, none⟩ = some (.string ss[j])) (hn : ss.length ≤ 1000) (ht : (catB ss).length ≤ 9223372036854775807) :
    Calls Tryz.prog 72 #[.slice (some ⟨b, 0, none⟩) ss.length ss.length] w fun e w' => e = .returned (.int .i64 ((catB ss).length : Nat)) ∧ w' = w := by
  go_enter Tryz.func72, Tryz.ntmps72
  go_wp2_with fail
  go_loop [3, 8] (fun s i => ∃ k : Nat, k ≤ ss.length ∧ i = .int .i64 k ∧ s = .int .i64 ((catB (ss.take k)).length : Nat)) (fun _ i => ss.length - (intOf i).toNat)
  case atStart => exact ⟨0, by omega, rfl, rfl⟩
  case round =>
    obtain ⟨k, hk, rfl, rfl⟩ := hrel
    have hle := catB_le ss k
    by_cases hlt : k < ss.length
    · have hck := hc k hlt
      have hl := catB_len ss k hlt
      have hl2 := catB_le ss (k + 1)
      have hs : ss[k].size ≤ 9223372036854775807 := by omega
      have hs2 : (catB (ss.take k)).length + ss[k].size ≤ 9223372036854775807 := by omega
      have HL := hide hl
      clear hl hc
      generalize ss[k] = sk at *
      go_wp2_with fail
      go_round
      case rel => exact ⟨k + 1, by omega, by go_num, by rw [unhide HL]; go_num⟩
      case measure => simp [intOf]; omega
    · have hkn : k = ss.length := by omega
      have hfull : (catB (ss.take k)).length = (catB ss).length := by rw [hkn, List.take_length]
      have HF := hide hfull
      clear hfull hle hkn
      go_wp2_with fail
      go_ret
      exact ⟨by rw [HF.out]; rfl, rfl⟩
end Go.Proofs.YtconcnndghmdfaaGreatDoor
namespace Go.Proofs.YtconcnndghmdfaaGreatDoor
open Go.RowKit Go

theorem Tryz.infoJ8 : (Tryz.prog.info? 5).map (fun i => (i.zero, i.size, i.bytes)) = some (some (.int .u8 0), 1, 1) := by kernel_rfl
theorem Tryz.sizeB8 : (Tryz.prog.info? 5).map (·.size) = some 1 := by kernel_rfl

theorem made_row {w : World} {B e g n : Nat} {xs : List Value} (h : w.ownsRow B e 1 (.slice (some ⟨g, 0, none⟩) n n) n xs) : ∃ cur : List Value, Hid (w.heap[g]? = some (.cells cur.toArray e (0, 0))) ∧ cur.length = n := by
  obtain ⟨_, ⟨h1, _⟩ | ⟨g', cap, cur, h1, _, hh, _, _, hs, _⟩⟩ := h
  · cases h1
  · simp at h1
    obtain ⟨rfl, rfl⟩ := h1
    exact ⟨cur.toList, by simpa [Hid] using hh, by simpa using hs⟩

theorem splice_step {k tot : Nat} {ss : List ByteArray} {sk : ByteArray} {cur : List Value} (htk : Hid (cur.take (catB (ss.take k)).length = (catB (ss.take k)).map byteV)) (HT : Hid (catB (ss.take (k + 1)) = catB (ss.take k) ++ sk.data.toList))
    (hs : (catB (ss.take k)).length + sk.size ≤ tot) (hcur : cur.length = tot) :
    (splice cur (catB (ss.take k)).length (sk.data.toList.map byteV)).length = tot ∧ Hid ((splice cur (catB (ss.take k)).length (sk.data.toList.map byteV)).take (catB (ss.take (k + 1))).length = (catB (ss.take (k + 1))).map byteV) := by
  have hsize : sk.data.toList.length = sk.size := by simp
  constructor
  · rw [length_splice _ _ _ (by simp; omega), hcur]
  · show _ = _
    have htk' : cur.take (catB (ss.take k)).length = (catB (ss.take k)).map byteV := htk
    rw [HT.out]
    unfold splice
    rw [htk', List.map_append, ← List.append_assoc]
    exact List.take_left' (by simp)

theorem join_end {P : Program} {w : World} {g e src dst tot : Nat} {ss : List ByteArray} {cur : List Value} (ht : tot = (catB ss).length) (hrow : Hid (w.heap[g]? = some (.cells cur.toArray e (0, 0)))) (hcur : cur.length = tot)
    (htk : Hid (cur.take (catB ss).length = (catB ss).map byteV)) (hs : P.underlying src = some (.slice e)) (he : P.underlying e = some (.int .u8)) (hd : P.underlying dst = some .string) :
    (convert src dst (.slice (some ⟨g, 0, none⟩) tot tot)).run P w = .ok (.string ⟨(catB ss).toArray⟩) w := by
  subst ht
  have hc : cur = (catB ss).map byteV := by rw [← htk.out, List.take_of_length_le (by omega)]
  subst hc
  refine run_convert_bytes_back w src dst e ⟨g, 0, none⟩ (catB ss).length (catB ss) hs he hd (fun j hj => ?_)
  have e1 : (⟨g, 0, none⟩ : Addr).add j = ⟨g, j, none⟩ := by by_cases hz : j = 0 <;> simp [Addr.add, hz]
  rw [e1]
  simp [World.cell?, hrow.out, hj, byteV]

set_option maxRecDepth 100000 in
set_option maxHeartbeats 400000 in
theorem joined_any (b : Nat) (ss : List ByteArray) (w : World) (hc : ∀ j (hj : j < ss.length), w.cell? ⟨b, j, none⟩ = some (.string ss[j])) (hbw : b < w.heap.size) (hn : ss.length ≤ 1000) (ht : (catB ss).length ≤ 1099511627776) :
    Calls Tryz.prog 47 #[.slice (some ⟨b, 0, none⟩) ss.length ss.length] w fun e w' => e = .returned (.string ⟨(catB ss).toArray⟩) ∧ Below w.heap.size w w' := by
  obtain ⟨i0, hi, hz0, hz1, hz2⟩ := info_parts Tryz.infoJ8
  go_enter Tryz.func47, Tryz.ntmps47
  obtain ⟨tot, htot⟩ : ∃ n, n = (catB ss).length := ⟨_, rfl⟩
  have ht' : tot ≤ 1099511627776 := by omega
  have hso := hide (sizeOf_any b ss w hc hn (by omega))
  rw [← htot] at hso
  have HT0 := hide htot
  clear htot
  go_wp2_with fail
  refine (hso.out).mono ?_
  rintro e w0 ⟨rfl, rfl⟩
  go_wp2_with (at_make; refine wpList_make_full _ rfl _ _ 22 rfl w0.heap.size 5 i0 (.int .u8 0) 1 Tryz.underlying22 hi hz0 hz1 .i64 .i64 _ _ tot rfl rfl rfl rfl ?m1 ?m2 (Nat.le_refl _) ?_)
  case m1 => rw [hz2]; omega
  case m2 => unfold maxLen; omega
  intro w1 hown hgrow
  obtain ⟨cur0, hrow0, hcur0⟩ := made_row hown
  have hb1 : Below w0.heap.size w0 w1 := (Below.refl _ _).grown hgrow (Nat.le_refl _) (fun k hk => by cases hk)
  clear hown hgrow
  go_wp2_with fail
  go_loopw [4, 12] (fun a i wr => ∃ (k : Nat) (cur : List Value), k ≤ ss.length ∧ i = .int .i64 k ∧ a = .int .i64 ((catB (ss.take k)).length : Nat) ∧ Hid (wr.heap[w0.heap.size]? = some (.cells cur.toArray 5 (0, 0))) ∧ cur.length = tot ∧ Hid (cur.take (catB (ss.take k)).length = (catB (ss.take k)).map byteV) ∧ Below w0.heap.size w0 wr) (fun _ i _ => ss.length - (intOf i).toNat)
  case atStart => exact ⟨0, cur0, by omega, rfl, rfl, hrow0, hcur0, rfl, hb1⟩
  case round =>
    obtain ⟨k, cur, hk, rfl, rfl, hrow, hcur, htk, hb2⟩ := hrel
    have hle : (catB (ss.take k)).length ≤ tot := by rw [unhide HT0]; exact catB_le ss k
    by_cases hlt : k < ss.length
    · have hck : wr.cell? ⟨b, k, none⟩ = some (.string ss[k]) := (hb2.cell (by exact hbw)).trans (hc k hlt)
      have hl := catB_len ss k hlt
      have hl2 := catB_le ss (k + 1)
      have hs : (catB (ss.take k)).length + ss[k].size ≤ tot := by rw [unhide HT0]; omega
      have HL := hide hl
      have HT := hide (catB_take ss k hlt)
      clear hl hl2 hc ht
      generalize ss[k] = sk at *
      have R := hide (splice_step htk HT hs hcur)
      generalize hat : (catB (ss.take k)).length = at0 at *
      have HC := hide hcur
      clear hat htk hcur HT0
      rcases (show at0 < tot ∨ at0 = tot from by omega) with hlt2 | rfl
      · have hne : ¬ tot = at0 := by omega
        go_wp2_with (refine wpList_copy_str rfl _ _ 22 9 rfl 5 Tryz.underlying22 Tryz.sizeB8 _ _ _ rfl sk rfl w0.heap.size at0 cur 5 hrow.out (by omega) (fun _ => by simp) (by rw [unhide HC]; omega) w0.heap.size w0 hb2 (Nat.le_refl _) ?_)
        intro w2 hrow2 hb3
        clear hrow hb2 hck
        go_wp2_with fail
        go_roundw
        case rel => exact ⟨k + 1, _, by omega, by go_num, by rw [unhide HL]; go_num, hrow2, R.out.1, R.out.2, hb3⟩
        case measure => simp [intOf]; omega
      · have hz : sk.size = 0 := by omega
        go_wp2_with (refine wpList_copy_str rfl _ _ 22 9 rfl 5 Tryz.underlying22 Tryz.sizeB8 _ _ _ rfl sk rfl w0.heap.size at0 cur 5 hrow.out (by omega) (fun _ => by omega) (by rw [unhide HC]; omega) w0.heap.size w0 hb2 (Nat.le_refl _) ?_)
        intro w2 hrow2 hb3
        clear hrow hb2 hck
        go_wp2_with fail
        go_roundw
        case rel => exact ⟨k + 1, _, by omega, by go_num, by rw [unhide HL]; go_num, hrow2, R.out.1, R.out.2, hb3⟩
        case measure => simp [intOf]; omega
    · have hkn : k = ss.length := by omega
      have hcv := join_end (P := Tryz.prog) (unhide HT0) hrow hcur (by rw [hkn, List.take_length] at htk; exact htk) Tryz.underlying22 Tryz.underlying5 Tryz.underlying9
      clear hkn htk hcur hrow hc
      go_wp2
      go_ret
      exact ⟨rfl, hb2⟩
end Go.Proofs.YtconcnndghmdfaaGreatDoor
namespace Go.Proofs.YtconcnndghmdfaaGreatDoor
open Go.RowKit

theorem cat_one (s : ByteArray) : (⟨(catB [s]).toArray⟩ : ByteArray) = s := by
  apply ByteArray.ext; simp [catB]
theorem cat_two (s t : ByteArray) : (⟨(catB [s, t]).toArray⟩ : ByteArray) = s ++ t := by
  apply ByteArray.ext; simp [catB]

theorem joined_one (s : ByteArray) (w : World) (b : Nat) (hbw : b = w.heap.size) (h : s.size ≤ 1099511627776) :
    Calls Tryz.prog 47 #[.slice (some ⟨b, 0, none⟩) 1 1] (w.alloc (.cells #[.string s] 9)) fun e w' => e = .returned (.string s) ∧ Below w.heap.size w w' := by
  subst hbw
  refine (joined_any w.heap.size [s] (w.alloc (.cells #[.string s] 9)) ?_ (by simp) (by simp) (by simpa [catB] using h)).mono ?_
  · intro j hj
    match j, hj with
    | 0, _ => simp
  · rintro e w' ⟨rfl, hb⟩
    exact ⟨by rw [cat_one], ((Below.refl w.heap.size w).alloc (Nat.le_refl _) _).trans (hb.mono (by simp))⟩
theorem joined_two (s t : ByteArray) (w : World) (b : Nat) (hbw : b = w.heap.size) (h : s.size + t.size ≤ 1099511627776) :
    Calls Tryz.prog 47 #[.slice (some ⟨b, 0, none⟩) 2 2] (w.alloc (.cells #[.string s, .string t] 9)) fun e w' => e = .returned (.string (s ++ t)) ∧ Below w.heap.size w w' := by
  subst hbw
  refine (joined_any w.heap.size [s, t] (w.alloc (.cells #[.string s, .string t] 9)) ?_ (by simp) (by simp) (by simpa [catB] using h)).mono ?_
  · intro j hj
    match j, hj with
    | 0, _ => simp
    | 1, _ => simp
  · rintro e w' ⟨rfl, hb⟩
    exact ⟨by rw [cat_two], ((Below.refl w.heap.size w).alloc (Nat.le_refl _) _).trans (hb.mono (by simp))⟩
end Go.Proofs.YtconcnndghmdfaaGreatDoor
namespace Go.Proofs.YtconcnndghmdfaaGreatDoor
open Go.RowKit Go
set_option maxRecDepth 100000 in
set_option maxHeartbeats 800000 in
theorem imp_macOf (H M body : ByteArray) (w : World) (hM : M.size ≤ 20000) (hb : body.size ≤ 20000) (htab : Tab w) :
    Calls Tryz.prog 48 #[.agg #[.string H, .string M], .string body] w fun e w' => e = .returned (.string (take16 (macT M body))) ∧ Below w.heap.size w w' := by
  have HX := macT_size M body
  have S := hide (imp_macT M body (w.alloc (.cells #[.string H, .string M] 24)) hM hb (htab.alloc _))
  have E := hide (show take16 (macT M body) = (macT M body).extract 0 16 from rfl)
  have hsl : ∀ W : World, (Instr.slice 9 (.string (macT M body)) none (some (.int .i64 16)) none).run Tryz.prog W = .ok (.string ((macT M body).extract 0 16)) W := fun W => run_front (P := Tryz.prog) W 9 (macT M body) 16 Tryz.underlying9 (by rw [HX]; decide)
  have hX' : (16 : Int) ≤ ((macT M body).size : Int) := by rw [HX]; decide
  have q0 := hide ((Below.refl w.heap.size w).alloc (Nat.le_refl _) (.cells #[.string H, .string M] 24))
  generalize macT M body = X at *
  clear HX htab hM hb
  go_enter Tryz.func48, Tryz.ntmps48
  go_wp2_with fail
  refine S.out.mono ?_
  rintro e w1 ⟨rfl, hb1⟩
  have HB := hide (q0.out.trans (hb1.mono (by simp)))
  clear hb1 S
  go_wp2_with fail
  go_ret
  exact ⟨by rw [E.out]; first | done | rfl, HB.out⟩
theorem cat_three (a b c : ByteArray) : (⟨(catB [a, b, c]).toArray⟩ : ByteArray) = a ++ b ++ c := by
  apply ByteArray.ext; simp [catB]
set_option maxRecDepth 100000 in
set_option maxHeartbeats 800000 in
theorem imp_sealed (H M a b c : ByteArray) (B : Nat) (w : World) (hM : M.size ≤ 20000) (hs : (a ++ b ++ c).size ≤ 20000) (htab : Tab w) (hc : w.heap[B]? = some (.cells #[.string a, .string b, .string c] 9 (0, 0))) :
    Calls Tryz.prog 27 #[.agg #[.string H, .string M], .slice (some ⟨B, 0, none⟩) 3 3] w fun e w' => e = .returned (.string (a ++ b ++ c ++ take16 (macT M (a ++ b ++ c)))) ∧ Below w.heap.size w w' := by
  have hB : B < w.heap.size := (Array.getElem?_eq_some_iff.1 hc).1
  have hl : (catB [a, b, c]).length ≤ 1099511627776 := by
    have e : (⟨(catB [a, b, c]).toArray⟩ : ByteArray).size = (catB [a, b, c]).length := size_mk _
    rw [cat_three] at e
    omega
  have hw : ∀ W, Below w.heap.size w W → W.heap[B]? = some (.cells #[.string a, .string b, .string c] 9 (0, 0)) := fun W h => (h.block B hB).trans hc
  have q0 := (Below.refl w.heap.size w).alloc (Nat.le_refl _) (.cells #[.string H, .string M] 24)
  have S1 := joined_any B [a, b, c] (w.alloc (.cells #[.string H, .string M] 24)) (fun j hj => by
    have h := hw _ q0
    match j, hj with
    | 0, _ => simp [World.cell?, h]
    | 1, _ => simp [World.cell?, h]
    | 2, _ => simp [World.cell?, h]) (by simp; omega) (by simp) hl
  rw [cat_three] at S1
  generalize a ++ b ++ c = T at *
  have S1 : Calls Tryz.prog 47 #[.slice (some ⟨B, 0, none⟩) 3 3] (w.alloc (.cells #[.string H, .string M] 24)) fun e w' => e = .returned (.string T) ∧ Below (w.alloc (.cells #[.string H, .string M] 24)).heap.size (w.alloc (.cells #[.string H, .string M] 24)) w' := S1
  have S1 := hide S1
  have S2 := hide (fun W (h : Tab W) => imp_macOf H M T W hM hs h)
  have h16 : (take16 (macT M T)).size = 16 := take16_size _ (by rw [macT_size]; decide)
  have S3 := hide (fun W b hb => joined_two T (take16 (macT M T)) W b hb (by omega))
  generalize take16 (macT M T) = X at *
  have HT := hide htab
  have Q0 := hide q0
  clear hw q0 hc hl htab
  go_enter Tryz.func27, Tryz.ntmps27
  go_wp2_with fail
  refine S1.out.mono ?_
  rintro e w1 ⟨rfl, hb1⟩
  simp at hb1
  have c0 := (keys_cells hb1 (Nat.lt_succ_self _) (heap_alloc_new w _)).1
  have c1 := (keys_cells hb1 (Nat.lt_succ_self _) (heap_alloc_new w _)).2.1
  have hB1 : Below w.heap.size w w1 := Q0.out.trans (hb1.mono (Nat.le_succ _))
  have HB := hide hB1
  have HT1 := hide (HT.out.low hB1)
  clear hb1 hB1 S1
  go_wp2_with fail
  refine (S2.out _ HT1.out).mono ?_
  rintro e w2 ⟨rfl, hb2⟩
  have HB2 := hide (HB.out.trans (hb2.mono HB.out.size))
  clear hb2 S2 c0 c1
  go_wp2_with fail
  refine (S3.out w2 _ rfl).mono ?_
  rintro e w3 ⟨rfl, hb3⟩
  have HB3 := hide (HB2.out.trans (hb3.mono HB2.out.size))
  clear hb3 S3
  go_wp2_with fail
  go_ret
  exact ⟨rfl, HB3.out⟩
end Go.Proofs.YtconcnndghmdfaaGreatDoor
namespace Go.Proofs.YtconcnndghmdfaaGreatDoor
open Go.RowKit
set_option maxRecDepth 100000 in
theorem imp_keysRight (H M : ByteArray) (w : World) :
    Calls Tryz.prog 23 #[.agg #[.string H, .string M]] w fun e w' => e = .returned (.bool (keysOk (H, M))) ∧ Below w.heap.size w w' := by
  have q0 := hide ((Below.refl w.heap.size w).alloc (Nat.le_refl _) (.cells #[.string H, .string M] 24))
  have R := hide (show keysOk (H, M) = (decide (H.size = 16) && decide (M.size = 32)) from rfl)
  by_cases h1 : H.size = 16
  · have h1' : (H.size : Int) = 16 := by omega
    by_cases h2 : M.size = 32
    · have h2' : (M.size : Int) = 32 := by omega
      have R2 := hide (show keysOk (H, M) = true by rw [R.out, decide_eq_true h1, decide_eq_true h2, Bool.and_self])
      go_enter Tryz.func23, Tryz.ntmps23
      go_wp2_with fail
      go_ret
      exact ⟨by rw [R2.out]; rfl, q0.out⟩
    · have h2' : ((M.size : Int) == 32) = false := beq_eq_false_iff_ne.2 (by omega)
      have R2 := hide (show keysOk (H, M) = false by rw [R.out, decide_eq_true h1, decide_eq_false h2, Bool.true_and])
      go_enter Tryz.func23, Tryz.ntmps23
      go_wp2_with fail
      go_ret
      exact ⟨by rw [R2.out]; rfl, q0.out⟩
  · have h1' : ((H.size : Int) == 16) = false := beq_eq_false_iff_ne.2 (by omega)
    have R2 := hide (show keysOk (H, M) = false by rw [R.out, decide_eq_false h1, Bool.false_and])
    go_enter Tryz.func23, Tryz.ntmps23
    go_wp2_with fail
    go_ret
    exact ⟨by rw [R2.out]; rfl, q0.out⟩
end Go.Proofs.YtconcnndghmdfaaGreatDoor
namespace Go.Proofs.YtconcnndghmdfaaGreatDoor
open Go.RowKit
def farOk10 (n : Int) : Bool := decide (0 ≤ n) && decide (n ≤ 256)
/-- The panic of a block that is wrong. -/
def faultP (c : Int) : Value := .iface 84 (.agg #[.int .i64 c])
set_option maxRecDepth 100000 in
theorem imp_idRight (id : Int) (w : World) :
    Calls Tryz.prog 24 #[.int .i64 id] w fun e w' => e = .returned (.bool (idOk id)) ∧ Below w.heap.size w w' := by
  have R := hide (show idOk id = (decide (0 ≤ id) && decide (id ≤ 2000000)) from rfl)
  by_cases h1 : 0 ≤ id
  · have h1' : decide (0 ≤ id) = true := decide_eq_true h1
    by_cases h2 : id ≤ 2000000
    · have h2' : decide (id ≤ 2000000) = true := decide_eq_true h2
      have R2 := hide (show idOk id = true by rw [R.out, h1', h2', Bool.and_self])
      go_enter Tryz.func24, Tryz.ntmps24
      go_wp2_with fail
      go_ret
      exact ⟨by rw [R2.out]; rfl, Below.refl _ _⟩
    · have h2' : decide (id ≤ 2000000) = false := decide_eq_false h2
      have R2 := hide (show idOk id = false by rw [R.out, h1', h2', Bool.true_and])
      go_enter Tryz.func24, Tryz.ntmps24
      go_wp2_with fail
      go_ret
      exact ⟨by rw [R2.out]; rfl, Below.refl _ _⟩
  · have h1' : decide (0 ≤ id) = false := decide_eq_false h1
    have R2 := hide (show idOk id = false by rw [R.out, h1', Bool.false_and])
    go_enter Tryz.func24, Tryz.ntmps24
    go_wp2_with fail
    go_ret
    exact ⟨by rw [R2.out]; rfl, Below.refl _ _⟩
set_option maxRecDepth 100000 in
theorem imp_farRight (id : Int) (w : World) :
    Calls Tryz.prog 25 #[.int .i64 id] w fun e w' => e = .returned (.bool (farOk10 id)) ∧ Below w.heap.size w w' := by
  have R := hide (show farOk10 id = (decide (0 ≤ id) && decide (id ≤ 256)) from rfl)
  by_cases h1 : 0 ≤ id
  · have h1' : decide (0 ≤ id) = true := decide_eq_true h1
    by_cases h2 : id ≤ 256
    · have h2' : decide (id ≤ 256) = true := decide_eq_true h2
      have R2 := hide (show farOk10 id = true by rw [R.out, h1', h2', Bool.and_self])
      go_enter Tryz.func25, Tryz.ntmps25
      go_wp2_with fail
      go_ret
      exact ⟨by rw [R2.out]; rfl, Below.refl _ _⟩
    · have h2' : decide (id ≤ 256) = false := decide_eq_false h2
      have R2 := hide (show farOk10 id = false by rw [R.out, h1', h2', Bool.true_and])
      go_enter Tryz.func25, Tryz.ntmps25
      go_wp2_with fail
      go_ret
      exact ⟨by rw [R2.out]; rfl, Below.refl _ _⟩
  · have h1' : decide (0 ≤ id) = false := decide_eq_false h1
    have R2 := hide (show farOk10 id = false by rw [R.out, h1', Bool.false_and])
    go_enter Tryz.func25, Tryz.ntmps25
    go_wp2_with fail
    go_ret
    exact ⟨by rw [R2.out]; rfl, Below.refl _ _⟩
theorem imp_demand_yes (c : Int) (w : World) : Calls Tryz.prog 62 #[.bool true, .int .i64 c] w fun e w' => e = .returned (.tuple #[]) ∧ w' = w := by
  go_enter Tryz.func62, Tryz.ntmps62
  go_wp2_with fail
  go_end0
  exact ⟨rfl, rfl⟩
theorem imp_demand_no (c : Int) (w : World) : Calls Tryz.prog 62 #[.bool false, .int .i64 c] w fun e w' => e = .panicked [{ v := faultP c, recovered := false }] ∧ w' = w := by
  go_enter Tryz.func62, Tryz.ntmps62
  go_wp2_with fail
  exact ⟨rfl, rfl, rfl⟩
theorem run_fault (v : Value) (x : TypeId) (W : World) : (Instr.typeAssert (.iface 84 v) x 84 false).run Tryz.prog W = .ok v W := by
  simp [Instr.typeAssert, run_underlying Tryz.underlying84]
set_option maxRecDepth 100000 in
theorem imp_faultCode (c : Int) (w : World) : Calls Tryz.prog 36 #[faultP c] w fun e w' => e = .returned (.int .i64 c) ∧ w' = w := by
  have hta := run_fault
  have hfi : ∀ W : World, (Instr.field 84 (.agg #[.int .i64 c]) 0).run Tryz.prog W = .ok (.int .i64 c) W := fun W => by kernel_rfl
  unfold faultP
  go_enter Tryz.func36, Tryz.ntmps36
  go_wp2_with fail
  go_ret
  exact ⟨rfl, rfl⟩
/-- p stands in front of s. -/
def inFront (s p : ByteArray) : Prop := p.size ≤ s.size ∧ s.extract 0 p.size = p
instance (s p : ByteArray) : Decidable (inFront s p) := by unfold inFront; infer_instance
def cutT (s p : ByteArray) : ByteArray := if inFront s p then s.extract p.size s.size else s
theorem list_beq (a b : ByteArray) : (a.toList == b.toList) = decide (a = b) := by
  by_cases h : a = b
  · subst h; simp
  · rw [decide_eq_false h]
    exact beq_eq_false_iff_ne.2 (fun e => h (by rw [ByteArray.toList_eq, ByteArray.toList_eq] at e; exact ByteArray.ext (Array.toList_inj.1 e)))
set_option maxRecDepth 100000 in
theorem imp_hasPrefix (s p : ByteArray) (w : World) :
    Calls Tryz.prog 144 #[.string s, .string p] w fun e w' => e = .returned (.bool (decide (inFront s p))) ∧ w' = w := by
  by_cases h1 : p.size ≤ s.size
  · have h1' : (p.size : Int) ≤ (s.size : Int) := by omega
    have hsl : ∀ W : World, (Instr.slice 9 (.string s) none (some (.int .i64 (p.size : Int))) none).run Tryz.prog W = .ok (.string (s.extract 0 p.size)) W := fun W => run_front (P := Tryz.prog) W 9 s p.size Tryz.underlying9 h1
    have E := hide (show decide (inFront s p) = decide (s.extract 0 p.size = p) from decide_eq_decide.2 ⟨fun h => h.2, fun h => ⟨h1, h⟩⟩)
    go_enter Tryz.func144, Tryz.ntmps144
    go_wp2_with fail
    go_ret
    exact ⟨by rw [E.out, ← list_beq]; rfl, rfl⟩
  · have h1' : (s.size : Int) < (p.size : Int) := by omega
    have E := hide (show decide (inFront s p) = false from decide_eq_false fun h => h1 h.1)
    go_enter Tryz.func144, Tryz.ntmps144
    go_wp2_with fail
    go_ret
    exact ⟨by rw [E.out]; rfl, rfl⟩
set_option maxRecDepth 100000 in
theorem imp_cutLite (s p : ByteArray) (w : World) :
    Calls Tryz.prog 130 #[.string s, .string p] w fun e w' => e = .returned (.tuple #[.string (cutT s p), .bool (decide (inFront s p))]) ∧ w' = w := by
  have S := fun W => imp_hasPrefix s p W
  by_cases h : inFront s p
  · have E := hide (show cutT s p = s.extract p.size s.size from if_pos h)
    have D := hide (show decide (inFront s p) = true from decide_eq_true h)
    rw [D.out] at S
    have h1 : (p.size : Int) ≤ (s.size : Int) := by have := h.1; omega
    have S := hide S
    clear h
    go_enter Tryz.func130, Tryz.ntmps130
    go_wp2_with fail
    refine (S.out _).mono ?_
    rintro e w1 ⟨rfl, rfl⟩
    clear S
    go_wp2_with fail
    go_ret2
    exact ⟨by rw [E.out, D.out]; first | done | rfl, rfl⟩
  · have E := hide (show cutT s p = s from if_neg h)
    have D := hide (show decide (inFront s p) = false from decide_eq_false h)
    rw [D.out] at S
    have S := hide S
    clear h
    go_enter Tryz.func130, Tryz.ntmps130
    go_wp2_with fail
    refine (S.out _).mono ?_
    rintro e w1 ⟨rfl, rfl⟩
    clear S
    go_wp2_with fail
    go_ret2
    exact ⟨by rw [E.out, D.out]; first | done | rfl, rfl⟩
set_option maxRecDepth 100000 in
theorem imp_cutPre (s p : ByteArray) (w : World) :
    Calls Tryz.prog 98 #[.string s, .string p] w fun e w' => e = .returned (.tuple #[.string (cutT s p), .bool (decide (inFront s p))]) ∧ w' = w := by
  have S := hide (fun W => imp_cutLite s p W)
  go_enter Tryz.func98, Tryz.ntmps98
  go_wp2_with fail
  refine (S.out _).mono ?_
  rintro e w1 ⟨rfl, rfl⟩
  clear S
  go_wp2_with fail
  go_ret2
  exact ⟨rfl, rfl⟩
end Go.Proofs.YtconcnndghmdfaaGreatDoor

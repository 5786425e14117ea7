/- Put together: ImpPad, ShaS, ImpMac, MacTw, SizeI, JoinedI, JoinedT, SealPk, Bits, PutNumI. -/
import Derived.Test.YtconcnndghmdfaaGreatDoorSb4
import Derived.Test.YtconcnndghmdfaaGreatDoorSb25
import Derived.BigRegion
import Derived.Test.YtconcnndghmdfaaGreatDoorRows
import Derived.Test.YtconcnndghmdfaaGreatDoorSb1
import Derived.WalkKit
import Derived.WalkSpells
import Derived.Test.YtconcnndghmdfaaGreatDoorSb3
import Derived.Test.YtconcnndghmdfaaGreatDoorSb16
import Derived.Laws.BitsLemmas
import Derived.Laws.Bits64
import Derived.Laws.Bits64b
import Derived.Test.YtconcnndghmdfaaGreatDoorSb11
namespace Go.Proofs.YtconcnndghmdfaaGreatDoor
open Go.RowKit
set_option maxRecDepth 100000 in
set_option maxHeartbeats 1600000 in
theorem pads (key : ByteArray) (m : UInt8) (w : World) (hk : key.size ≤ 64) :
    Calls Tryz.prog 106 #[.string key, .int .u8 (m.toNat : Int)] w fun e w' => e = .returned (.string (padT key m)) ∧ Below w.heap.size w w' := by
  have hm : (m.toNat : Int) ≤ 255 := by have := m.toNat_lt; omega
  go_enter Tryz.func106, Tryz.ntmps106
  go_wp2_with (refine wpList_copy_str rfl _ _ 22 9 rfl 5 Tryz.underlying22 Tryz.sizeP8 _ _ _ rfl key rfl w.heap.size 0 (List.replicate 64 (.int .u8 0)) 193 (heap_alloc_new w _) hk (fun _ => rfl) (by simpa using hk) w.heap.size w ((Below.refl _ _).alloc (Nat.le_refl _) _) (Nat.le_refl _) ?_)
  intro w1 hrow hb1
  have hr1 := row_copied w1 w.heap.size 193 key hk hrow.out
  clear hrow
  go_wp2_with fail
  go_loopw [10] (fun i wx => ∃ (k : Nat) (f : Nat → UInt8), k ≤ 64 ∧ i = .int .i64 k ∧ Hid (∀ j, f j = if j < k then keyAt key j ^^^ m else keyAt key j) ∧ wx.rowIs w.heap.size 193 64 (u8V f) ∧ Below w.heap.size w wx) (fun i _ => 64 - (intOf i).toNat)
  case atStart => exact ⟨0, keyAt key, by omega, rfl, fun j => by simp, hr1, hb1⟩
  case round =>
    clear hr1 hb1
    obtain ⟨k, f, hk64, rfl, hf, hr, hbl⟩ := hrel
    by_cases hlt : k < 64
    · have c : wr.cell? ⟨w.heap.size, k, none⟩ = some (.int .u8 ((f k).toNat : Int)) := hr.cell hlt
      have fz := hr.frozen k
      have hx := r_xor8 (f k) m
      have hf2 := hide (xor_step hf.out)
      go_wp2_with fail
      refine ⟨?rel, ?measure⟩
      case rel => exact ⟨k + 1, fun j => if j = k then f k ^^^ m else f j, by omega, by go_num, hf2, set_byte hr (by rw [UInt8.toNat_xor]), hbl.setCell (Nat.le_refl _) _⟩
      case measure => simp [intOf]; omega
    · have hcv := conv_row (P := Tryz.prog) (cap := 64) hr (pad_list hf.out (by omega)) (padL_length key m) Tryz.underlying22 Tryz.underlying5 Tryz.underlying9
      go_wp2_with fail
      go_ret
      exact ⟨rfl, hbl⟩
theorem padsT (key : ByteArray) (m : UInt8) (M : Int) (hM : M = (m.toNat : Int)) (w : World) (hk : key.size ≤ 64) :
    Calls Tryz.prog 106 #[.string key, .int .u8 M] w fun e w' => e = .returned (.string (padT key m)) ∧ Below w.heap.size w w' := by
  subst hM; exact pads key m w hk
end Go.Proofs.YtconcnndghmdfaaGreatDoor
namespace Go.Proofs.YtconcnndghmdfaaGreatDoor
open Go.RowKit
set_option maxRecDepth 100000 in
set_option maxHeartbeats 1600000 in
theorem stretch_bad (pass : ByteArray) (n : Int) (w : World) (h : ¬ (pass.size ≤ 20000 ∧ 1 ≤ n ∧ n ≤ 100)) :
    Calls Tryz.prog 104 #[.string pass, .int .i64 n] w fun e w' => e = .returned (.string ⟨#[]⟩) ∧ w' = w := by
  by_cases h1 : pass.size ≤ 20000
  · have h1' : ¬ (20000 : Int) < pass.size := by omega
    by_cases h2 : 1 ≤ n
    · have h2' : ¬ n < 1 := by omega
      have h3' : 100 < n := by omega
      go_enter Tryz.func104, Tryz.ntmps104
      go_wp2_with fail
      go_ret
      exact ⟨rfl, rfl⟩
    · have h2' : n < 1 := by omega
      go_enter Tryz.func104, Tryz.ntmps104
      go_wp2_with fail
      go_ret
      exact ⟨rfl, rfl⟩
  · have h1' : (20000 : Int) < pass.size := by omega
    go_enter Tryz.func104, Tryz.ntmps104
    go_wp2_with fail
    go_ret
    exact ⟨rfl, rfl⟩
set_option maxRecDepth 100000 in
set_option maxHeartbeats 1600000 in
theorem stretch_good (pass : ByteArray) (n : Nat) (w : World) (h1 : pass.size ≤ 20000) (h2 : 1 ≤ n) (h3 : n ≤ 100) :
    Calls Tryz.prog 104 #[.string pass, .int .i64 (n : Int)] w fun e w' => e = .returned (.string (stretchT pass n)) ∧ Below w.heap.size w w' := by
  have h1' : ¬ (20000 : Int) < pass.size := by omega
  have h2' : ¬ (n : Int) < 1 := by omega
  have h3' : ¬ 100 < (n : Int) := by omega
  go_enter Tryz.func104, Tryz.ntmps104
  go_wp2_with fail
  go_loopw [5, 6] (fun s i wx => ∃ k : Nat, k ≤ n ∧ i = .int .i64 k ∧ s = .string (stretchT pass k) ∧ Below w.heap.size w wx) (fun _ i _ => n - (intOf i).toNat)
  case atStart => exact ⟨0, Nat.zero_le _, rfl, rfl, Below.refl _ _⟩
  case round =>
    obtain ⟨k, hk, rfl, rfl, hbl⟩ := hrel
    by_cases hlt : k < n
    · have hlt' : (k : Int) < (n : Int) := by omega
      have hs := stretchT_size pass k
      go_wp2_with fail
      refine (spec_mac pass (stretchT pass k) _ h1 (by omega)).mono ?_
      rintro e w1 ⟨rfl, hb1⟩
      have hb2 := below3 hbl hb1
      clear hs hb1
      go_wp2_with fail
      go_roundw
      case rel => exact ⟨k + 1, by omega, by go_num, rfl, hb2⟩
      case measure => simp [intOf]; omega
    · have hlt' : ¬ (k : Int) < (n : Int) := by omega
      have hE := hide (show stretchT pass k = stretchT pass n by rw [show k = n by omega])
      go_wp2_with fail
      go_ret
      exact ⟨by rw [← hE.out]; rfl, hbl⟩
theorem spec_stretch (pass : ByteArray) (n : Int) (w : World) :
    Calls Tryz.prog 104 #[.string pass, .int .i64 n] w fun e w' => e = .returned (.string (stretchS pass n)) ∧ Below w.heap.size w w' := by
  by_cases h : pass.size ≤ 20000 ∧ 1 ≤ n ∧ n ≤ 100
  · obtain ⟨m, rfl⟩ : ∃ m : Nat, n = (m : Int) := ⟨n.toNat, by omega⟩
    rw [show stretchS pass (m : Int) = stretchT pass m from if_pos h]
    exact stretch_good pass m w h.1 (by omega) (by omega)
  · rw [show stretchS pass n = ⟨#[]⟩ from if_neg h]
    exact (stretch_bad pass n w h).mono fun _ _ ⟨a, b⟩ => ⟨a, by rw [b]; exact Below.refl _ _⟩
end Go.Proofs.YtconcnndghmdfaaGreatDoor
namespace Go.Proofs.YtconcnndghmdfaaGreatDoor
open Go.RowKit
theorem join_one (t : ByteArray) : (⟨(joinB [t]).toArray⟩ : ByteArray) = t := by
  apply ByteArray.ext; show (joinB [t]).toArray = t.data; simp [joinB]
theorem join_two (a b : ByteArray) : (⟨(joinB [a, b]).toArray⟩ : ByteArray) = a ++ b := by
  apply ByteArray.ext; show (joinB [a, b]).toArray = (a ++ b).data
  rw [ByteArray.data_append]
  simp [joinB]
theorem oneOf (t : ByteArray) (w : World) (T : Nat) (ht : t.size ≤ 1048576) (htab : Tab w) (h0 : 1 < w.heap.size) :
    Calls Tryz.prog 105 #[.slice (some ⟨w.heap.size, 0, none⟩) 1 1] (w.alloc (.cells #[.string t] T)) fun e w' => e = .returned (.string (digestT t)) ∧ Below w.heap.size w w' := by
  have hb : Below w.heap.size w (w.alloc (.cells #[.string t] T)) := (Below.refl _ _).alloc (Nat.le_refl _) _
  have h := ofParts w.heap.size 1 1 [t] (w.alloc (.cells #[.string t] T)) rfl (by omega) (by simp) (by
    intro j x hx
    match j, hx with
    | 0, hx => simp at hx; subst hx; exact ⟨ht, cell_of_row _ _ _ _ _ _ (heap_alloc_new w _)⟩) (htab.below hb h0)
  rw [join_one] at h
  exact h.mono fun e w' ⟨a, b⟩ => ⟨a, hb.trans (b.mono (by simp))⟩
theorem twoOf (s t : ByteArray) (w : World) (T : Nat) (hs : s.size ≤ 1048576) (ht : t.size ≤ 1048576) (htab : Tab w) (h0 : 1 < w.heap.size) :
    Calls Tryz.prog 105 #[.slice (some ⟨w.heap.size, 0, none⟩) 2 2] (w.alloc (.cells #[.string s, .string t] T)) fun e w' => e = .returned (.string (digestT (s ++ t))) ∧ Below w.heap.size w w' := by
  have hb : Below w.heap.size w (w.alloc (.cells #[.string s, .string t] T)) := (Below.refl _ _).alloc (Nat.le_refl _) _
  have h := ofParts w.heap.size 2 2 [s, t] (w.alloc (.cells #[.string s, .string t] T)) rfl (by omega) (by simp) (by
    intro j x hx
    match j, hx with
    | 0, hx => simp at hx; subst hx; exact ⟨hs, cell_of_row _ _ _ _ _ _ (heap_alloc_new w _)⟩
    | 1, hx => simp at hx; subst hx; exact ⟨ht, cell_of_row _ _ _ _ _ _ (heap_alloc_new w _)⟩) (htab.below hb h0)
  rw [join_two] at h
  exact h.mono fun e w' ⟨a, b⟩ => ⟨a, hb.trans (b.mono (by simp))⟩
set_option maxRecDepth 100000 in
set_option maxHeartbeats 1600000 in
theorem impl_mac (key text : ByteArray) (w : World) (htab : Tab w) (h0 : 1 < w.heap.size) :
    Calls Tryz.prog 73 #[.string key, .string text] w fun e w' => e = .returned (.string (macS key text)) ∧ Below w.heap.size w w' := by
  have HT := hide htab
  clear htab
  have fin : ∀ (K : ByteArray), K.size ≤ 64 → (padT K 54).size ≤ 1048576 ∧ (padT K 92).size ≤ 1048576 ∧ (digestT (padT K 54 ++ text)).size ≤ 1048576 := by
    intro K _; rw [padT_size, padT_size, digestT_size]; omega
  by_cases h : key.size ≤ 20000
  · by_cases h2 : text.size ≤ 20000
    · have h' : ¬ (20000 : Int) < key.size := by omega
      have h2' : ¬ (20000 : Int) < text.size := by omega
      have hS : macS key text = macT key text := if_pos ⟨h, h2⟩
      rw [hS]
      by_cases h64 : key.size ≤ 64
      · have hK : keyT key = key := if_pos h64
        have hlt : ¬ (64 : Int) < key.size := by omega
        have hE := hide (show macT key text = digestT (padT key 92 ++ digestT (padT key 54 ++ text)) by rw [macT, hK])
        obtain ⟨z1, z2, z3⟩ := fin key h64
        clear hK hS fin
        go_enter Tryz.func73, Tryz.ntmps73
        go_wp2_with fail
        refine (padsT key 54 54 rfl _ h64).mono ?_
        rintro e w1 ⟨rfl, hb1⟩
        go_wp2_with fail
        refine (twoOf (padT key 54) text w1 _ z1 (by omega) (HT.out.below hb1 h0) (by have := hb1.size; omega)).mono ?_
        rintro e w2 ⟨rfl, hb2⟩
        have hc2 := below3 hb1 hb2
        go_wp2_with fail
        refine (padsT key 92 92 rfl _ h64).mono ?_
        rintro e w3 ⟨rfl, hb3⟩
        have hc3 := below3 hc2 hb3
        go_wp2_with fail
        refine (twoOf (padT key 92) (digestT (padT key 54 ++ text)) w3 _ z2 z3 (HT.out.below hc3 h0) (by have := hc3.size; omega)).mono ?_
        rintro e w4 ⟨rfl, hb4⟩
        go_wp2_with fail
        go_ret
        exact ⟨by rw [hE.out]; rfl, below3 hc3 hb4⟩
      · have hK : keyT key = digestT key := if_neg h64
        have hlt : (64 : Int) < key.size := by omega
        have hE := hide (show macT key text = digestT (padT (digestT key) 92 ++ digestT (padT (digestT key) 54 ++ text)) by rw [macT, hK])
        have hd : (digestT key).size ≤ 64 := by rw [digestT_size]; omega
        obtain ⟨z1, z2, z3⟩ := fin (digestT key) hd
        clear hK hS fin
        go_enter Tryz.func73, Tryz.ntmps73
        go_wp2_with fail
        refine (oneOf key w _ (by omega) HT.out h0).mono ?_
        rintro e w0 ⟨rfl, hc0⟩
        go_wp2_with fail
        refine (padsT (digestT key) 54 54 rfl _ hd).mono ?_
        rintro e w1 ⟨rfl, hb1⟩
        have hc1 := below3 hc0 hb1
        go_wp2_with fail
        refine (twoOf (padT (digestT key) 54) text w1 _ z1 (by omega) (HT.out.below hc1 h0) (by have := hc1.size; omega)).mono ?_
        rintro e w2 ⟨rfl, hb2⟩
        have hc2 := below3 hc1 hb2
        go_wp2_with fail
        refine (padsT (digestT key) 92 92 rfl _ hd).mono ?_
        rintro e w3 ⟨rfl, hb3⟩
        have hc3 := below3 hc2 hb3
        go_wp2_with fail
        refine (twoOf (padT (digestT key) 92) (digestT (padT (digestT key) 54 ++ text)) w3 _ z2 z3 (HT.out.below hc3 h0) (by have := hc3.size; omega)).mono ?_
        rintro e w4 ⟨rfl, hb4⟩
        go_wp2_with fail
        go_ret
        exact ⟨by rw [hE.out]; rfl, below3 hc3 hb4⟩
    · have hE : macS key text = ⟨#[]⟩ := if_neg (by omega)
      rw [hE]
      have h' : ¬ (20000 : Int) < key.size := by omega
      have h2' : (20000 : Int) < text.size := by omega
      go_enter Tryz.func73, Tryz.ntmps73
      go_wp2_with fail
      go_ret
      exact ⟨rfl, Below.refl _ _⟩
  · have hE : macS key text = ⟨#[]⟩ := if_neg (by omega)
    rw [hE]
    have h' : (20000 : Int) < key.size := by omega
    go_enter Tryz.func73, Tryz.ntmps73
    go_wp2_with fail
    go_ret
    exact ⟨rfl, Below.refl _ _⟩
end Go.Proofs.YtconcnndghmdfaaGreatDoor
namespace Go.Proofs.YtconcnndghmdfaaGreatDoor
open Go.RowKit Go
theorem Tab.alloc {w : World} (h : Tab w) (o : Obj) : Tab (w.alloc o) := h.below ((Below.refl w.heap.size w).alloc (Nat.le_refl _) o) h.lt
theorem Tab.low {w w' : World} (h : Tab w) (hb : Below w.heap.size w w') : Tab w' := h.below hb h.lt
theorem imp_macT (M body : ByteArray) (w : World) (hM : M.size ≤ 20000) (hb : body.size ≤ 20000) (htab : Tab w) :
    Calls Tryz.prog 73 #[.string M, .string body] w fun e w' => e = .returned (.string (macT M body)) ∧ Below w.heap.size w w' := by
  have h := impl_mac M body w htab htab.lt
  rw [show macS M body = macT M body from if_pos ⟨hM, hb⟩] at h
  exact h
end Go.Proofs.YtconcnndghmdfaaGreatDoor
namespace Go.Proofs.YtconcnndghmdfaaGreatDoor
open Go.RowKit Go

/-- The bytes of texts, one behind the other. -/
def catB (ss : List ByteArray) : List UInt8 := ss.flatMap (fun s => s.data.toList)

theorem catB_take (ss : List ByteArray) (k : Nat) (hk : k < ss.length) : catB (ss.take (k + 1)) = catB (ss.take k) ++ ss[k].data.toList := by
  unfold catB
  rw [List.take_succ_eq_append_getElem hk, List.flatMap_append, List.flatMap_singleton]
theorem catB_len (ss : List ByteArray) (k : Nat) (hk : k < ss.length) : (catB (ss.take (k + 1))).length = (catB (ss.take k)).length + ss[k].size := by
  rw [catB_take ss k hk]; simp
theorem catB_le (ss : List ByteArray) (k : Nat) : (catB (ss.take k)).length ≤ (catB ss).length := by
  have h : catB ss = catB (ss.take k) ++ catB (ss.drop k) := by
    unfold catB; rw [← List.flatMap_append, List.take_append_drop]
  rw [h]; simp

set_option maxRecDepth 100000 in
set_option maxHeartbeats 400000 in
theorem sizeOf_any (b : Nat) (ss : List ByteArray) (w : World) (hc : ∀ j (hj : j < ss.length), w.cell? ⟨b, j, none⟩ = some (.string ss[j])) (hn : ss.length ≤ 1000) (ht : (catB ss).length ≤ 9223372036854775807) :
    Calls Tryz.prog 72 #[.slice (some ⟨b, 0, none⟩) ss.length ss.length] w fun e w' => e = .returned (.int .i64 ((catB ss).length : Nat)) ∧ w' = w := by
  go_enter Tryz.func72, Tryz.ntmps72
  go_wp2_with fail
  go_loop [3, 8] (fun s i => ∃ k : Nat, k ≤ ss.length ∧ i = .int .i64 k ∧ s = .int .i64 ((catB (ss.take k)).length : Nat)) (fun _ i => ss.length - (intOf i).toNat)
  case atStart => exact ⟨0, by omega, rfl, rfl⟩
  case round =>
    obtain ⟨k, hk, rfl, rfl⟩ := hrel
    have hle := catB_le ss k
    by_cases hlt : k < ss.length
    · have hck := hc k hlt
      have hl := catB_len ss k hlt
      have hl2 := catB_le ss (k + 1)
      have hs : ss[k].size ≤ 9223372036854775807 := by omega
      have hs2 : (catB (ss.take k)).length + ss[k].size ≤ 9223372036854775807 := by omega
      have HL := hide hl
      clear hl hc
      generalize ss[k] = sk at *
      go_wp2_with fail
      go_round
      case rel => exact ⟨k + 1, by omega, by go_num, by rw [unhide HL]; go_num⟩
      case measure => simp [intOf]; omega
    · have hkn : k = ss.length := by omega
      have hfull : (catB (ss.take k)).length = (catB ss).length := by rw [hkn, List.take_length]
      have HF := hide hfull
      clear hfull hle hkn
      go_wp2_with fail
      go_ret
      exact ⟨by rw [HF.out]; rfl, rfl⟩
end Go.Proofs.YtconcnndghmdfaaGreatDoor
namespace Go.Proofs.YtconcnndghmdfaaGreatDoor
open Go.RowKit Go

theorem Tryz.infoJ8 : (Tryz.prog.info? 5).map (fun i => (i.zero, i.size, i.bytes)) = some (some (.int .u8 0), 1, 1) := by kernel_rfl
theorem Tryz.sizeB8 : (Tryz.prog.info? 5).map (·.size) = some 1 := by kernel_rfl

theorem made_row {w : World} {B e g n : Nat} {xs : List Value} (h : w.ownsRow B e 1 (.slice (some ⟨g, 0, none⟩) n n) n xs) : ∃ cur : List Value, Hid (w.heap[g]? = some (.cells cur.toArray e (0, 0))) ∧ cur.length = n := by
  obtain ⟨_, ⟨h1, _⟩ | ⟨g', cap, cur, h1, _, hh, _, _, hs, _⟩⟩ := h
  · cases h1
  · simp at h1
    obtain ⟨rfl, rfl⟩ := h1
    exact ⟨cur.toList, by simpa [Hid] using hh, by simpa using hs⟩

theorem splice_step {k tot : Nat} {ss : List ByteArray} {sk : ByteArray} {cur : List Value} (htk : Hid (cur.take (catB (ss.take k)).length = (catB (ss.take k)).map byteV)) (HT : Hid (catB (ss.take (k + 1)) = catB (ss.take k) ++ sk.data.toList))
    (hs : (catB (ss.take k)).length + sk.size ≤ tot) (hcur : cur.length = tot) :
    (splice cur (catB (ss.take k)).length (sk.data.toList.map byteV)).length = tot ∧ Hid ((splice cur (catB (ss.take k)).length (sk.data.toList.map byteV)).take (catB (ss.take (k + 1))).length = (catB (ss.take (k + 1))).map byteV) := by
  have hsize : sk.data.toList.length = sk.size := by simp
  constructor
  · rw [length_splice _ _ _ (by simp; omega), hcur]
  · show _ = _
    have htk' : cur.take (catB (ss.take k)).length = (catB (ss.take k)).map byteV := htk
    rw [HT.out]
    unfold splice
    rw [htk', List.map_append, ← List.append_assoc]
    exact List.take_left' (by simp)

theorem join_end {P : Program} {w : World} {g e src dst tot : Nat} {ss : List ByteArray} {cur : List Value} (ht : tot = (catB ss).length) (hrow : Hid (w.heap[g]? = some (.cells cur.toArray e (0, 0)))) (hcur : cur.length = tot)
    (htk : Hid (cur.take (catB ss).length = (catB ss).map byteV)) (hs : P.underlying src = some (.slice e)) (he : P.underlying e = some (.int .u8)) (hd : P.underlying dst = some .string) :
    (convert src dst (.slice (some ⟨g, 0, none⟩) tot tot)).run P w = .ok (.string ⟨(catB ss).toArray⟩) w := by
  subst ht
  have hc : cur = (catB ss).map byteV := by rw [← htk.out, List.take_of_length_le (by omega)]
  subst hc
  refine run_convert_bytes_back w src dst e ⟨g, 0, none⟩ (catB ss).length (catB ss) hs he hd (fun j hj => ?_)
  have e1 : (⟨g, 0, none⟩ : Addr).add j = ⟨g, j, none⟩ := by by_cases hz : j = 0 <;> simp [Addr.add, hz]
  rw [e1]
  simp [World.cell?, hrow.out, hj, byteV]

set_option maxRecDepth 100000 in
set_option maxHeartbeats 400000 in
theorem joined_any (b : Nat) (ss : List ByteArray) (w : World) (hc : ∀ j (hj : j < ss.length), w.cell? ⟨b, j, none⟩ = some (.string ss[j])) (hbw : b < w.heap.size) (hn : ss.length ≤ 1000) (ht : (catB ss).length ≤ 1099511627776) :
    Calls Tryz.prog 47 #[.slice (some ⟨b, 0, none⟩) ss.length ss.length] w fun e w' => e = .returned (.string ⟨(catB ss).toArray⟩) ∧ Below w.heap.size w w' := by
  obtain ⟨i0, hi, hz0, hz1, hz2⟩ := info_parts Tryz.infoJ8
  go_enter Tryz.func47, Tryz.ntmps47
  obtain ⟨tot, htot⟩ : ∃ n, n = (catB ss).length := ⟨_, rfl⟩
  have ht' : tot ≤ 1099511627776 := by omega
  have hso := hide (sizeOf_any b ss w hc hn (by omega))
  rw [← htot] at hso
  have HT0 := hide htot
  clear htot
  go_wp2_with fail
  refine (hso.out).mono ?_
  rintro e w0 ⟨rfl, rfl⟩
  go_wp2_with (at_make; refine wpList_make_full _ rfl _ _ 22 rfl w0.heap.size 5 i0 (.int .u8 0) 1 Tryz.underlying22 hi hz0 hz1 .i64 .i64 _ _ tot rfl rfl rfl rfl ?m1 ?m2 (Nat.le_refl _) ?_)
  case m1 => rw [hz2]; omega
  case m2 => unfold maxLen; omega
  intro w1 hown hgrow
  obtain ⟨cur0, hrow0, hcur0⟩ := made_row hown
  have hb1 : Below w0.heap.size w0 w1 := (Below.refl _ _).grown hgrow (Nat.le_refl _) (fun k hk => by cases hk)
  clear hown hgrow
  go_wp2_with fail
  go_loopw [4, 12] (fun a i wr => ∃ (k : Nat) (cur : List Value), k ≤ ss.length ∧ i = .int .i64 k ∧ a = .int .i64 ((catB (ss.take k)).length : Nat) ∧ Hid (wr.heap[w0.heap.size]? = some (.cells cur.toArray 5 (0, 0))) ∧ cur.length = tot ∧ Hid (cur.take (catB (ss.take k)).length = (catB (ss.take k)).map byteV) ∧ Below w0.heap.size w0 wr) (fun _ i _ => ss.length - (intOf i).toNat)
  case atStart => exact ⟨0, cur0, by omega, rfl, rfl, hrow0, hcur0, rfl, hb1⟩
  case round =>
    obtain ⟨k, cur, hk, rfl, rfl, hrow, hcur, htk, hb2⟩ := hrel
    have hle : (catB (ss.take k)).length ≤ tot := by rw [unhide HT0]; exact catB_le ss k
    by_cases hlt : k < ss.length
    · have hck : wr.cell? ⟨b, k, none⟩ = some (.string ss[k]) := (hb2.cell (by exact hbw)).trans (hc k hlt)
      have hl := catB_len ss k hlt
      have hl2 := catB_le ss (k + 1)
      have hs : (catB (ss.take k)).length + ss[k].size ≤ tot := by rw [unhide HT0]; omega
      have HL := hide hl
      have HT := hide (catB_take ss k hlt)
      clear hl hl2 hc ht
      generalize ss[k] = sk at *
      have R := hide (splice_step htk HT hs hcur)
      generalize hat : (catB (ss.take k)).length = at0 at *
      have HC := hide hcur
      clear hat htk hcur HT0
      rcases (show at0 < tot ∨ at0 = tot from by omega) with hlt2 | rfl
      · have hne : ¬ tot = at0 := by omega
        go_wp2_with (refine wpList_copy_str rfl _ _ 22 9 rfl 5 Tryz.underlying22 Tryz.sizeB8 _ _ _ rfl sk rfl w0.heap.size at0 cur 5 hrow.out (by omega) (fun _ => by simp) (by rw [unhide HC]; omega) w0.heap.size w0 hb2 (Nat.le_refl _) ?_)
        intro w2 hrow2 hb3
        clear hrow hb2 hck
        go_wp2_with fail
        go_roundw
        case rel => exact ⟨k + 1, _, by omega, by go_num, by rw [unhide HL]; go_num, hrow2, R.out.1, R.out.2, hb3⟩
        case measure => simp [intOf]; omega
      · have hz : sk.size = 0 := by omega
        go_wp2_with (refine wpList_copy_str rfl _ _ 22 9 rfl 5 Tryz.underlying22 Tryz.sizeB8 _ _ _ rfl sk rfl w0.heap.size at0 cur 5 hrow.out (by omega) (fun _ => by omega) (by rw [unhide HC]; omega) w0.heap.size w0 hb2 (Nat.le_refl _) ?_)
        intro w2 hrow2 hb3
        clear hrow hb2 hck
        go_wp2_with fail
        go_roundw
        case rel => exact ⟨k + 1, _, by omega, by go_num, by rw [unhide HL]; go_num, hrow2, R.out.1, R.out.2, hb3⟩
        case measure => simp [intOf]; omega
    · have hkn : k = ss.length := by omega
      have hcv := join_end (P := Tryz.prog) (unhide HT0) hrow hcur (by rw [hkn, List.take_length] at htk; exact htk) Tryz.underlying22 Tryz.underlying5 Tryz.underlying9
      clear hkn htk hcur hrow hc
      go_wp2
      go_ret
      exact ⟨rfl, hb2⟩
end Go.Proofs.YtconcnndghmdfaaGreatDoor
namespace Go.Proofs.YtconcnndghmdfaaGreatDoor
open Go.RowKit

theorem cat_one (s : ByteArray) : (⟨(catB [s]).toArray⟩ : ByteArray) = s := by
  apply ByteArray.ext; simp [catB]
theorem cat_two (s t : ByteArray) : (⟨(catB [s, t]).toArray⟩ : ByteArray) = s ++ t := by
  apply ByteArray.ext; simp [catB]

theorem joined_one (s : ByteArray) (w : World) (b : Nat) (hbw : b = w.heap.size) (h : s.size ≤ 1099511627776) :
    Calls Tryz.prog 47 #[.slice (some ⟨b, 0, none⟩) 1 1] (w.alloc (.cells #[.string s] 9)) fun e w' => e = .returned (.string s) ∧ Below w.heap.size w w' := by
  subst hbw
  refine (joined_any w.heap.size [s] (w.alloc (.cells #[.string s] 9)) ?_ (by simp) (by simp) (by simpa [catB] using h)).mono ?_
  · intro j hj
    match j, hj with
    | 0, _ => simp
  · rintro e w' ⟨rfl, hb⟩
    exact ⟨by rw [cat_one], ((Below.refl w.heap.size w).alloc (Nat.le_refl _) _).trans (hb.mono (by simp))⟩
theorem joined_two (s t : ByteArray) (w : World) (b : Nat) (hbw : b = w.heap.size) (h : s.size + t.size ≤ 1099511627776) :
    Calls Tryz.prog 47 #[.slice (some ⟨b, 0, none⟩) 2 2] (w.alloc (.cells #[.string s, .string t] 9)) fun e w' => e = .returned (.string (s ++ t)) ∧ Below w.heap.size w w' := by
  subst hbw
  refine (joined_any w.heap.size [s, t] (w.alloc (.cells #[.string s, .string t] 9)) ?_ (by simp) (by simp) (by simpa [catB] using h)).mono ?_
  · intro j hj
    match j, hj with
    | 0, _ => simp
    | 1, _ => simp
  · rintro e w' ⟨rfl, hb⟩
    exact ⟨by rw [cat_two], ((Below.refl w.heap.size w).alloc (Nat.le_refl _) _).trans (hb.mono (by simp))⟩
end Go.Proofs.YtconcnndghmdfaaGreatDoor
namespace Go.Proofs.YtconcnndghmdfaaGreatDoor
open Go.RowKit Go
set_option maxRecDepth 100000 in
set_option maxHeartbeats 800000 in
theorem imp_macOf (H M body : ByteArray) (w : World) (hM : M.size ≤ 20000) (hb : body.size ≤ 20000) (htab : Tab w) :
    Calls Tryz.prog 48 #[.agg #[.string H, .string M], .string body] w fun e w' => e = .returned (.string (take16 (macT M body))) ∧ Below w.heap.size w w' := by
  have HX := macT_size M body
  have S := hide (imp_macT M body (w.alloc (.cells #[.string H, .string M] 24)) hM hb (htab.alloc _))
  have E := hide (show take16 (macT M body) = (macT M body).extract 0 16 from rfl)
  have hsl : ∀ W : World, (Instr.slice 9 (.string (macT M body)) none (some (.int .i64 16)) none).run Tryz.prog W = .ok (.string ((macT M body).extract 0 16)) W := fun W => run_front (P := Tryz.prog) W 9 (macT M body) 16 Tryz.underlying9 (by rw [HX]; decide)
  have hX' : (16 : Int) ≤ ((macT M body).size : Int) := by rw [HX]; decide
  have q0 := hide ((Below.refl w.heap.size w).alloc (Nat.le_refl _) (.cells #[.string H, .string M] 24))
  generalize macT M body = X at *
  clear HX htab hM hb
  go_enter Tryz.func48, Tryz.ntmps48
  go_wp2_with fail
  refine S.out.mono ?_
  rintro e w1 ⟨rfl, hb1⟩
  have HB := hide (q0.out.trans (hb1.mono (by simp)))
  clear hb1 S
  go_wp2_with fail
  go_ret
  exact ⟨by rw [E.out]; first | done | rfl, HB.out⟩
theorem cat_three (a b c : ByteArray) : (⟨(catB [a, b, c]).toArray⟩ : ByteArray) = a ++ b ++ c := by
  apply ByteArray.ext; simp [catB]
set_option maxRecDepth 100000 in
set_option maxHeartbeats 800000 in
theorem imp_sealed (H M a b c : ByteArray) (B : Nat) (w : World) (hM : M.size ≤ 20000) (hs : (a ++ b ++ c).size ≤ 20000) (htab : Tab w) (hc : w.heap[B]? = some (.cells #[.string a, .string b, .string c] 9 (0, 0))) :
    Calls Tryz.prog 27 #[.agg #[.string H, .string M], .slice (some ⟨B, 0, none⟩) 3 3] w fun e w' => e = .returned (.string (a ++ b ++ c ++ take16 (macT M (a ++ b ++ c)))) ∧ Below w.heap.size w w' := by
  have hB : B < w.heap.size := (Array.getElem?_eq_some_iff.1 hc).1
  have hl : (catB [a, b, c]).length ≤ 1099511627776 := by
    have e : (⟨(catB [a, b, c]).toArray⟩ : ByteArray).size = (catB [a, b, c]).length := size_mk _
    rw [cat_three] at e
    omega
  have hw : ∀ W, Below w.heap.size w W → W.heap[B]? = some (.cells #[.string a, .string b, .string c] 9 (0, 0)) := fun W h => (h.block B hB).trans hc
  have q0 := (Below.refl w.heap.size w).alloc (Nat.le_refl _) (.cells #[.string H, .string M] 24)
  have S1 := joined_any B [a, b, c] (w.alloc (.cells #[.string H, .string M] 24)) (fun j hj => by
    have h := hw _ q0
    match j, hj with
    | 0, _ => simp [World.cell?, h]
    | 1, _ => simp [World.cell?, h]
    | 2, _ => simp [World.cell?, h]) (by simp; omega) (by simp) hl
  rw [cat_three] at S1
  generalize a ++ b ++ c = T at *
  have S1 : Calls Tryz.prog 47 #[.slice (some ⟨B, 0, none⟩) 3 3] (w.alloc (.cells #[.string H, .string M] 24)) fun e w' => e = .returned (.string T) ∧ Below (w.alloc (.cells #[.string H, .string M] 24)).heap.size (w.alloc (.cells #[.string H, .string M] 24)) w' := S1
  have S1 := hide S1
  have S2 := hide (fun W (h : Tab W) => imp_macOf H M T W hM hs h)
  have h16 : (take16 (macT M T)).size = 16 := take16_size _ (by rw [macT_size]; decide)
  have S3 := hide (fun W b hb => joined_two T (take16 (macT M T)) W b hb (by omega))
  generalize take16 (macT M T) = X at *
  have HT := hide htab
  have Q0 := hide q0
  clear hw q0 hc hl htab
  go_enter Tryz.func27, Tryz.ntmps27
  go_wp2_with fail
  refine S1.out.mono ?_
  rintro e w1 ⟨rfl, hb1⟩
  simp at hb1
  have c0 := (keys_cells hb1 (Nat.lt_succ_self _) (heap_alloc_new w _)).1
  have c1 := (keys_cells hb1 (Nat.lt_succ_self _) (heap_alloc_new w _)).2.1
  have hB1 : Below w.heap.size w w1 := Q0.out.trans (hb1.mono (Nat.le_succ _))
  have HB := hide hB1
  have HT1 := hide (HT.out.low hB1)
  clear hb1 hB1 S1
  go_wp2_with fail
  refine (S2.out _ HT1.out).mono ?_
  rintro e w2 ⟨rfl, hb2⟩
  have HB2 := hide (HB.out.trans (hb2.mono HB.out.size))
  clear hb2 S2 c0 c1
  go_wp2_with fail
  refine (S3.out w2 _ rfl).mono ?_
  rintro e w3 ⟨rfl, hb3⟩
  have HB3 := hide (HB2.out.trans (hb3.mono HB2.out.size))
  clear hb3 S3
  go_wp2_with fail
  go_ret
  exact ⟨rfl, HB3.out⟩
end Go.Proofs.YtconcnndghmdfaaGreatDoor
namespace Go.Proofs.YtconcnndghmdfaaGreatDoor
open Go

theorem wraps64 (n : Int) (h₀ : 0 ≤ n) (h₁ : n < 2 ^ 64) : IntKind.u64.wrap n = n := by rw [IntKind.wrap_u64]; omega
theorem u64_and127 (x : Int) (h₀ : 0 ≤ x) (h₁ : x < 18446744073709551616) : bits .and .u64 x 127 = x % 128 := bits_mask .u64 64 (by decide) wraps64 7 (by decide) x h₀ h₁
theorem u8_or_128 (x : Int) (h₀ : 0 ≤ x) (h₁ : x < 128) : bits .or .u8 x 128 = x + 128 := by
  obtain ⟨a, rfl⟩ := Int.eq_ofNat_of_zero_le h₀
  have ha : a < 128 := by omega
  rw [show (128 : Int) = ((128 : Nat) : Int) from rfl, (bits_nat .u8 8 (by decide) wraps_u8 a 128 (by omega) (by decide)).2]
  have h := Nat.two_pow_add_eq_or_of_lt (i := 7) ha 1
  rw [Nat.or_comm]
  have e : (2 : Nat) ^ 7 * 1 = 128 := by decide
  rw [e] at h
  rw [← h]; omega

theorem xor_ones (a : Nat) (ha : a < 18446744073709551616) : a ^^^ 18446744073709551615 = 18446744073709551615 - a := by
  have h1 : (BitVec.ofNat 64 a ^^^ BitVec.allOnes 64).toNat = (~~~ (BitVec.ofNat 64 a)).toNat := by rw [BitVec.xor_allOnes]
  rw [BitVec.toNat_xor, BitVec.toNat_not, BitVec.toNat_ofNat, BitVec.toNat_allOnes] at h1
  have e : a % 2 ^ 64 = a := Nat.mod_eq_of_lt (by omega)
  rw [e] at h1
  have e2 : (2 : Nat) ^ 64 - 1 = 18446744073709551615 := by decide
  rw [e2] at h1
  exact h1

/-- Twice n, its bits turned below 0. -/
theorem zig (n : Int) (h1 : -9223372036854775808 ≤ n) (h2 : n ≤ 9223372036854775807) :
    bits .xor .u64 (IntKind.u64.wrap (IntKind.u64.wrap n * 2)) (IntKind.u64.wrap (n / 9223372036854775808)) = (foldNum n : Int) := by
  simp only [IntKind.wrap_u64]
  by_cases h : n < 0
  · have e1 : (n % 18446744073709551616 * 2) % 18446744073709551616 = ((2 * n + 18446744073709551616).toNat : Int) := by omega
    have e2 : (n / 9223372036854775808) % 18446744073709551616 = ((18446744073709551615 : Nat) : Int) := by omega
    rw [e1, e2, bits_xor_u64_nat _ _ (by omega) (by omega), xor_ones _ (by omega)]
    unfold foldNum; rw [if_pos h]; omega
  · have e1 : (n % 18446744073709551616 * 2) % 18446744073709551616 = ((2 * n).toNat : Int) := by omega
    have e2 : (n / 9223372036854775808) % 18446744073709551616 = ((0 : Nat) : Int) := by omega
    rw [e1, e2, bits_xor_u64_nat _ _ (by omega) (by omega), Nat.xor_zero]
    unfold foldNum; rw [if_neg h]
end Go.Proofs.YtconcnndghmdfaaGreatDoor
namespace Go.Proofs.YtconcnndghmdfaaGreatDoor
open Go.RowKit
set_option maxRecDepth 100000 in
set_option maxHeartbeats 400000 in
theorem impl_putNum (n : Int) (w : World) (h1 : -9223372036854775808 ≤ n) (h2 : n ≤ 9223372036854775807) :
    Calls Tryz.prog 28 #[.int .i64 n] w fun e w' => e = .returned (.string ⟨(encNum (foldNum n)).toArray⟩) ∧ Below w.heap.size w w' := by
  have hm := fold_le n h1 h2
  have hz := zig n h1 h2
  obtain ⟨i0, hi, hz0, hz1, hz2⟩ := info_parts Tryz.infoU8
  go_enter Tryz.func28, Tryz.ntmps28
  go_wp2_with fail
  go_loopw [3, 4] (fun u v wr => ∃ (U : Nat) (done : List UInt8), (U : Int) ≤ 18446744073709551615 ∧ u = .int .u64 U ∧ Hid (done ++ encNum U = encNum (foldNum n)) ∧ wr.ownsRow w.heap.size 5 1 v done.length (done.map byteV) ∧ Below w.heap.size w wr) (fun u _ _ => (intOf u).toNat)
  case atStart => exact ⟨foldNum n, [], by omega, by first | rfl | rw [hz], rfl, World.ownsRow_nil _ _ _ _, Below.refl _ _⟩
  case round =>
    obtain ⟨U, done, hU, rfl, hd, hown, hb⟩ := hrel
    have hl := len_le hd.out hm
    have hs := hb.size
    have hm7 := u64_and127 U (by omega) (by omega)
    have ho7 := u8_or_128 ((U : Int) % 128) (by omega) (by omega)
    clear hm hz
    by_cases hlt : U < 128
    · go_wp2_with (at_builtin; refine wpList_append_own _ rfl _ _ 22 rfl w.heap.size 5 i0 (.int .u8 0) 1 1 Tryz.underlying22 hi hz0 hz1 hz2 rfl (by decide) _ _ _ rfl (hown.alloc _) ⟨wr.heap.size, 0, none⟩ 1 1 [.int .u8 (U : Int)] rfl rfl (one_cell _ _ _) (one_oneCell _ _) ?c3 ?c4 ?c5 ?_)
      case c3 => unfold maxLen; omega
      case c4 => omega
      case c5 => simp; omega
      intro v' w1 hown' hgrow _
      have R := last_step hlt hd.out hown hown' hgrow hb
      clear hown hown' hgrow hb
      obtain ⟨g, cap, rfl, hcv, hb'⟩ := R
      have hcv := hcv Tryz.prog 22 9 Tryz.underlying22 Tryz.underlying5 Tryz.underlying9
      go_wp2
      go_ret
      exact ⟨rfl, hb'⟩
    · go_wp2_with (at_builtin; refine wpList_append_own _ rfl _ _ 22 rfl w.heap.size 5 i0 (.int .u8 0) 1 1 Tryz.underlying22 hi hz0 hz1 hz2 rfl (by decide) _ _ _ rfl (hown.alloc _) ⟨wr.heap.size, 0, none⟩ 1 1 [.int .u8 ((U : Int) % 128 + 128)] rfl rfl (one_cell _ _ _) (one_oneCell _ _) ?d3 ?d4 ?d5 ?_)
      case d3 => unfold maxLen; omega
      case d4 => omega
      case d5 => simp; omega
      intro v' w1 hown' hgrow _
      have R := more_step hlt hd.out hown hown' hgrow hb
      clear hown hown' hgrow hb
      go_wp2
      go_roundw
      case rel => exact ⟨U / 128, _, by omega, by go_num, R.1, R.2.1, R.2.2⟩
      case measure => simp [intOf]; omega
end Go.Proofs.YtconcnndghmdfaaGreatDoor

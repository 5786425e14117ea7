/- The walk over the program's joined: texts put together. -/
import Derived.Test.YtipeelkmmjgehabSizeI
import Derived.Test.YtipeelkmmjgehabCopy
import Derived.WalkKit
import Derived.WalkSpells
namespace Go.Proofs.Ytipeelkmmjgehab
open Go.RowKit Go

theorem Try.infoB8 : (Try.prog.info? 5).map (fun i => (i.zero, i.size, i.bytes)) = some (some (.int .u8 0), 1, 1) := by kernel_rfl
theorem Try.sizeB8 : (Try.prog.info? 5).map (·.size) = some 1 := by kernel_rfl

theorem made_row {w : World} {B e g n : Nat} {xs : List Value} (h : w.ownsRow B e 1 (.slice (some ⟨g, 0, none⟩) n n) n xs) : ∃ cur : List Value, Hid (w.heap[g]? = some (.cells cur.toArray e (0, 0))) ∧ cur.length = n := by
  obtain ⟨_, ⟨h1, _⟩ | ⟨g', cap, cur, h1, _, hh, _, _, hs, _⟩⟩ := h
  · cases h1
  · simp at h1
    obtain ⟨rfl, rfl⟩ := h1
    exact ⟨cur.toList, by simpa [Hid] using hh, by simpa using hs⟩

theorem splice_step {k tot : Nat} {ss : List ByteArray} {sk : ByteArray} {cur : List Value} (htk : Hid (cur.take (catB (ss.take k)).length = (catB (ss.take k)).map byteV)) (HT : Hid (catB (ss.take (k + 1)) = catB (ss.take k) ++ sk.data.toList))
    (hs : (catB (ss.take k)).length + sk.size ≤ tot) (hcur : cur.length = tot) :
    (splice cur (catB (ss.take k)).length (sk.data.toList.map byteV)).length = tot ∧ Hid ((splice cur (catB (ss.take k)).length (sk.data.toList.map byteV)).take (catB (ss.take (k + 1))).length = (catB (ss.take (k + 1))).map byteV) := by
  have hsize : sk.data.toList.length = sk.size := by simp
  constructor
  · rw [length_splice _ _ _ (by simp; omega), hcur]
  · show _ = _
    have htk' : cur.take (catB (ss.take k)).length = (catB (ss.take k)).map byteV := htk
    rw [HT.out]
    unfold splice
    rw [htk', List.map_append, ← List.append_assoc]
    exact List.take_left' (by simp)

theorem join_end {P : Program} {w : World} {g e src dst tot : Nat} {ss : List ByteArray} {cur : List Value} (ht : tot = (catB ss).length) (hrow : Hid (w.heap[g]? = some (.cells cur.toArray e (0, 0)))) (hcur : cur.length = tot)
    (htk : Hid (cur.take (catB ss).length = (catB ss).map byteV)) (hs : P.underlying src = some (.slice e)) (he : P.underlying e = some (.int .u8)) (hd : P.underlying dst = some .string) :
    (convert src dst (.slice (some ⟨g, 0, none⟩) tot tot)).run P w = .ok (.string ⟨(catB ss).toArray⟩) w := by
  subst ht
  have hc : cur = (catB ss).map byteV := by rw [← htk.out, List.take_of_length_le (by omega)]
  subst hc
  refine run_convert_bytes_back w src dst e ⟨g, 0, none⟩ (catB ss).length (catB ss) hs he hd (fun j hj => ?_)
  have e1 : (⟨g, 0, none⟩ : Addr).add j = ⟨g, j, none⟩ := by by_cases hz : j = 0 <;> simp [Addr.add, hz]
  rw [e1]
  simp [World.cell?, hrow.out, hj, byteV]

set_option maxRecDepth 100000 in
set_option maxHeartbeats 400000 in
theorem joined_any (b : Nat) (ss : List ByteArray) (w : World) (hc : ∀ j (hj : j < ss.length), w.cell? ⟨b, j, none⟩ = some (.string ss[j])) (hbw : b < w.heap.size) (hn : ss.length ≤ 1000) (ht : (catB ss).length ≤ 1099511627776) :
    Calls Try.prog 62 #[.slice (some ⟨b, 0, none⟩) ss.length ss.length] w fun e w' => e = .returned (.string ⟨(catB ss).toArray⟩) ∧ Below w.heap.size w w' := by
  obtain ⟨i0, hi, hz0, hz1, hz2⟩ := info_parts Try.infoB8
  go_enter Try.func62, Try.ntmps62
  obtain ⟨tot, htot⟩ : ∃ n, n = (catB ss).length := ⟨_, rfl⟩
  have ht' : tot ≤ 1099511627776 := by omega
  have hso := hide (sizeOf_any b ss w hc hn (by omega))
  rw [← htot] at hso
  have HT0 := hide htot
  clear htot
  go_wp2_with fail
  refine (hso.out).mono ?_
  rintro e w0 ⟨rfl, rfl⟩
  go_wp2_with (at_make; refine wpList_make_full _ rfl _ _ 22 rfl w0.heap.size 5 i0 (.int .u8 0) 1 Try.underlying22 hi hz0 hz1 .i64 .i64 _ _ tot rfl rfl rfl rfl ?m1 ?m2 (Nat.le_refl _) ?_)
  case m1 => rw [hz2]; omega
  case m2 => unfold maxLen; omega
  intro w1 hown hgrow
  obtain ⟨cur0, hrow0, hcur0⟩ := made_row hown
  have hb1 : Below w0.heap.size w0 w1 := (Below.refl _ _).grown hgrow (Nat.le_refl _) (fun k hk => by cases hk)
  clear hown hgrow
  go_wp2_with fail
  go_loopw [4, 12] (fun a i wr => ∃ (k : Nat) (cur : List Value), k ≤ ss.length ∧ i = .int .i64 k ∧ a = .int .i64 ((catB (ss.take k)).length : Nat) ∧ Hid (wr.heap[w0.heap.size]? = some (.cells cur.toArray 5 (0, 0))) ∧ cur.length = tot ∧ Hid (cur.take (catB (ss.take k)).length = (catB (ss.take k)).map byteV) ∧ Below w0.heap.size w0 wr) (fun _ i _ => ss.length - (intOf i).toNat)
  case atStart => exact ⟨0, cur0, by omega, rfl, rfl, hrow0, hcur0, rfl, hb1⟩
  case round =>
    obtain ⟨k, cur, hk, rfl, rfl, hrow, hcur, htk, hb2⟩ := hrel
    have hle : (catB (ss.take k)).length ≤ tot := by rw [unhide HT0]; exact catB_le ss k
    by_cases hlt : k < ss.length
    · have hck : wr.cell? ⟨b, k, none⟩ = some (.string ss[k]) := (hb2.cell (by exact hbw)).trans (hc k hlt)
      have hl := catB_len ss k hlt
      have hl2 := catB_le ss (k + 1)
      have hs : (catB (ss.take k)).length + ss[k].size ≤ tot := by rw [unhide HT0]; omega
      have HL := hide hl
      have HT := hide (catB_take ss k hlt)
      clear hl hl2 hc ht
      generalize ss[k] = sk at *
      have R := hide (splice_step htk HT hs hcur)
      generalize hat : (catB (ss.take k)).length = at0 at *
      have HC := hide hcur
      clear hat htk hcur HT0
      rcases (show at0 < tot ∨ at0 = tot from by omega) with hlt2 | rfl
      · have hne : ¬ tot = at0 := by omega
        go_wp2_with (refine wpList_copy_str rfl _ _ 22 9 rfl 5 Try.underlying22 Try.sizeB8 _ _ _ rfl sk rfl w0.heap.size at0 cur 5 hrow.out (by omega) (fun _ => by simp) (by rw [unhide HC]; omega) w0.heap.size w0 hb2 (Nat.le_refl _) ?_)
        intro w2 hrow2 hb3
        clear hrow hb2 hck
        go_wp2_with fail
        go_roundw
        case rel => exact ⟨k + 1, _, by omega, by go_num, by rw [unhide HL]; go_num, hrow2, R.out.1, R.out.2, hb3⟩
        case measure => simp [intOf]; omega
      · have hz : sk.size = 0 := by omega
        go_wp2_with (refine wpList_copy_str rfl _ _ 22 9 rfl 5 Try.underlying22 Try.sizeB8 _ _ _ rfl sk rfl w0.heap.size at0 cur 5 hrow.out (by omega) (fun _ => by omega) (by rw [unhide HC]; omega) w0.heap.size w0 hb2 (Nat.le_refl _) ?_)
        intro w2 hrow2 hb3
        clear hrow hb2 hck
        go_wp2_with fail
        go_roundw
        case rel => exact ⟨k + 1, _, by omega, by go_num, by rw [unhide HL]; go_num, hrow2, R.out.1, R.out.2, hb3⟩
        case measure => simp [intOf]; omega
    · have hkn : k = ss.length := by omega
      have hcv := join_end (P := Try.prog) (unhide HT0) hrow hcur (by rw [hkn, List.take_length] at htk; exact htk) Try.underlying22 Try.underlying5 Try.underlying9
      clear hkn htk hcur hrow hc
      go_wp2
      go_ret
      exact ⟨rfl, hb2⟩
end Go.Proofs.Ytipeelkmmjgehab

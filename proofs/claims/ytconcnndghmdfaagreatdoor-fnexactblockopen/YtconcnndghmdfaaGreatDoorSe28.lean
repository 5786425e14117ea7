/- Put together: ImpEnd, ImpOf, ImpPad, ImpMac, ImpAesT, TabMath. -/
import Derived.Test.YtconcnndghmdfaaGreatDoorSe27
import Derived.Test.YtconcnndghmdfaaGreatDoorSe4
namespace Go.Proofs.YtconcnndghmdfaaGreatDoor
open Go.RowKit
theorem HAt.below {w w' : World} {base g : Nat} {L : List UInt8} {m : Nat} (h : HAt w base g L m) (hb : Below w.heap.size w w') : HAt w' base g L m := by
  obtain ⟨rv, h1, h2, h3⟩ := h
  exact ⟨rv, h1.of_block (hb.block g h1.lt), h2.kept ⟨hb.os, hb.tape, hb.output, hb.size, fun k hk _ => hb.block k hk⟩, h3⟩
theorem HAt.lt {w : World} {base g : Nat} {L : List UInt8} {m : Nat} (h : HAt w base g L m) : g < w.heap.size := by
  obtain ⟨rv, h1, _⟩ := h; exact h1.lt
theorem HAt.cell {w : World} {base g : Nat} {L : List UInt8} (h : HAt w base g L (L.length / 64)) : ∃ a cap, w.cell? ⟨g, 8, none⟩ = some (.slice a (L.length % 64) cap) := by
  obtain ⟨rv, h1, h2, h3⟩ := h
  obtain ⟨a, cap, e⟩ := h2.form
  refine ⟨a, cap, ?_⟩
  rw [hash_rest h1, e, List.length_drop, show L.length - 64 * (L.length / 64) = L.length % 64 by omega]
theorem HAt.many {w : World} {base g : Nat} {L : List UInt8} {m : Nat} (h : HAt w base g L m) : w.cell? ⟨g, 9, none⟩ = some (.int .u64 (L.length : Nat)) := by
  obtain ⟨rv, h1, _⟩ := h; exact hash_many h1
theorem run_stB8 {P : Program} {w : World} {g n : Nat} {k : Nat → UInt8} (h : w.there g 0 n) : (storeCells ⟨g, 0, none⟩ (bL n k)).run P w = .ok () (w.setCells g 0 (bL n k)) :=
  run_storeCells_cells (P := P) g 0 (bL n k) 0 w (fun j hj => by rw [Nat.add_zero]; exact (h j (by rwa [bL_len] at hj)).1) (fun j hj => by rw [Nat.add_zero]; exact (h j (by rwa [bL_len] at hj)).2) (bL_one _ _)
def zrow (L : List UInt8) (z : Nat) : List UInt8 := L ++ [128] ++ List.replicate z 0
theorem zrow_len (L : List UInt8) (z : Nat) : (zrow L z).length = L.length + 1 + z := by simp [zrow]; omega
theorem zrow_succ (L : List UInt8) (z : Nat) : zrow L z ++ [0] = zrow L (z + 1) := by
  unfold zrow; rw [List.append_assoc _ _ [0], List.replicate_succ']
theorem padded_zrow (L : List UInt8) (B : ByteArray) (z : Nat) (hz : z = zerosN L.length) (hB : B = ⟨((List.range 8).map (lenB L.length)).toArray⟩) : padded ⟨L.toArray⟩ = zrow L z ++ B.data.toList := by
  subst hB hz
  unfold padded padded1 zrow
  rw [size_mk]
theorem add' (base g : Nat) (L M : List UInt8) (t : ByteArray) (w : World) (hM : M = L ++ t.data.toList) (hH : HAt w base g L (L.length / 64)) (htab : Tab w) (hb0 : 1 < base) (hbg : base ≤ g) (hlen : L.length + t.size ≤ 1099511627776) :
    Calls Tryz.prog 138 #[.pointer (some ⟨g, 0, none⟩), .string t] w fun e w' => e = .returned (.tuple #[]) ∧ HAt w' base g M (M.length / 64) ∧ Below base w w' := by
  subst hM; exact add base g L t w hH htab hb0 hbg hlen
set_option maxRecDepth 100000 in
set_option maxHeartbeats 1600000 in
theorem ends (base g : Nat) (L : List UInt8) (w : World) (hH : HAt w base g L (L.length / 64)) (htab : Tab w) (hb0 : 1 < base) (hbg : base ≤ g) (hlen : L.length ≤ 1073741824) :
    Calls Tryz.prog 139 #[.pointer (some ⟨g, 0, none⟩)] w fun e w' => e = .returned (.string (digestT ⟨L.toArray⟩)) ∧ Below base w w' := by
  have c9 := hH.many
  obtain ⟨N, hN⟩ : ∃ N, N = L.length := ⟨_, rfl⟩
  rw [← hN] at c9
  have hN' : (N : Int) ≤ 1073741824 := by omega
  have HN := hide hN
  clear hN
  go_enter Tryz.func139, Tryz.ntmps139
  go_wp2_with fail
  refine (add' base g L (zrow L 0) ⟨#[128]⟩ w (by simp [zrow]) hH htab hb0 hbg (by show L.length + 1 ≤ _; omega)).mono ?_
  rintro e w1 ⟨rfl, hH1, hB1⟩
  have HT := hide htab
  clear hH c9 htab
  go_wp2_with fail
  go_loopw [13] (fun _ wx => ∃ z : Nat, z ≤ zerosN N ∧ HAt wx base g (zrow L z) ((zrow L z).length / 64) ∧ Hid (Below base w wx)) (fun _ wx => (120 - restLen wx g) % 64)
  case atStart => exact ⟨0, Nat.zero_le _, hH1, hB1⟩
  case round =>
    clear hH1 hB1
    obtain ⟨z, hz, hH, hB⟩ := hrel
    obtain ⟨a, cap, c8⟩ := hH.cell
    have hR := hide (restLen_of c8)
    have hlz := zrow_len L z
    rw [← HN.out] at hlz
    obtain ⟨R, hRR⟩ : ∃ R, R = (zrow L z).length % 64 := ⟨_, rfl⟩
    rw [← hRR] at c8 hR
    have HRR := hide (show R = (N + 1 + z) % 64 by rw [hRR, hlz])
    have HLZ := hide hlz
    clear hRR hlz
    by_cases h56 : R = 56
    · have h56' : (R : Int) = 56 := by omega
      go_wp2_with fail
      have hzz := hide (show z = zerosN N by have h1 := HRR.out; unfold zerosN at hz ⊢; omega)
      have hH0 := hide hH
      have hlt0 := hH.lt
      have hBs : base ≤ wr.heap.size := by omega
      clear hH hR c8 h56 h56' HRR hz
      generalize wr = W0 at *
      have hL0 := hide (show ∀ w, Calls Tryz.prog 78 #[.int .u64 (8 * (N : Int))] w fun e w' => e = .returned (.agg (bL 8 (lenB N)).toArray) ∧ Below w.heap.size w w' from fun w => by
        have h := imp_highest (8 * N) w (by omega)
        rw [show ((8 * N : Nat) : Int) = 8 * (N : Int) by omega] at h
        exact h)
      refine (hL0.out _).mono ?_
      rintro e w5 ⟨rfl, hb5⟩
      obtain ⟨LF, hLF⟩ : ∃ f, f = lenB N := ⟨_, rfl⟩
      rw [← hLF]
      have HLF := hide hLF
      have z0 : (w5.alloc (.cells #[Value.int .u8 0, Value.int .u8 0, Value.int .u8 0, Value.int .u8 0, Value.int .u8 0, Value.int .u8 0, Value.int .u8 0, Value.int .u8 0] 105)).rowIs w5.heap.size 105 8 (u8V fun _ => 0) := zeros8_row 8 w5 _ _ rfl
      have hst := run_stB8 (P := Tryz.prog) (k := LF) (row_there (o := 0) (n := 8) z0 (by omega))
      have lL : (bL 8 LF).length = 8 := bL_len 8 LF
      have hrw := row_setCells0 (k := LF) z0
      have hbl := below_setCells' (b := w5.heap.size) (o := 0) (vs := bL 8 LF) ((hb5.alloc hb5.size (.cells #[Value.int .u8 0, Value.int .u8 0, Value.int .u8 0, Value.int .u8 0, Value.int .u8 0, Value.int .u8 0, Value.int .u8 0, Value.int .u8 0] 105))) hb5.size
      have hcv := conv_row (P := Tryz.prog) (cap := 8) hrw (l := (List.range 8).map (lenB N)) (fun j hj => by rw [List.getElem?_map, List.getElem?_range hj, HLF.out]; rfl) (by simp) Tryz.underlying22 Tryz.underlying5 Tryz.underlying9
      clear hLF z0 hb5
      generalize hWW : (w5.alloc (.cells #[Value.int .u8 0, Value.int .u8 0, Value.int .u8 0, Value.int .u8 0, Value.int .u8 0, Value.int .u8 0, Value.int .u8 0, Value.int .u8 0] 105)).setCells w5.heap.size 0 (bL 8 LF) = wr at *
      obtain ⟨LB, hLB⟩ : ∃ x : ByteArray, x = ⟨((List.range 8).map (lenB N)).toArray⟩ := ⟨_, rfl⟩
      rw [← hLB] at hcv
      have HLB := hide hLB
      clear hLB
      go_wp2_with fail
      have hM := hide (padded_zrow L LB z (by rw [← HN.out]; exact hzz.out) (by rw [← HN.out]; exact HLB.out))
      have hT := hide (HT.out.below (hB.out.trans (hbl.mono hBs)) hb0)
      refine (add' base g (zrow L z) (padded ⟨L.toArray⟩) LB wr hM.out (hH0.out.below hbl) hT.out hb0 hbg ?_).mono ?_
      · have h1 := HLZ.out
        have h2 := hzz.out
        have h3 : LB.size = 8 := by rw [HLB.out, size_mk]; simp
        unfold zerosN at h2
        omega
      rintro e w3 ⟨rfl, hH3, hB3⟩
      have hBl := hide ((hB.out.trans (hbl.mono hBs)).trans hB3)
      obtain ⟨rv3, hr3, _⟩ := hH3
      clear hcv hrw
      go_wp2_with fail
      refine (tell g (stAt (padded ⟨L.toArray⟩) ((padded ⟨L.toArray⟩).length / 64)) _ _ w3 (stAt_lt _ _) hr3).mono ?_
      rintro e w4 ⟨rfl, hB4⟩
      have hlt3 := hr3.lt
      go_wp2_with fail
      go_ret
      exact ⟨rfl, hBl.out.trans (hB4.mono (by omega))⟩
    · have h56' : ¬ (R : Int) = 56 := by omega
      have HZ := hide hz
      have hT := hide (HT.out.below hB.out hb0)
      clear hz
      go_wp2_with fail
      refine (add' base g (zrow L z) (zrow L (z + 1)) ⟨#[0]⟩ wr (zrow_succ L z).symm hH hT.out hb0 hbg (by show (zrow L z).length + 1 ≤ _; have h1 := HLZ.out; have h2 := HZ.out; unfold zerosN at h2; omega)).mono ?_
      rintro e w2 ⟨rfl, hH2, hB2⟩
      obtain ⟨a2, cap2, c82⟩ := hH2.cell
      have hR2 := hide (restLen_of c82)
      clear c82 c8
      go_wp2_with fail
      refine ⟨⟨z + 1, ?_, hH2, hB.out.trans hB2⟩, ?_⟩
      · have h1 := HRR.out; have h2 := HZ.out; unfold zerosN at h2 ⊢; omega
      · rw [hR.out, hR2.out, zrow_len, ← HN.out]
        have h1 := HRR.out
        omega
end Go.Proofs.YtconcnndghmdfaaGreatDoor
namespace Go.Proofs.YtconcnndghmdfaaGreatDoor
open Go.RowKit
set_option maxRecDepth 100000 in
set_option maxHeartbeats 1600000 in
theorem first (w : World) :
    Calls Tryz.prog 137 #[] w fun e w' => e = .returned (.agg #[.int .u32 1779033703, .int .u32 3144134277, .int .u32 1013904242, .int .u32 2773480762, .int .u32 1359893119, .int .u32 2600822924, .int .u32 528734635, .int .u32 1541459225]) ∧ Below w.heap.size w w' := by
  go_enter Tryz.func137, Tryz.ntmps137
  go_wp2_with fail
  refine bodyPost_ret (results_cell_row Tryz.results137 _ _ w.heap.size _ _ _ _ rfl (heap_alloc_new w _) Tryz.underlying188 rfl (by kernel_rfl)) rfl ⟨rfl, (Below.refl _ _).alloc (Nat.le_refl _) _⟩
def joinB (ps : List ByteArray) : List UInt8 := ps.flatMap fun p => p.data.toList
theorem joinB_take (ps : List ByteArray) (k : Nat) (p : ByteArray) (h : ps[k]? = some p) : joinB (ps.take (k + 1)) = joinB (ps.take k) ++ p.data.toList := by
  unfold joinB
  rw [List.take_add_one, h]
  simp
theorem joinB_len (ps : List ByteArray) (h : ∀ (j : Nat) (t : ByteArray), ps[j]? = some t → t.size ≤ 1048576) : ∀ k, (joinB (ps.take k)).length ≤ 1048576 * k
  | 0 => by simp [joinB]
  | k + 1 => by
    have ih := joinB_len ps h k
    cases e : ps[k]? with
    | none => rw [List.take_add_one, e, Option.toList_none, List.append_nil]; omega
    | some t =>
      rw [joinB_take ps k t e, List.length_append]
      have h1 := h k t e
      have h2 : t.data.toList.length = t.size := rfl
      omega
theorem first_at (w : World) (base : Nat) : HAt (w.alloc (.cells #[.int .u32 1779033703, .int .u32 3144134277, .int .u32 1013904242, .int .u32 2773480762, .int .u32 1359893119, .int .u32 2600822924, .int .u32 528734635, .int .u32 1541459225, .slice none 0 0, .int .u64 0] 191)) base w.heap.size [] 0 := by
  refine ⟨.slice none 0 0, World.rowIs_alloc w _ _ _ ?_, .inl ⟨rfl, rfl⟩, Nat.le_refl _⟩
  intro i hi
  have hi8 : i < 10 := hi
  match i, hi8 with
  | 0, _ => rfl
  | 1, _ => rfl
  | 2, _ => rfl
  | 3, _ => rfl
  | 4, _ => rfl
  | 5, _ => rfl
  | 6, _ => rfl
  | 7, _ => rfl
  | 8, _ => rfl
  | 9, _ => rfl
set_option maxRecDepth 100000 in
set_option maxHeartbeats 1600000 in
theorem ofParts (p n c : Nat) (ps : List ByteArray) (w : World) (hn : ps.length = n) (hn4 : n ≤ 4) (hp : p < w.heap.size) (hps : ∀ (j : Nat) (t : ByteArray), ps[j]? = some t → t.size ≤ 1048576 ∧ w.cell? ⟨p, j, none⟩ = some (.string t)) (htab : Tab w) :
    Calls Tryz.prog 105 #[.slice (some ⟨p, 0, none⟩) n c] w fun e w' => e = .returned (.string (digestT ⟨(joinB ps).toArray⟩)) ∧ Below w.heap.size w w' := by
  have HP := hide hps
  have HT := hide htab
  clear hps htab
  go_enter Tryz.func105, Tryz.ntmps105
  go_wp2_with fail
  refine (first _).mono ?_
  rintro e w1 ⟨rfl, hB1⟩
  go_wp2_with fail
  have hB2 : Below w.heap.size w (w1.alloc (.cells #[.int .u32 1779033703, .int .u32 3144134277, .int .u32 1013904242, .int .u32 2773480762, .int .u32 1359893119, .int .u32 2600822924, .int .u32 528734635, .int .u32 1541459225, .slice none 0 0, .int .u64 0] 191)) := hB1.alloc hB1.size _
  have hH2 := first_at w1 w.heap.size
  have hs1 := hB1.size
  obtain ⟨g, hg⟩ : ∃ g, g = w1.heap.size := ⟨_, rfl⟩
  rw [← hg] at hs1 hH2 ⊢
  have HL := hide (joinB_len ps (fun j t h => (HP.out j t h).1))
  clear hg hB1
  go_loopw [10] (fun i wx => ∃ k : Nat, k ≤ n ∧ i = .int .i64 k ∧ HAt wx w.heap.size g (joinB (ps.take k)) ((joinB (ps.take k)).length / 64) ∧ Below w.heap.size w wx) (fun i _ => n - (intOf i).toNat)
  case atStart => exact ⟨0, Nat.zero_le _, rfl, by rw [List.take_zero]; exact hH2, hB2⟩
  case round =>
    clear hH2 hB2
    obtain ⟨k, hk, rfl, hH, hB⟩ := hrel
    by_cases hlt : k < n
    · have hlt' : (k : Int) < (n : Int) := by omega
      obtain ⟨t, ht⟩ : ∃ t, ps[k]? = some t := ⟨_, List.getElem?_eq_getElem (by omega)⟩
      have ck : wr.cell? ⟨p, k, none⟩ = some (.string t) := (hB.cell (p := ⟨p, k, none⟩) hp).trans (HP.out k t ht).2
      have hts := (HP.out k t ht).1
      have hJ := hide (joinB_take ps k t ht)
      have hT := hide (HT.out.below hB HT.out.lt)
      clear ht
      go_wp2_with fail
      refine (add' w.heap.size g (joinB (ps.take k)) (joinB (ps.take (k + 1))) t wr hJ.out hH hT.out HT.out.lt hs1 (by have := HL.out k; omega)).mono ?_
      rintro e w2 ⟨rfl, hH2, hB2⟩
      have hB3 := hB.trans hB2
      clear hH hB hB2 ck
      go_wp2_with fail
      exact ⟨⟨k + 1, by omega, by go_num, hH2, hB3⟩, by simp [intOf]; omega⟩
    · have hlt' : ¬ (k : Int) < (n : Int) := by omega
      have hE : ps.take k = ps := List.take_of_length_le (by omega)
      rw [hE] at hH
      have hT := hide (HT.out.below hB HT.out.lt)
      have HL2 := hide (show (joinB ps).length ≤ 1073741824 by have := HL.out k; rw [hE] at this; omega)
      clear hE
      go_wp2_with fail
      refine (ends w.heap.size g (joinB ps) wr hH hT.out HT.out.lt hs1 HL2.out).mono ?_
      rintro e w2 ⟨rfl, hB2⟩
      have hB3 := hB.trans hB2
      clear hH hB hB2
      go_wp2_with fail
      go_ret
      exact ⟨rfl, hB3⟩
end Go.Proofs.YtconcnndghmdfaaGreatDoor
namespace Go.Proofs.YtconcnndghmdfaaGreatDoor
open Go.RowKit
set_option maxRecDepth 100000 in
set_option maxHeartbeats 1600000 in
theorem pads (key : ByteArray) (m : UInt8) (w : World) (hk : key.size ≤ 64) :
    Calls Tryz.prog 106 #[.string key, .int .u8 (m.toNat : Int)] w fun e w' => e = .returned (.string (padT key m)) ∧ Below w.heap.size w w' := by
  have hm : (m.toNat : Int) ≤ 255 := by have := m.toNat_lt; omega
  go_enter Tryz.func106, Tryz.ntmps106
  go_wp2_with (refine wpList_copy_str rfl _ _ 22 9 rfl 5 Tryz.underlying22 Tryz.sizeP8 _ _ _ rfl key rfl w.heap.size 0 (List.replicate 64 (.int .u8 0)) 193 (heap_alloc_new w _) hk (fun _ => rfl) (by simpa using hk) w.heap.size w ((Below.refl _ _).alloc (Nat.le_refl _) _) (Nat.le_refl _) ?_)
  intro w1 hrow hb1
  have hr1 := row_copied w1 w.heap.size 193 key hk hrow.out
  clear hrow
  go_wp2_with fail
  go_loopw [10] (fun i wx => ∃ (k : Nat) (f : Nat → UInt8), k ≤ 64 ∧ i = .int .i64 k ∧ Hid (∀ j, f j = if j < k then keyAt key j ^^^ m else keyAt key j) ∧ wx.rowIs w.heap.size 193 64 (u8V f) ∧ Below w.heap.size w wx) (fun i _ => 64 - (intOf i).toNat)
  case atStart => exact ⟨0, keyAt key, by omega, rfl, fun j => by simp, hr1, hb1⟩
  case round =>
    clear hr1 hb1
    obtain ⟨k, f, hk64, rfl, hf, hr, hbl⟩ := hrel
    by_cases hlt : k < 64
    · have c : wr.cell? ⟨w.heap.size, k, none⟩ = some (.int .u8 ((f k).toNat : Int)) := hr.cell hlt
      have fz := hr.frozen k
      have hx := r_xor8 (f k) m
      have hf2 := hide (xor_step hf.out)
      go_wp2_with fail
      refine ⟨?rel, ?measure⟩
      case rel => exact ⟨k + 1, fun j => if j = k then f k ^^^ m else f j, by omega, by go_num, hf2, set_byte hr (by rw [UInt8.toNat_xor]), hbl.setCell (Nat.le_refl _) _⟩
      case measure => simp [intOf]; omega
    · have hcv := conv_row (P := Tryz.prog) (cap := 64) hr (pad_list hf.out (by omega)) (padL_length key m) Tryz.underlying22 Tryz.underlying5 Tryz.underlying9
      go_wp2_with fail
      go_ret
      exact ⟨rfl, hbl⟩
theorem padsT (key : ByteArray) (m : UInt8) (M : Int) (hM : M = (m.toNat : Int)) (w : World) (hk : key.size ≤ 64) :
    Calls Tryz.prog 106 #[.string key, .int .u8 M] w fun e w' => e = .returned (.string (padT key m)) ∧ Below w.heap.size w w' := by
  subst hM; exact pads key m w hk
end Go.Proofs.YtconcnndghmdfaaGreatDoor
namespace Go.Proofs.YtconcnndghmdfaaGreatDoor
open Go.RowKit
theorem join_one (t : ByteArray) : (⟨(joinB [t]).toArray⟩ : ByteArray) = t := by
  apply ByteArray.ext; show (joinB [t]).toArray = t.data; simp [joinB]
theorem join_two (a b : ByteArray) : (⟨(joinB [a, b]).toArray⟩ : ByteArray) = a ++ b := by
  apply ByteArray.ext; show (joinB [a, b]).toArray = (a ++ b).data
  rw [ByteArray.data_append]
  simp [joinB]
theorem oneOf (t : ByteArray) (w : World) (T : Nat) (ht : t.size ≤ 1048576) (htab : Tab w) (h0 : 1 < w.heap.size) :
    Calls Tryz.prog 105 #[.slice (some ⟨w.heap.size, 0, none⟩) 1 1] (w.alloc (.cells #[.string t] T)) fun e w' => e = .returned (.string (digestT t)) ∧ Below w.heap.size w w' := by
  have hb : Below w.heap.size w (w.alloc (.cells #[.string t] T)) := (Below.refl _ _).alloc (Nat.le_refl _) _
  have h := ofParts w.heap.size 1 1 [t] (w.alloc (.cells #[.string t] T)) rfl (by omega) (by simp) (by
    intro j x hx
    match j, hx with
    | 0, hx => simp at hx; subst hx; exact ⟨ht, cell_of_row _ _ _ _ _ _ (heap_alloc_new w _)⟩) (htab.below hb h0)
  rw [join_one] at h
  exact h.mono fun e w' ⟨a, b⟩ => ⟨a, hb.trans (b.mono (by simp))⟩
theorem twoOf (s t : ByteArray) (w : World) (T : Nat) (hs : s.size ≤ 1048576) (ht : t.size ≤ 1048576) (htab : Tab w) (h0 : 1 < w.heap.size) :
    Calls Tryz.prog 105 #[.slice (some ⟨w.heap.size, 0, none⟩) 2 2] (w.alloc (.cells #[.string s, .string t] T)) fun e w' => e = .returned (.string (digestT (s ++ t))) ∧ Below w.heap.size w w' := by
  have hb : Below w.heap.size w (w.alloc (.cells #[.string s, .string t] T)) := (Below.refl _ _).alloc (Nat.le_refl _) _
  have h := ofParts w.heap.size 2 2 [s, t] (w.alloc (.cells #[.string s, .string t] T)) rfl (by omega) (by simp) (by
    intro j x hx
    match j, hx with
    | 0, hx => simp at hx; subst hx; exact ⟨hs, cell_of_row _ _ _ _ _ _ (heap_alloc_new w _)⟩
    | 1, hx => simp at hx; subst hx; exact ⟨ht, cell_of_row _ _ _ _ _ _ (heap_alloc_new w _)⟩) (htab.below hb h0)
  rw [join_two] at h
  exact h.mono fun e w' ⟨a, b⟩ => ⟨a, hb.trans (b.mono (by simp))⟩
set_option maxRecDepth 100000 in
set_option maxHeartbeats 1600000 in
theorem impl_mac (key text : ByteArray) (w : World) (htab : Tab w) (h0 : 1 < w.heap.size) :
    Calls Tryz.prog 73 #[.string key, .string text] w fun e w' => e = .returned (.string (macS key text)) ∧ Below w.heap.size w w' := by
  have HT := hide htab
  clear htab
  have fin : ∀ (K : ByteArray), K.size ≤ 64 → (padT K 54).size ≤ 1048576 ∧ (padT K 92).size ≤ 1048576 ∧ (digestT (padT K 54 ++ text)).size ≤ 1048576 := by
    intro K _; rw [padT_size, padT_size, digestT_size]; omega
  by_cases h : key.size ≤ 20000
  · by_cases h2 : text.size ≤ 20000
    · have h' : ¬ (20000 : Int) < key.size := by omega
      have h2' : ¬ (20000 : Int) < text.size := by omega
      have hS : macS key text = macT key text := if_pos ⟨h, h2⟩
      rw [hS]
      by_cases h64 : key.size ≤ 64
      · have hK : keyT key = key := if_pos h64
        have hlt : ¬ (64 : Int) < key.size := by omega
        have hE := hide (show macT key text = digestT (padT key 92 ++ digestT (padT key 54 ++ text)) by rw [macT, hK])
        obtain ⟨z1, z2, z3⟩ := fin key h64
        clear hK hS fin
        go_enter Tryz.func73, Tryz.ntmps73
        go_wp2_with fail
        refine (padsT key 54 54 rfl _ h64).mono ?_
        rintro e w1 ⟨rfl, hb1⟩
        go_wp2_with fail
        refine (twoOf (padT key 54) text w1 _ z1 (by omega) (HT.out.below hb1 h0) (by have := hb1.size; omega)).mono ?_
        rintro e w2 ⟨rfl, hb2⟩
        have hc2 := below3 hb1 hb2
        go_wp2_with fail
        refine (padsT key 92 92 rfl _ h64).mono ?_
        rintro e w3 ⟨rfl, hb3⟩
        have hc3 := below3 hc2 hb3
        go_wp2_with fail
        refine (twoOf (padT key 92) (digestT (padT key 54 ++ text)) w3 _ z2 z3 (HT.out.below hc3 h0) (by have := hc3.size; omega)).mono ?_
        rintro e w4 ⟨rfl, hb4⟩
        go_wp2_with fail
        go_ret
        exact ⟨by rw [hE.out]; rfl, below3 hc3 hb4⟩
      · have hK : keyT key = digestT key := if_neg h64
        have hlt : (64 : Int) < key.size := by omega
        have hE := hide (show macT key text = digestT (padT (digestT key) 92 ++ digestT (padT (digestT key) 54 ++ text)) by rw [macT, hK])
        have hd : (digestT key).size ≤ 64 := by rw [digestT_size]; omega
        obtain ⟨z1, z2, z3⟩ := fin (digestT key) hd
        clear hK hS fin
        go_enter Tryz.func73, Tryz.ntmps73
        go_wp2_with fail
        refine (oneOf key w _ (by omega) HT.out h0).mono ?_
        rintro e w0 ⟨rfl, hc0⟩
        go_wp2_with fail
        refine (padsT (digestT key) 54 54 rfl _ hd).mono ?_
        rintro e w1 ⟨rfl, hb1⟩
        have hc1 := below3 hc0 hb1
        go_wp2_with fail
        refine (twoOf (padT (digestT key) 54) text w1 _ z1 (by omega) (HT.out.below hc1 h0) (by have := hc1.size; omega)).mono ?_
        rintro e w2 ⟨rfl, hb2⟩
        have hc2 := below3 hc1 hb2
        go_wp2_with fail
        refine (padsT (digestT key) 92 92 rfl _ hd).mono ?_
        rintro e w3 ⟨rfl, hb3⟩
        have hc3 := below3 hc2 hb3
        go_wp2_with fail
        refine (twoOf (padT (digestT key) 92) (digestT (padT (digestT key) 54 ++ text)) w3 _ z2 z3 (HT.out.below hc3 h0) (by have := hc3.size; omega)).mono ?_
        rintro e w4 ⟨rfl, hb4⟩
        go_wp2_with fail
        go_ret
        exact ⟨by rw [hE.out]; rfl, below3 hc3 hb4⟩
    · have hE : macS key text = ⟨#[]⟩ := if_neg (by omega)
      rw [hE]
      have h' : ¬ (20000 : Int) < key.size := by omega
      have h2' : (20000 : Int) < text.size := by omega
      go_enter Tryz.func73, Tryz.ntmps73
      go_wp2_with fail
      go_ret
      exact ⟨rfl, Below.refl _ _⟩
  · have hE : macS key text = ⟨#[]⟩ := if_neg (by omega)
    rw [hE]
    have h' : (20000 : Int) < key.size := by omega
    go_enter Tryz.func73, Tryz.ntmps73
    go_wp2_with fail
    go_ret
    exact ⟨rfl, Below.refl _ _⟩
end Go.Proofs.YtconcnndghmdfaaGreatDoor
namespace Go.Proofs.YtconcnndghmdfaaGreatDoor
open Go.RowKit
theorem dblI_hi : ∀ b : Fin 256, 128 ≤ b.1 → bits .xor .u8 ((b.1 : Int) * 2 % 256) 27 = ((dbl b.1 : Nat) : Int) := by decide +kernel
theorem dblI_lo : ∀ b : Fin 256, b.1 < 128 → (b.1 : Int) * 2 = ((dbl b.1 : Nat) : Int) := by decide +kernel
set_option maxRecDepth 100000 in
set_option maxHeartbeats 400000 in
theorem imp_doubled (b : Nat) (w : World) (hb : b < 256) :
    Calls Tryz.prog 110 #[.int .u8 b] w fun e w' => e = .returned (.int .u8 (dbl b : Nat)) ∧ w = w' := by
  by_cases h : 128 ≤ b
  · have hv := hide (dblI_hi ⟨b, hb⟩ h)
    go_enter Tryz.func110, Tryz.ntmps110
    go_wp2_with fail
    go_ret
    exact ⟨ret_int hv.out, rfl⟩
  · have hv := hide (dblI_lo ⟨b, hb⟩ (by show b < 128; omega))
    go_enter Tryz.func110, Tryz.ntmps110
    go_wp2_with fail
    go_ret
    exact ⟨ret_int hv.out, rfl⟩
theorem tN_stay (a b k : Nat) (h : b / 2 ^ k = 0) : ∀ m, tN a b (k + m) = tN a b k
  | 0 => rfl
  | m + 1 => by
    have hz : b / 2 ^ (k + m) = 0 := by rw [Nat.pow_add, ← Nat.div_div_eq_div_mul, h, Nat.zero_div]
    show (if b / 2 ^ (k + m) % 2 = 1 then _ else tN a b (k + m)) = _
    rw [hz, if_neg (by omega), tN_stay a b k h m]
theorem bit8 : ∀ b : Fin 256, bits .and .u8 (b.1 : Int) 1 = ((b.1 % 2 : Nat) : Int) := by decide +kernel
theorem xor8N (a b : Nat) (ha : a < 256) (hb : b < 256) : bits .xor .u8 (a : Int) (b : Int) = ((a ^^^ b : Nat) : Int) := by
  have h := r_xor8 (UInt8.ofNat a) (UInt8.ofNat b)
  rwa [UInt8.toNat_xor, UInt8.toNat_ofNat', UInt8.toNat_ofNat', Nat.mod_eq_of_lt ha, Nat.mod_eq_of_lt hb] at h
set_option maxRecDepth 100000 in
set_option maxHeartbeats 800000 in
theorem imp_times (a b : Nat) (w : World) (ha : a < 256) (hb : b < 256) :
    Calls Tryz.prog 108 #[.int .u8 a, .int .u8 b] w fun e w' => e = .returned (.int .u8 (times a b : Nat)) ∧ w = w' := by
  go_enter Tryz.func108, Tryz.ntmps108
  go_wp2_with fail
  go_loopw [0, 1, 5] (fun x y n wx => ∃ k B : Nat, k ≤ 8 ∧ Hid (B = b / 2 ^ k) ∧ B < 256 ∧ x = .int .u8 (tA a k : Nat) ∧ y = .int .u8 (B : Nat) ∧ n = .int .u8 (tN a b k : Nat) ∧ w = wx) (fun _ y _ _ => (intOf y).toNat)
  case atStart => exact ⟨0, b, by omega, by show b = _; simp, hb, rfl, rfl, rfl, rfl⟩
  case round =>
    obtain ⟨k, B, hk, hB, hB8, rfl, rfl, rfl, rfl⟩ := hrel
    by_cases h0 : 0 < B
    · have h0' : (0 : Int) < (B : Int) := by omega
      have hk8 : k < 8 := by
        rcases Nat.lt_or_ge k 8 with h | h
        · exact h
        · have e : k = 8 := by omega
          have := hB.out
          rw [e, Nat.div_eq_of_lt hb] at this; omega
      have hA := tA_lt a ha k
      have hN := tN_lt a b ha k
      have eA := hide (show tA a (k + 1) = dbl (tA a k) from rfl)
      have eN := hide (show tN a b (k + 1) = if B % 2 = 1 then tN a b k ^^^ tA a k else tN a b k by rw [hB.out]; rfl)
      have eB := hide (show B / 2 = b / 2 ^ (k + 1) by rw [hB.out, Nat.pow_succ, Nat.div_div_eq_div_mul])
      generalize tA a k = A at *
      generalize tN a b k = N at *
      have hbt := bit8 ⟨B, hB8⟩
      simp only at hbt
      have hx1 := hide (xor8N N A (by omega) (by omega))
      clear hB
      by_cases hbit : B % 2 = 1
      · rw [hbit] at hbt
        rw [if_pos hbit] at eN
        go_wp2_with fail
        refine (imp_doubled A _ hA).mono ?_
        rintro e w1 ⟨rfl, rfl⟩
        go_wp2_with fail
        refine ⟨⟨k + 1, B / 2, by omega, eB, by omega, by rw [eA.out], by go_num, by rw [hx1.out, eN.out], trivial⟩, by simp [intOf]; omega⟩
      · have h00 : B % 2 = 0 := by omega
        rw [h00] at hbt
        rw [if_neg hbit] at eN
        go_wp2_with fail
        refine (imp_doubled A _ hA).mono ?_
        rintro e w1 ⟨rfl, rfl⟩
        go_wp2_with fail
        refine ⟨⟨k + 1, B / 2, by omega, eB, by omega, by rw [eA.out], by go_num, by rw [eN.out], trivial⟩, by simp [intOf]; omega⟩
    · have hz : B = 0 := by omega
      subst hz
      have hE := hide (show tN a b k = times a b by
        have h := tN_stay a b k hB.out.symm (8 - k)
        rw [show k + (8 - k) = 8 by omega] at h
        rw [times, h])
      go_wp2_with fail
      go_ret
      exact ⟨by rw [← hE.out]; rfl, rfl⟩
theorem rot8_eq (x k S : Nat) (hx : x < 256) (hk : k ≤ 4) (h : S = 8 - k) : bits .or .u8 ((x : Int) * 2 ^ k % 256) ((x : Int) / 2 ^ S) = (((x * 2 ^ k) % 256 ||| x / 2 ^ (8 - k) : Nat) : Int) := by
  subst h
  have hall : ∀ k : Fin 5, ∀ x : Fin 256, bits .or .u8 ((x.1 : Int) * 2 ^ k.1 % 256) ((x.1 : Int) / 2 ^ (8 - k.1)) = (((x.1 * 2 ^ k.1) % 256 ||| x.1 / 2 ^ (8 - k.1) : Nat) : Int) := by decide +kernel
  exact hall ⟨k, by omega⟩ ⟨x, hx⟩
theorem and7 : ∀ k : Fin 5, bits .and .u64 (IntKind.u64.wrap (k.1 : Int)) 7 = (k.1 : Int) := by decide
def rot8 (x k : Nat) : Nat := (x * 2 ^ k) % 256 ||| x / 2 ^ (8 - k)
theorem rot8_lt (x k : Nat) (hx : x < 256) : rot8 x k < 256 := Nat.or_lt_two_pow (n := 8) (Nat.mod_lt _ (by decide)) (Nat.lt_of_le_of_lt (Nat.div_le_self _ _) hx)
set_option maxRecDepth 100000 in
set_option maxHeartbeats 400000 in
theorem imp_rot8 (x k : Nat) (w : World) (hx : x < 256) (hk : k ≤ 4) :
    Calls Tryz.prog 140 #[.int .u8 x, .int .i64 (k : Int)] w fun e w' => e = .returned (.int .u8 (rot8 x k : Nat)) ∧ w = w' := by
  have hand : bits .and .u64 (k : Int) 7 = (k : Int) := by
    have := and7 ⟨k, by omega⟩
    simp only at this
    rwa [show IntKind.u64.wrap (k : Int) = (k : Int) by rw [IntKind.wrap_u64]; omega] at this
  go_enter Tryz.func140, Tryz.ntmps140
  go_wp2_with fail
  go_ret
  exact ⟨ret_int (rot8_eq x k (8 - k) hx hk rfl), rfl⟩
set_option maxRecDepth 100000 in
set_option maxHeartbeats 400000 in
theorem imp_turned (b : Nat) (w : World) (hb : b < 256) :
    Calls Tryz.prog 107 #[.int .u8 b] w fun e w' => e = .returned (.int .u8 (ring b 5 : Nat)) ∧ w = w' := by
  have h0 := hide (show bits .xor .u8 (b : Int) 99 = ((ring b 1 : Nat) : Int) by
    have := xor8N b 99 hb (by decide)
    rw [show ((99 : Nat) : Int) = 99 from rfl] at this
    rw [this]
    show _ = ((99 ^^^ ((b * 2 ^ 0) % 256 ||| b / 2 ^ 8) : Nat) : Int)
    rw [Nat.pow_zero, Nat.mul_one, Nat.mod_eq_of_lt hb, Nat.div_eq_of_lt hb, Nat.or_zero, Nat.xor_comm])
  go_enter Tryz.func107, Tryz.ntmps107
  go_wp2_with fail
  go_loopw [3, 7] (fun s i wx => ∃ k : Nat, k ≤ 4 ∧ i = .int .i64 k ∧ s = .int .u8 (ring b (k + 1) : Nat) ∧ w = wx) (fun _ i _ => 4 - (intOf i).toNat)
  case atStart => exact ⟨0, by omega, rfl, by rw [h0.out], rfl⟩
  case round =>
    clear h0
    obtain ⟨k, hk, rfl, rfl, rfl⟩ := hrel
    have hr := ring_lt b hb (k + 1) (by omega)
    by_cases hlt : k < 4
    · have eR := hide (show ring b (k + 1 + 1) = ring b (k + 1) ^^^ rot8 b (k + 1) from rfl)
      generalize hR2 : ring b (k + 1 + 1) = R2 at *
      generalize ring b (k + 1) = R at *
      obtain ⟨m, hm⟩ : ∃ m, m = k + 1 := ⟨_, rfl⟩
      have hm' : (k : Int) + 1 = (m : Int) := by omega
      have hx := hide (xor8N R (rot8 b (k + 1)) hr (rot8_lt b _ hb))
      rw [← hm] at hx eR
      have HM := hide hm
      clear hm
      go_wp2_with fail
      refine (imp_rot8 b m _ hb (by omega)).mono ?_
      rintro e w1 ⟨rfl, rfl⟩
      go_wp2_with fail
      exact ⟨⟨k + 1, by omega, by go_num, by rw [hx.out, hR2, eR.out], trivial⟩, by simp [intOf]; omega⟩
    · have hE := hide (show ring b (k + 1) = ring b 5 by rw [show k = 4 by omega])
      go_wp2_with fail
      go_ret
      exact ⟨by rw [← hE.out]; rfl, rfl⟩
end Go.Proofs.YtconcnndghmdfaaGreatDoor
namespace Go.Proofs.YtconcnndghmdfaaGreatDoor
def it (g : Nat) : Nat → Nat
  | 0 => 1
  | k + 1 => times (it g k) g
theorem it_lt (g : Nat) : ∀ k, it g k < 256
  | 0 => by show (1 : Nat) < 256; omega
  | k + 1 => times_lt _ _ (it_lt g k)
theorem it_zero (g : Nat) : it g 0 = 1 := rfl
theorem it_succ (g k : Nat) : it g (k + 1) = times (it g k) g := rfl
def tabAt : Nat → Nat → UInt8
  | 0, j => if j = 0 then 99 else 0
  | k + 1, j => if j = it 3 k then UInt8.ofNat (ring (it 246 k) 5) else tabAt k j
def chk : Nat → Nat → Nat → Bool
  | 0, _, _ => true
  | n + 1, p, u => (u == pw p 8) && chk n (times p 3) (times u 246)
theorem chk_all : chk 255 1 1 = true := by decide +kernel
theorem chk_at : ∀ n k, chk n (it 3 k) (it 246 k) = true → ∀ i, k ≤ i → i < k + n → it 246 i = pw (it 3 i) 8
  | 0, k, _, i, h1, h2 => by omega
  | n + 1, k, h, i, h1, h2 => by
    unfold chk at h
    rw [Bool.and_eq_true] at h
    by_cases e : i = k
    · subst e; exact eq_of_beq h.1
    · exact chk_at n (k + 1) h.2 i (by omega) (by omega)
def mask : Nat → Nat → Nat
  | 0, _ => 0
  | n + 1, p => 2 ^ p ||| mask n (times p 3)
theorem mask_all : mask 255 1 = 2 ^ 256 - 2 := by decide +kernel
theorem mask_bit : ∀ n k j, (mask n (it 3 k)).testBit j = true → ∃ i, k ≤ i ∧ i < k + n ∧ it 3 i = j
  | 0, k, j, h => by simp [mask] at h
  | n + 1, k, j, h => by
    unfold mask at h
    rw [Nat.testBit_or, Bool.or_eq_true] at h
    rcases h with h | h
    · refine ⟨k, by omega, by omega, ?_⟩
      rw [Nat.testBit_two_pow] at h
      simpa using h
    · obtain ⟨i, h1, h2, h3⟩ := mask_bit n (k + 1) j h
      exact ⟨i, by omega, by omega, h3⟩
theorem full_bit : ∀ j : Fin 256, j.1 ≠ 0 → (2 ^ 256 - 2 : Nat).testBit j.1 = true := by decide +kernel
theorem sbox_zero : sbox 0 = 99 := by decide +kernel
theorem tab_some : ∀ n, n ≤ 255 → ∀ j, (j = 0 ∨ ∃ i, i < n ∧ it 3 i = j) → tabAt n j = sbox j
  | 0, _, j, h => by
    rcases h with rfl | ⟨i, hi, _⟩
    · rw [sbox_zero]; rfl
    · omega
  | n + 1, hn, j, h => by
    have e : it 246 n = pw (it 3 n) 8 := chk_at 255 0 chk_all n (by omega) (by omega)
    unfold tabAt
    by_cases hj : j = it 3 n
    · rw [if_pos hj, e, hj]; rfl
    · rw [if_neg hj]
      refine tab_some n (by omega) j ?_
      rcases h with h | ⟨i, hi, h⟩
      · exact .inl h
      · refine .inr ⟨i, ?_, h⟩
        rcases Nat.lt_or_ge i n with h2 | h2
        · exact h2
        · have : i = n := by omega
          subst this; exact absurd h.symm hj
theorem tab_end (j : Nat) (hj : j < 256) : tabAt 255 j = sbox j := by
  refine tab_some 255 (by omega) j ?_
  by_cases h0 : j = 0
  · exact .inl h0
  · have h := full_bit ⟨j, hj⟩ h0
    rw [← mask_all] at h
    obtain ⟨i, _, h2, h3⟩ := mask_bit 255 0 j h
    exact .inr ⟨i, by omega, h3⟩
end Go.Proofs.YtconcnndghmdfaaGreatDoor

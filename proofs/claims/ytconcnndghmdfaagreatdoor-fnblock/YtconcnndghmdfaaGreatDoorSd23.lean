/- Put together: ImpEnd, ImpOf, ImpPad, ImpMac, MacTw, SizeI, JoinedI, JoinedT. -/
import Derived.Test.YtconcnndghmdfaaGreatDoorSd21
import Derived.Test.YtconcnndghmdfaaGreatDoorSd22
import Derived.Test.YtconcnndghmdfaaGreatDoorSd18
import Derived.WalkSpells
namespace Go.Proofs.YtconcnndghmdfaaGreatDoor
open Go.RowKit
theorem HAt.below {w w' : World} {base g : Nat} {L : List UInt8} {m : Nat} (h : HAt w base g L m) (hb : Below w.heap.size w w') : HAt w' base g L m := by
 obtain ⟨rv, h1, h2, h3⟩ := h
 exact ⟨rv, h1.of_block (hb.block g h1.lt), h2.kept ⟨hb.os, hb.tape, hb.output, hb.size, fun k hk _ => hb.block k hk⟩, h3⟩
theorem HAt.lt {w : World} {base g : Nat} {L : List UInt8} {m : Nat} (h : HAt w base g L m) : g < w.heap.size := by
 obtain ⟨rv, h1, _⟩ := h; exact h1.lt
theorem HAt.cell {w : World} {base g : Nat} {L : List UInt8} (h : HAt w base g L (L.length / 64)) : ∃ a cap, w.cell? ⟨g, 8, none⟩ = some (.slice a (L.length % 64) cap) := by
 obtain ⟨rv, h1, h2, h3⟩ := h
 obtain ⟨a, cap, e⟩ := h2.form
 refine ⟨a, cap, ?_⟩
 rw [hash_rest h1, e, List.length_drop, show L.length - 64 * (L.length / 64) = L.length % 64 by omega]
theorem HAt.many {w : World} {base g : Nat} {L : List UInt8} {m : Nat} (h : HAt w base g L m) : w.cell? ⟨g, 9, none⟩ = some (.int .u64 (L.length : Nat)) := by
 obtain ⟨rv, h1, _⟩ := h; exact hash_many h1
theorem run_stB8 {P : Program} {w : World} {g n : Nat} {k : Nat → UInt8} (h : w.there g 0 n) : (storeCells ⟨g, 0, none⟩ (bL n k)).run P w = .ok () (w.setCells g 0 (bL n k)) :=
 run_storeCells_cells (P := P) g 0 (bL n k) 0 w (fun j hj => by rw [Nat.add_zero]; exact (h j (by rwa [bL_len] at hj)).1) (fun j hj => by rw [Nat.add_zero]; exact (h j (by rwa [bL_len] at hj)).2) (bL_one _ _)
def zrow (L : List UInt8) (z : Nat) : List UInt8 := L ++ [128] ++ List.replicate z 0
theorem zrow_len (L : List UInt8) (z : Nat) : (zrow L z).length = L.length + 1 + z := by simp [zrow]; omega
theorem zrow_succ (L : List UInt8) (z : Nat) : zrow L z ++ [0] = zrow L (z + 1) := by
 unfold zrow; rw [List.append_assoc _ _ [0], List.replicate_succ']
theorem padded_zrow (L : List UInt8) (B : ByteArray) (z : Nat) (hz : z = zerosN L.length) (hB : B = ⟨((List.range 8).map (lenB L.length)).toArray⟩) : padded ⟨L.toArray⟩ = zrow L z ++ B.data.toList := by
 subst hB hz
 unfold padded padded1 zrow
 rw [size_mk]
theorem add' (base g : Nat) (L M : List UInt8) (t : ByteArray) (w : World) (hM : M = L ++ t.data.toList) (hH : HAt w base g L (L.length / 64)) (htab : Tab w) (hb0 : 1 < base) (hbg : base ≤ g) (hlen : L.length + t.size ≤ 1099511627776) :
 Calls Tryz.prog 138 #[.pointer (some ⟨g, 0, none⟩), .string t] w fun e w' => e = .returned (.tuple #[]) ∧ HAt w' base g M (M.length / 64) ∧ Below base w w' := by
 subst hM; exact add base g L t w hH htab hb0 hbg hlen
set_option maxRecDepth 100000 in
set_option maxHeartbeats 1600000 in
theorem ends (base g : Nat) (L : List UInt8) (w : World) (hH : HAt w base g L (L.length / 64)) (htab : Tab w) (hb0 : 1 < base) (hbg : base ≤ g) (hlen : L.length ≤ 1073741824) :
 Calls Tryz.prog 139 #[.pointer (some ⟨g, 0, none⟩)] w fun e w' => e = .returned (.string (digestT ⟨L.toArray⟩)) ∧ Below base w w' := by
 have c9 := hH.many
 obtain ⟨N, hN⟩ : ∃ N, N = L.length := ⟨_, rfl⟩
 rw [← hN] at c9
 have hN' : (N : Int) ≤ 1073741824 := by omega
 have HN := hide hN
 clear hN
 go_enter Tryz.func139, Tryz.ntmps139
 go_wp2_with fail
 refine (add' base g L (zrow L 0) ⟨#[128]⟩ w (by simp [zrow]) hH htab hb0 hbg (by show L.length + 1 ≤ _; omega)).mono ?_
 rintro e w1 ⟨rfl, hH1, hB1⟩
 have HT := hide htab
 clear hH c9 htab
 go_wp2_with fail
 go_loopw [13] (fun _ wx => ∃ z : Nat, z ≤ zerosN N ∧ HAt wx base g (zrow L z) ((zrow L z).length / 64) ∧ Hid (Below base w wx)) (fun _ wx => (120 - restLen wx g) % 64)
 case atStart => exact ⟨0, Nat.zero_le _, hH1, hB1⟩
 case round =>
  clear hH1 hB1
  obtain ⟨z, hz, hH, hB⟩ := hrel
  obtain ⟨a, cap, c8⟩ := hH.cell
  have hR := hide (restLen_of c8)
  have hlz := zrow_len L z
  rw [← HN.out] at hlz
  obtain ⟨R, hRR⟩ : ∃ R, R = (zrow L z).length % 64 := ⟨_, rfl⟩
  rw [← hRR] at c8 hR
  have HRR := hide (show R = (N + 1 + z) % 64 by rw [hRR, hlz])
  have HLZ := hide hlz
  clear hRR hlz
  by_cases h56 : R = 56
  · have h56' : (R : Int) = 56 := by omega
    go_wp2_with fail
    have hzz := hide (show z = zerosN N by have h1 := HRR.out; unfold zerosN at hz ⊢; omega)
    have hH0 := hide hH
    have hlt0 := hH.lt
    have hBs : base ≤ wr.heap.size := by omega
    clear hH hR c8 h56 h56' HRR hz
    generalize wr = W0 at *
    have hL0 := hide (show ∀ w, Calls Tryz.prog 78 #[.int .u64 (8 * (N : Int))] w fun e w' => e = .returned (.agg (bL 8 (lenB N)).toArray) ∧ Below w.heap.size w w' from fun w => by
     have h := imp_highest (8 * N) w (by omega)
     rw [show ((8 * N : Nat) : Int) = 8 * (N : Int) by omega] at h
     exact h)
    refine (hL0.out _).mono ?_
    rintro e w5 ⟨rfl, hb5⟩
    obtain ⟨LF, hLF⟩ : ∃ f, f = lenB N := ⟨_, rfl⟩
    rw [← hLF]
    have HLF := hide hLF
    have z0 : (w5.alloc (.cells #[Value.int .u8 0, Value.int .u8 0, Value.int .u8 0, Value.int .u8 0, Value.int .u8 0, Value.int .u8 0, Value.int .u8 0, Value.int .u8 0] 105)).rowIs w5.heap.size 105 8 (u8V fun _ => 0) := zeros8_row 8 w5 _ _ rfl
    have hst := run_stB8 (P := Tryz.prog) (k := LF) (row_there (o := 0) (n := 8) z0 (by omega))
    have lL : (bL 8 LF).length = 8 := bL_len 8 LF
    have hrw := row_setCells0 (k := LF) z0
    have hbl := below_setCells' (b := w5.heap.size) (o := 0) (vs := bL 8 LF) ((hb5.alloc hb5.size (.cells #[Value.int .u8 0, Value.int .u8 0, Value.int .u8 0, Value.int .u8 0, Value.int .u8 0, Value.int .u8 0, Value.int .u8 0, Value.int .u8 0] 105))) hb5.size
    have hcv := conv_row (P := Tryz.prog) (cap := 8) hrw (l := (List.range 8).map (lenB N)) (fun j hj => by rw [List.getElem?_map, List.getElem?_range hj, HLF.out]; rfl) (by simp) Tryz.underlying22 Tryz.underlying5 Tryz.underlying9
    clear hLF z0 hb5
    generalize hWW : (w5.alloc (.cells #[Value.int .u8 0, Value.int .u8 0, Value.int .u8 0, Value.int .u8 0, Value.int .u8 0, Value.int .u8 0, Value.int .u8 0, Value.int .u8 0] 105)).setCells w5.heap.size 0 (bL 8 LF) = wr at *
    obtain ⟨LB, hLB⟩ : ∃ x : ByteArray, x = ⟨((List.range 8).map (lenB N)).toArray⟩ := ⟨_, rfl⟩
    rw [← hLB] at hcv
    have HLB := hide hLB
    clear hLB
    go_wp2_with fail
    have hM := hide (padded_zrow L LB z (by rw [← HN.out]; exact hzz.out) (by rw [← HN.out]; exact HLB.out))
    have hT := hide (HT.out.below (hB.out.trans (hbl.mono hBs)) hb0)
    refine (add' base g (zrow L z) (padded ⟨L.toArray⟩) LB wr hM.out (hH0.out.below hbl) hT.out hb0 hbg ?_).mono ?_
    · have h1 := HLZ.out
      have h2 := hzz.out
      have h3 : LB.size = 8 := by rw [HLB.out, size_mk]; simp
      unfold zerosN at h2
      omega
    rintro e w3 ⟨rfl, hH3, hB3⟩
    have hBl := hide ((hB.out.trans (hbl.mono hBs)).trans hB3)
    obtain ⟨rv3, hr3, _⟩ := hH3
    clear hcv hrw
    go_wp2_with fail
    refine (tell g (stAt (padded ⟨L.toArray⟩) ((padded ⟨L.toArray⟩).length / 64)) _ _ w3 (stAt_lt _ _) hr3).mono ?_
    rintro e w4 ⟨rfl, hB4⟩
    have hlt3 := hr3.lt
    go_wp2_with fail
    go_ret
    exact ⟨rfl, hBl.out.trans (hB4.mono (by omega))⟩
  · have h56' : ¬ (R : Int) = 56 := by omega
    have HZ := hide hz
    have hT := hide (HT.out.below hB.out hb0)
    clear hz
    go_wp2_with fail
    refine (add' base g (zrow L z) (zrow L (z + 1)) ⟨#[0]⟩ wr (zrow_succ L z).symm hH hT.out hb0 hbg (by show (zrow L z).length + 1 ≤ _; have h1 := HLZ.out; have h2 := HZ.out; unfold zerosN at h2; omega)).mono ?_
    rintro e w2 ⟨rfl, hH2, hB2⟩
    obtain ⟨a2, cap2, c82⟩ := hH2.cell
    have hR2 := hide (restLen_of c82)
    clear c82 c8
    go_wp2_with fail
    refine ⟨⟨z + 1, ?_, hH2, hB.out.trans hB2⟩, ?_⟩
    · have h1 := HRR.out; have h2 := HZ.out; unfold zerosN at h2 ⊢; omega
    · rw [hR.out, hR2.out, zrow_len, ← HN.out]
      have h1 := HRR.out
      omega
set_option maxRecDepth 100000 in
set_option maxHeartbeats 1600000 in
theorem first (w : World) :
 Calls Tryz.prog 137 #[] w fun e w' => e = .returned (.agg #[.int .u32 1779033703, .int .u32 3144134277, .int .u32 1013904242, .int .u32 2773480762, .int .u32 1359893119, .int .u32 2600822924, .int .u32 528734635, .int .u32 1541459225]) ∧ Below w.heap.size w w' := by
 go_enter Tryz.func137, Tryz.ntmps137
 go_wp2_with fail
 refine bodyPost_ret (results_cell_row Tryz.results137 _ _ w.heap.size _ _ _ _ rfl (heap_alloc_new w _) Tryz.underlying188 rfl (by kernel_rfl)) rfl ⟨rfl, (Below.refl _ _).alloc (Nat.le_refl _) _⟩
def joinB (ps : List ByteArray) : List UInt8 := ps.flatMap fun p => p.data.toList
theorem joinB_take (ps : List ByteArray) (k : Nat) (p : ByteArray) (h : ps[k]? = some p) : joinB (ps.take (k + 1)) = joinB (ps.take k) ++ p.data.toList := by
 unfold joinB
 rw [List.take_add_one, h]
 simp
theorem joinB_len (ps : List ByteArray) (h : ∀ (j : Nat) (t : ByteArray), ps[j]? = some t → t.size ≤ 1048576) : ∀ k, (joinB (ps.take k)).length ≤ 1048576 * k
 | 0 => by simp [joinB]
 | k + 1 => by
   have ih := joinB_len ps h k
   cases e : ps[k]? with
   | none => rw [List.take_add_one, e, Option.toList_none, List.append_nil]; omega
   | some t =>
     rw [joinB_take ps k t e, List.length_append]
     have h1 := h k t e
     have h2 : t.data.toList.length = t.size := rfl
     omega
theorem first_at (w : World) (base : Nat) : HAt (w.alloc (.cells #[.int .u32 1779033703, .int .u32 3144134277, .int .u32 1013904242, .int .u32 2773480762, .int .u32 1359893119, .int .u32 2600822924, .int .u32 528734635, .int .u32 1541459225, .slice none 0 0, .int .u64 0] 191)) base w.heap.size [] 0 := by
 refine ⟨.slice none 0 0, World.rowIs_alloc w _ _ _ ?_, .inl ⟨rfl, rfl⟩, Nat.le_refl _⟩
 intro i hi
 have hi8 : i < 10 := hi
 match i, hi8 with
 | 0, _ => rfl
 | 1, _ => rfl
 | 2, _ => rfl
 | 3, _ => rfl
 | 4, _ => rfl
 | 5, _ => rfl
 | 6, _ => rfl
 | 7, _ => rfl
 | 8, _ => rfl
 | 9, _ => rfl
set_option maxRecDepth 100000 in
set_option maxHeartbeats 1600000 in
theorem ofParts (p n c : Nat) (ps : List ByteArray) (w : World) (hn : ps.length = n) (hn4 : n ≤ 4) (hp : p < w.heap.size) (hps : ∀ (j : Nat) (t : ByteArray), ps[j]? = some t → t.size ≤ 1048576 ∧ w.cell? ⟨p, j, none⟩ = some (.string t)) (htab : Tab w) :
 Calls Tryz.prog 105 #[.slice (some ⟨p, 0, none⟩) n c] w fun e w' => e = .returned (.string (digestT ⟨(joinB ps).toArray⟩)) ∧ Below w.heap.size w w' := by
 have HP := hide hps
 have HT := hide htab
 clear hps htab
 go_enter Tryz.func105, Tryz.ntmps105
 go_wp2_with fail
 refine (first _).mono ?_
 rintro e w1 ⟨rfl, hB1⟩
 go_wp2_with fail
 have hB2 : Below w.heap.size w (w1.alloc (.cells #[.int .u32 1779033703, .int .u32 3144134277, .int .u32 1013904242, .int .u32 2773480762, .int .u32 1359893119, .int .u32 2600822924, .int .u32 528734635, .int .u32 1541459225, .slice none 0 0, .int .u64 0] 191)) := hB1.alloc hB1.size _
 have hH2 := first_at w1 w.heap.size
 have hs1 := hB1.size
 obtain ⟨g, hg⟩ : ∃ g, g = w1.heap.size := ⟨_, rfl⟩
 rw [← hg] at hs1 hH2 ⊢
 have HL := hide (joinB_len ps (fun j t h => (HP.out j t h).1))
 clear hg hB1
 go_loopw [10] (fun i wx => ∃ k : Nat, k ≤ n ∧ i = .int .i64 k ∧ HAt wx w.heap.size g (joinB (ps.take k)) ((joinB (ps.take k)).length / 64) ∧ Below w.heap.size w wx) (fun i _ => n - (intOf i).toNat)
 case atStart => exact ⟨0, Nat.zero_le _, rfl, by rw [List.take_zero]; exact hH2, hB2⟩
 case round =>
  clear hH2 hB2
  obtain ⟨k, hk, rfl, hH, hB⟩ := hrel
  by_cases hlt : k < n
  · have hlt' : (k : Int) < (n : Int) := by omega
    obtain ⟨t, ht⟩ : ∃ t, ps[k]? = some t := ⟨_, List.getElem?_eq_getElem (by omega)⟩
    have ck : wr.cell? ⟨p, k, none⟩ = some (.string t) := (hB.cell (p := ⟨p, k, none⟩) hp).trans (HP.out k t ht).2
    have hts := (HP.out k t ht).1
    have hJ := hide (joinB_take ps k t ht)
    have hT := hide (HT.out.below hB HT.out.lt)
    clear ht
    go_wp2_with fail
    refine (add' w.heap.size g (joinB (ps.take k)) (joinB (ps.take (k + 1))) t wr hJ.out hH hT.out HT.out.lt hs1 (by have := HL.out k; omega)).mono ?_
    rintro e w2 ⟨rfl, hH2, hB2⟩
    have hB3 := hB.trans hB2
    clear hH hB hB2 ck
    go_wp2_with fail
    exact ⟨⟨k + 1, by omega, by go_num, hH2, hB3⟩, by simp [intOf]; omega⟩
  · have hlt' : ¬ (k : Int) < (n : Int) := by omega
    have hE : ps.take k = ps := List.take_of_length_le (by omega)
    rw [hE] at hH
    have hT := hide (HT.out.below hB HT.out.lt)
    have HL2 := hide (show (joinB ps).length ≤ 1073741824 by have := HL.out k; rw [hE] at this; omega)
    clear hE
    go_wp2_with fail
    refine (ends w.heap.size g (joinB ps) wr hH hT.out HT.out.lt hs1 HL2.out).mono ?_
    rintro e w2 ⟨rfl, hB2⟩
    have hB3 := hB.trans hB2
    clear hH hB hB2
    go_wp2_with fail
    go_ret
    exact ⟨rfl, hB3⟩
set_option maxRecDepth 100000 in
set_option maxHeartbeats 1600000 in
theorem pads (key : ByteArray) (m : UInt8) (w : World) (hk : key.size ≤ 64) :
 Calls Tryz.prog 106 #[.string key, .int .u8 (m.toNat : Int)] w fun e w' => e = .returned (.string (padT key m)) ∧ Below w.heap.size w w' := by
 have hm : (m.toNat : Int) ≤ 255 := by have := m.toNat_lt; omega
 go_enter Tryz.func106, Tryz.ntmps106
 go_wp2_with (refine wpList_copy_str rfl _ _ 22 9 rfl 5 Tryz.underlying22 Tryz.sizeP8 _ _ _ rfl key rfl w.heap.size 0 (List.replicate 64 (.int .u8 0)) 193 (heap_alloc_new w _) hk (fun _ => rfl) (by simpa using hk) w.heap.size w ((Below.refl _ _).alloc (Nat.le_refl _) _) (Nat.le_refl _) ?_)
 intro w1 hrow hb1
 have hr1 := row_copied w1 w.heap.size 193 key hk hrow.out
 clear hrow
 go_wp2_with fail
 go_loopw [10] (fun i wx => ∃ (k : Nat) (f : Nat → UInt8), k ≤ 64 ∧ i = .int .i64 k ∧ Hid (∀ j, f j = if j < k then keyAt key j ^^^ m else keyAt key j) ∧ wx.rowIs w.heap.size 193 64 (u8V f) ∧ Below w.heap.size w wx) (fun i _ => 64 - (intOf i).toNat)
 case atStart => exact ⟨0, keyAt key, by omega, rfl, fun j => by simp, hr1, hb1⟩
 case round =>
  clear hr1 hb1
  obtain ⟨k, f, hk64, rfl, hf, hr, hbl⟩ := hrel
  by_cases hlt : k < 64
  · have c : wr.cell? ⟨w.heap.size, k, none⟩ = some (.int .u8 ((f k).toNat : Int)) := hr.cell hlt
    have fz := hr.frozen k
    have hx := r_xor8 (f k) m
    have hf2 := hide (xor_step hf.out)
    go_wp2_with fail
    refine ⟨?rel, ?measure⟩
    case rel => exact ⟨k + 1, fun j => if j = k then f k ^^^ m else f j, by omega, by go_num, hf2, set_byte hr (by rw [UInt8.toNat_xor]), hbl.setCell (Nat.le_refl _) _⟩
    case measure => simp [intOf]; omega
  · have hcv := conv_row (P := Tryz.prog) (cap := 64) hr (pad_list hf.out (by omega)) (padL_length key m) Tryz.underlying22 Tryz.underlying5 Tryz.underlying9
    go_wp2_with fail
    go_ret
    exact ⟨rfl, hbl⟩
theorem padsT (key : ByteArray) (m : UInt8) (M : Int) (hM : M = (m.toNat : Int)) (w : World) (hk : key.size ≤ 64) :
 Calls Tryz.prog 106 #[.string key, .int .u8 M] w fun e w' => e = .returned (.string (padT key m)) ∧ Below w.heap.size w w' := by
 subst hM; exact pads key m w hk
theorem join_one (t : ByteArray) : (⟨(joinB [t]).toArray⟩ : ByteArray) = t := by
 apply ByteArray.ext; show (joinB [t]).toArray = t.data; simp [joinB]
theorem join_two (a b : ByteArray) : (⟨(joinB [a, b]).toArray⟩ : ByteArray) = a ++ b := by
 apply ByteArray.ext; show (joinB [a, b]).toArray = (a ++ b).data
 rw [ByteArray.data_append]
 simp [joinB]
theorem oneOf (t : ByteArray) (w : World) (T : Nat) (ht : t.size ≤ 1048576) (htab : Tab w) (h0 : 1 < w.heap.size) :
 Calls Tryz.prog 105 #[.slice (some ⟨w.heap.size, 0, none⟩) 1 1] (w.alloc (.cells #[.string t] T)) fun e w' => e = .returned (.string (digestT t)) ∧ Below w.heap.size w w' := by
 have hb : Below w.heap.size w (w.alloc (.cells #[.string t] T)) := (Below.refl _ _).alloc (Nat.le_refl _) _
 have h := ofParts w.heap.size 1 1 [t] (w.alloc (.cells #[.string t] T)) rfl (by omega) (by simp) (by
  intro j x hx
  match j, hx with
  | 0, hx => simp at hx; subst hx; exact ⟨ht, cell_of_row _ _ _ _ _ _ (heap_alloc_new w _)⟩) (htab.below hb h0)
 rw [join_one] at h
 exact h.mono fun e w' ⟨a, b⟩ => ⟨a, hb.trans (b.mono (by simp))⟩
theorem twoOf (s t : ByteArray) (w : World) (T : Nat) (hs : s.size ≤ 1048576) (ht : t.size ≤ 1048576) (htab : Tab w) (h0 : 1 < w.heap.size) :
 Calls Tryz.prog 105 #[.slice (some ⟨w.heap.size, 0, none⟩) 2 2] (w.alloc (.cells #[.string s, .string t] T)) fun e w' => e = .returned (.string (digestT (s ++ t))) ∧ Below w.heap.size w w' := by
 have hb : Below w.heap.size w (w.alloc (.cells #[.string s, .string t] T)) := (Below.refl _ _).alloc (Nat.le_refl _) _
 have h := ofParts w.heap.size 2 2 [s, t] (w.alloc (.cells #[.string s, .string t] T)) rfl (by omega) (by simp) (by
  intro j x hx
  match j, hx with
  | 0, hx => simp at hx; subst hx; exact ⟨hs, cell_of_row _ _ _ _ _ _ (heap_alloc_new w _)⟩
  | 1, hx => simp at hx; subst hx; exact ⟨ht, cell_of_row _ _ _ _ _ _ (heap_alloc_new w _)⟩) (htab.below hb h0)
 rw [join_two] at h
 exact h.mono fun e w' ⟨a, b⟩ => ⟨a, hb.trans (b.mono (by simp))⟩
set_option maxRecDepth 100000 in
set_option maxHeartbeats 1600000 in
theorem impl_mac (key text : ByteArray) (w : World) (htab : Tab w) (h0 : 1 < w.heap.size) :
 Calls Tryz.prog 73 #[.string key, .string text] w fun e w' => e = .returned (.string (macS key text)) ∧ Below w.heap.size w w' := by
 have HT := hide htab
 clear htab
 have fin : ∀ (K : ByteArray), K.size ≤ 64 → (padT K 54).size ≤ 1048576 ∧ (padT K 92).size ≤ 1048576 ∧ (digestT (padT K 54 ++ text)).size ≤ 1048576 := by
  intro K _; rw [padT_size, padT_size, digestT_size]; omega
 by_cases h : key.size ≤ 20000
 · by_cases h2 : text.size ≤ 20000
   · have h' : ¬ (20000 : Int) < key.size := by omega
     have h2' : ¬ (20000 : Int) < text.size := by omega
     have hS : macS key text = macT key text := if_pos ⟨h, h2⟩
     rw [hS]
     by_cases h64 : key.size ≤ 64
     · have hK : keyT key = key := if_pos h64
       have hlt : ¬ (64 : Int) < key.size := by omega
       have hE := hide (show macT key text = digestT (padT key 92 ++ digestT (padT key 54 ++ text)) by rw [macT, hK])
       obtain ⟨z1, z2, z3⟩ := fin key h64
       clear hK hS fin
       go_enter Tryz.func73, Tryz.ntmps73
       go_wp2_with fail
       refine (padsT key 54 54 rfl _ h64).mono ?_
       rintro e w1 ⟨rfl, hb1⟩
       go_wp2_with fail
       refine (twoOf (padT key 54) text w1 _ z1 (by omega) (HT.out.below hb1 h0) (by have := hb1.size; omega)).mono ?_
       rintro e w2 ⟨rfl, hb2⟩
       have hc2 := below3 hb1 hb2
       go_wp2_with fail
       refine (padsT key 92 92 rfl _ h64).mono ?_
       rintro e w3 ⟨rfl, hb3⟩
       have hc3 := below3 hc2 hb3
       go_wp2_with fail
       refine (twoOf (padT key 92) (digestT (padT key 54 ++ text)) w3 _ z2 z3 (HT.out.below hc3 h0) (by have := hc3.size; omega)).mono ?_
       rintro e w4 ⟨rfl, hb4⟩
       go_wp2_with fail
       go_ret
       exact ⟨by rw [hE.out]; rfl, below3 hc3 hb4⟩
     · have hK : keyT key = digestT key := if_neg h64
       have hlt : (64 : Int) < key.size := by omega
       have hE := hide (show macT key text = digestT (padT (digestT key) 92 ++ digestT (padT (digestT key) 54 ++ text)) by rw [macT, hK])
       have hd : (digestT key).size ≤ 64 := by rw [digestT_size]; omega
       obtain ⟨z1, z2, z3⟩ := fin (digestT key) hd
       clear hK hS fin
       go_enter Tryz.func73, Tryz.ntmps73
       go_wp2_with fail
       refine (oneOf key w _ (by omega) HT.out h0).mono ?_
       rintro e w0 ⟨rfl, hc0⟩
       go_wp2_with fail
       refine (padsT (digestT key) 54 54 rfl _ hd).mono ?_
       rintro e w1 ⟨rfl, hb1⟩
       have hc1 := below3 hc0 hb1
       go_wp2_with fail
       refine (twoOf (padT (digestT key) 54) text w1 _ z1 (by omega) (HT.out.below hc1 h0) (by have := hc1.size; omega)).mono ?_
       rintro e w2 ⟨rfl, hb2⟩
       have hc2 := below3 hc1 hb2
       go_wp2_with fail
       refine (padsT (digestT key) 92 92 rfl _ hd).mono ?_
       rintro e w3 ⟨rfl, hb3⟩
       have hc3 := below3 hc2 hb3
       go_wp2_with fail
       refine (twoOf (padT (digestT key) 92) (digestT (padT (digestT key) 54 ++ text)) w3 _ z2 z3 (HT.out.below hc3 h0) (by have := hc3.size; omega)).mono ?_
       rintro e w4 ⟨rfl, hb4⟩
       go_wp2_with fail
       go_ret
       exact ⟨by rw [hE.out]; rfl, below3 hc3 hb4⟩
   · have hE : macS key text = ⟨#[]⟩ := if_neg (by omega)
     rw [hE]
     have h' : ¬ (20000 : Int) < key.size := by omega
     have h2' : (20000 : Int) < text.size := by omega
     go_enter Tryz.func73, Tryz.ntmps73
     go_wp2_with fail
     go_ret
     exact ⟨rfl, Below.refl _ _⟩
 · have hE : macS key text = ⟨#[]⟩ := if_neg (by omega)
   rw [hE]
   have h' : (20000 : Int) < key.size := by omega
   go_enter Tryz.func73, Tryz.ntmps73
   go_wp2_with fail
   go_ret
   exact ⟨rfl, Below.refl _ _⟩
end Go.Proofs.YtconcnndghmdfaaGreatDoor
namespace Go.Proofs.YtconcnndghmdfaaGreatDoor
open Go.RowKit Go
theorem Tab.alloc {w : World} (h : Tab w) (o : Obj) : Tab (w.alloc o) := h.below ((Below.refl w.heap.size w).alloc (Nat.le_refl _) o) h.lt
theorem Tab.low {w w' : World} (h : Tab w) (hb : Below w.heap.size w w') : Tab w' := h.below hb h.lt
theorem imp_macT (M body : ByteArray) (w : World) (hM : M.size ≤ 20000) (hb : body.size ≤ 20000) (htab : Tab w) :
 Calls Tryz.prog 73 #[.string M, .string body] w fun e w' => e = .returned (.string (macT M body)) ∧ Below w.heap.size w w' := by
 have h := impl_mac M body w htab htab.lt
 rw [show macS M body = macT M body from if_pos ⟨hM, hb⟩] at h
 exact h
def catB (ss : List ByteArray) : List UInt8 := ss.flatMap (fun s => s.data.toList)
theorem catB_take (ss : List ByteArray) (k : Nat) (hk : k < ss.length) : catB (ss.take (k + 1)) = catB (ss.take k) ++ ss[k].data.toList := by
 unfold catB
 rw [List.take_succ_eq_append_getElem hk, List.flatMap_append, List.flatMap_singleton]
theorem catB_len (ss : List ByteArray) (k : Nat) (hk : k < ss.length) : (catB (ss.take (k + 1))).length = (catB (ss.take k)).length + ss[k].size := by
 rw [catB_take ss k hk]; simp
theorem catB_le (ss : List ByteArray) (k : Nat) : (catB (ss.take k)).length ≤ (catB ss).length := by
 have h : catB ss = catB (ss.take k) ++ catB (ss.drop k) := by
  unfold catB; rw [← List.flatMap_append, List.take_append_drop]
 rw [h]; simp
set_option maxRecDepth 100000 in
set_option maxHeartbeats 400000 in
theorem sizeOf_any (b : Nat) (ss : List ByteArray) (w : World) (hc : ∀ j (hj : j < ss.length), w.cell? ⟨b, j, none⟩ = some (.string ss[j])) (hn : ss.length ≤ 1000) (ht : (catB ss).length ≤ 9223372036854775807) :
 Calls Tryz.prog 72 #[.slice (some ⟨b, 0, none⟩) ss.length ss.length] w fun e w' => e = .returned (.int .i64 ((catB ss).length : Nat)) ∧ w' = w := by
 go_enter Tryz.func72, Tryz.ntmps72
 go_wp2_with fail
 go_loop [3, 8] (fun s i => ∃ k : Nat, k ≤ ss.length ∧ i = .int .i64 k ∧ s = .int .i64 ((catB (ss.take k)).length : Nat)) (fun _ i => ss.length - (intOf i).toNat)
 case atStart => exact ⟨0, by omega, rfl, rfl⟩
 case round =>
  obtain ⟨k, hk, rfl, rfl⟩ := hrel
  have hle := catB_le ss k
  by_cases hlt : k < ss.length
  · have hck := hc k hlt
    have hl := catB_len ss k hlt
    have hl2 := catB_le ss (k + 1)
    have hs : ss[k].size ≤ 9223372036854775807 := by omega
    have hs2 : (catB (ss.take k)).length + ss[k].size ≤ 9223372036854775807 := by omega
    have HL := hide hl
    clear hl hc
    generalize ss[k] = sk at *
    go_wp2_with fail
    go_round
    case rel => exact ⟨k + 1, by omega, by go_num, by rw [unhide HL]; go_num⟩
    case measure => simp [intOf]; omega
  · have hkn : k = ss.length := by omega
    have hfull : (catB (ss.take k)).length = (catB ss).length := by rw [hkn, List.take_length]
    have HF := hide hfull
    clear hfull hle hkn
    go_wp2_with fail
    go_ret
    exact ⟨by rw [HF.out]; rfl, rfl⟩
theorem Tryz.infoJ8 : (Tryz.prog.info? 5).map (fun i => (i.zero, i.size, i.bytes)) = some (some (.int .u8 0), 1, 1) := by kernel_rfl
theorem Tryz.sizeB8 : (Tryz.prog.info? 5).map (·.size) = some 1 := by kernel_rfl
theorem made_row {w : World} {B e g n : Nat} {xs : List Value} (h : w.ownsRow B e 1 (.slice (some ⟨g, 0, none⟩) n n) n xs) : ∃ cur : List Value, Hid (w.heap[g]? = some (.cells cur.toArray e (0, 0))) ∧ cur.length = n := by
 obtain ⟨_, ⟨h1, _⟩ | ⟨g', cap, cur, h1, _, hh, _, _, hs, _⟩⟩ := h
 · cases h1
 · simp at h1
   obtain ⟨rfl, rfl⟩ := h1
   exact ⟨cur.toList, by simpa [Hid] using hh, by simpa using hs⟩
theorem splice_step {k tot : Nat} {ss : List ByteArray} {sk : ByteArray} {cur : List Value} (htk : Hid (cur.take (catB (ss.take k)).length = (catB (ss.take k)).map byteV)) (HT : Hid (catB (ss.take (k + 1)) = catB (ss.take k) ++ sk.data.toList))
 (hs : (catB (ss.take k)).length + sk.size ≤ tot) (hcur : cur.length = tot) :
 (splice cur (catB (ss.take k)).length (sk.data.toList.map byteV)).length = tot ∧ Hid ((splice cur (catB (ss.take k)).length (sk.data.toList.map byteV)).take (catB (ss.take (k + 1))).length = (catB (ss.take (k + 1))).map byteV) := by
 have hsize : sk.data.toList.length = sk.size := by simp
 constructor
 · rw [length_splice _ _ _ (by simp; omega), hcur]
 · show _ = _
   have htk' : cur.take (catB (ss.take k)).length = (catB (ss.take k)).map byteV := htk
   rw [HT.out]
   unfold splice
   rw [htk', List.map_append, ← List.append_assoc]
   exact List.take_left' (by simp)
theorem join_end {P : Program} {w : World} {g e src dst tot : Nat} {ss : List ByteArray} {cur : List Value} (ht : tot = (catB ss).length) (hrow : Hid (w.heap[g]? = some (.cells cur.toArray e (0, 0)))) (hcur : cur.length = tot)
 (htk : Hid (cur.take (catB ss).length = (catB ss).map byteV)) (hs : P.underlying src = some (.slice e)) (he : P.underlying e = some (.int .u8)) (hd : P.underlying dst = some .string) :
 (convert src dst (.slice (some ⟨g, 0, none⟩) tot tot)).run P w = .ok (.string ⟨(catB ss).toArray⟩) w := by
 subst ht
 have hc : cur = (catB ss).map byteV := by rw [← htk.out, List.take_of_length_le (by omega)]
 subst hc
 refine run_convert_bytes_back w src dst e ⟨g, 0, none⟩ (catB ss).length (catB ss) hs he hd (fun j hj => ?_)
 have e1 : (⟨g, 0, none⟩ : Addr).add j = ⟨g, j, none⟩ := by by_cases hz : j = 0 <;> simp [Addr.add, hz]
 rw [e1]
 simp [World.cell?, hrow.out, hj, byteV]
set_option maxRecDepth 100000 in
set_option maxHeartbeats 400000 in
theorem joined_any (b : Nat) (ss : List ByteArray) (w : World) (hc : ∀ j (hj : j < ss.length), w.cell? ⟨b, j, none⟩ = some (.string ss[j])) (hbw : b < w.heap.size) (hn : ss.length ≤ 1000) (ht : (catB ss).length ≤ 1099511627776) :
 Calls Tryz.prog 47 #[.slice (some ⟨b, 0, none⟩) ss.length ss.length] w fun e w' => e = .returned (.string ⟨(catB ss).toArray⟩) ∧ Below w.heap.size w w' := by
 obtain ⟨i0, hi, hz0, hz1, hz2⟩ := info_parts Tryz.infoJ8
 go_enter Tryz.func47, Tryz.ntmps47
 obtain ⟨tot, htot⟩ : ∃ n, n = (catB ss).length := ⟨_, rfl⟩
 have ht' : tot ≤ 1099511627776 := by omega
 have hso := hide (sizeOf_any b ss w hc hn (by omega))
 rw [← htot] at hso
 have HT0 := hide htot
 clear htot
 go_wp2_with fail
 refine (hso.out).mono ?_
 rintro e w0 ⟨rfl, rfl⟩
 go_wp2_with (at_make; refine wpList_make_full _ rfl _ _ 22 rfl w0.heap.size 5 i0 (.int .u8 0) 1 Tryz.underlying22 hi hz0 hz1 .i64 .i64 _ _ tot rfl rfl rfl rfl ?m1 ?m2 (Nat.le_refl _) ?_)
 case m1 => rw [hz2]; omega
 case m2 => unfold maxLen; omega
 intro w1 hown hgrow
 obtain ⟨cur0, hrow0, hcur0⟩ := made_row hown
 have hb1 : Below w0.heap.size w0 w1 := (Below.refl _ _).grown hgrow (Nat.le_refl _) (fun k hk => by cases hk)
 clear hown hgrow
 go_wp2_with fail
 go_loopw [4, 12] (fun a i wr => ∃ (k : Nat) (cur : List Value), k ≤ ss.length ∧ i = .int .i64 k ∧ a = .int .i64 ((catB (ss.take k)).length : Nat) ∧ Hid (wr.heap[w0.heap.size]? = some (.cells cur.toArray 5 (0, 0))) ∧ cur.length = tot ∧ Hid (cur.take (catB (ss.take k)).length = (catB (ss.take k)).map byteV) ∧ Below w0.heap.size w0 wr) (fun _ i _ => ss.length - (intOf i).toNat)
 case atStart => exact ⟨0, cur0, by omega, rfl, rfl, hrow0, hcur0, rfl, hb1⟩
 case round =>
  obtain ⟨k, cur, hk, rfl, rfl, hrow, hcur, htk, hb2⟩ := hrel
  have hle : (catB (ss.take k)).length ≤ tot := by rw [unhide HT0]; exact catB_le ss k
  by_cases hlt : k < ss.length
  · have hck : wr.cell? ⟨b, k, none⟩ = some (.string ss[k]) := (hb2.cell (by exact hbw)).trans (hc k hlt)
    have hl := catB_len ss k hlt
    have hl2 := catB_le ss (k + 1)
    have hs : (catB (ss.take k)).length + ss[k].size ≤ tot := by rw [unhide HT0]; omega
    have HL := hide hl
    have HT := hide (catB_take ss k hlt)
    clear hl hl2 hc ht
    generalize ss[k] = sk at *
    have R := hide (splice_step htk HT hs hcur)
    generalize hat : (catB (ss.take k)).length = at0 at *
    have HC := hide hcur
    clear hat htk hcur HT0
    rcases (show at0 < tot ∨ at0 = tot from by omega) with hlt2 | rfl
    · have hne : ¬ tot = at0 := by omega
      go_wp2_with (refine wpList_copy_str rfl _ _ 22 9 rfl 5 Tryz.underlying22 Tryz.sizeB8 _ _ _ rfl sk rfl w0.heap.size at0 cur 5 hrow.out (by omega) (fun _ => by simp) (by rw [unhide HC]; omega) w0.heap.size w0 hb2 (Nat.le_refl _) ?_)
      intro w2 hrow2 hb3
      clear hrow hb2 hck
      go_wp2_with fail
      go_roundw
      case rel => exact ⟨k + 1, _, by omega, by go_num, by rw [unhide HL]; go_num, hrow2, R.out.1, R.out.2, hb3⟩
      case measure => simp [intOf]; omega
    · have hz : sk.size = 0 := by omega
      go_wp2_with (refine wpList_copy_str rfl _ _ 22 9 rfl 5 Tryz.underlying22 Tryz.sizeB8 _ _ _ rfl sk rfl w0.heap.size at0 cur 5 hrow.out (by omega) (fun _ => by omega) (by rw [unhide HC]; omega) w0.heap.size w0 hb2 (Nat.le_refl _) ?_)
      intro w2 hrow2 hb3
      clear hrow hb2 hck
      go_wp2_with fail
      go_roundw
      case rel => exact ⟨k + 1, _, by omega, by go_num, by rw [unhide HL]; go_num, hrow2, R.out.1, R.out.2, hb3⟩
      case measure => simp [intOf]; omega
  · have hkn : k = ss.length := by omega
    have hcv := join_end (P := Tryz.prog) (unhide HT0) hrow hcur (by rw [hkn, List.take_length] at htk; exact htk) Tryz.underlying22 Tryz.underlying5 Tryz.underlying9
    clear hkn htk hcur hrow hc
    go_wp2
    go_ret
    exact ⟨rfl, hb2⟩
end Go.Proofs.YtconcnndghmdfaaGreatDoor
namespace Go.Proofs.YtconcnndghmdfaaGreatDoor
open Go.RowKit
theorem cat_two (s t : ByteArray) : (⟨(catB [s, t]).toArray⟩ : ByteArray) = s ++ t := by
 apply ByteArray.ext; simp [catB]
theorem joined_two (s t : ByteArray) (w : World) (b : Nat) (hbw : b = w.heap.size) (h : s.size + t.size ≤ 1099511627776) :
 Calls Tryz.prog 47 #[.slice (some ⟨b, 0, none⟩) 2 2] (w.alloc (.cells #[.string s, .string t] 9)) fun e w' => e = .returned (.string (s ++ t)) ∧ Below w.heap.size w w' := by
 subst hbw
 refine (joined_any w.heap.size [s, t] (w.alloc (.cells #[.string s, .string t] 9)) ?_ (by simp) (by simp) (by simpa [catB] using h)).mono ?_
 · intro j hj
   match j, hj with
   | 0, _ => simp
   | 1, _ => simp
 · rintro e w' ⟨rfl, hb⟩
   exact ⟨by rw [cat_two], ((Below.refl w.heap.size w).alloc (Nat.le_refl _) _).trans (hb.mono (by simp))⟩
end Go.Proofs.YtconcnndghmdfaaGreatDoor

/- The walk over the program's end. -/
import Derived.Test.YtconcnndghmdfaaDoorImpAdd
import Derived.Test.YtconcnndghmdfaaDoorImpBytes
import Derived.Test.YtconcnndghmdfaaDoorShaM
import Derived.Test.YtconcnndghmdfaaDoorImpHigh
namespace Go.Proofs.YtconcnndghmdfaaDoor
open Go.RowKit
theorem HAt.below {w w' : World} {base g : Nat} {L : List UInt8} {m : Nat} (h : HAt w base g L m) (hb : Below w.heap.size w w') : HAt w' base g L m := by
  obtain ⟨rv, h1, h2, h3⟩ := h
  exact ⟨rv, h1.of_block (hb.block g h1.lt), h2.kept ⟨hb.os, hb.tape, hb.output, hb.size, fun k hk _ => hb.block k hk⟩, h3⟩
theorem HAt.lt {w : World} {base g : Nat} {L : List UInt8} {m : Nat} (h : HAt w base g L m) : g < w.heap.size := by
  obtain ⟨rv, h1, _⟩ := h; exact h1.lt
theorem HAt.cell {w : World} {base g : Nat} {L : List UInt8} (h : HAt w base g L (L.length / 64)) : ∃ a cap, w.cell? ⟨g, 8, none⟩ = some (.slice a (L.length % 64) cap) := by
  obtain ⟨rv, h1, h2, h3⟩ := h
  obtain ⟨a, cap, e⟩ := h2.form
  refine ⟨a, cap, ?_⟩
  rw [hash_rest h1, e, List.length_drop, show L.length - 64 * (L.length / 64) = L.length % 64 by omega]
theorem HAt.many {w : World} {base g : Nat} {L : List UInt8} {m : Nat} (h : HAt w base g L m) : w.cell? ⟨g, 9, none⟩ = some (.int .u64 (L.length : Nat)) := by
  obtain ⟨rv, h1, _⟩ := h; exact hash_many h1
theorem run_stB8 {P : Program} {w : World} {g n : Nat} {k : Nat → UInt8} (h : w.there g 0 n) : (storeCells ⟨g, 0, none⟩ (bL n k)).run P w = .ok () (w.setCells g 0 (bL n k)) :=
  run_storeCells_cells (P := P) g 0 (bL n k) 0 w (fun j hj => by rw [Nat.add_zero]; exact (h j (by rwa [bL_len] at hj)).1) (fun j hj => by rw [Nat.add_zero]; exact (h j (by rwa [bL_len] at hj)).2) (bL_one _ _)
def zrow (L : List UInt8) (z : Nat) : List UInt8 := L ++ [128] ++ List.replicate z 0
theorem zrow_len (L : List UInt8) (z : Nat) : (zrow L z).length = L.length + 1 + z := by simp [zrow]; omega
theorem zrow_succ (L : List UInt8) (z : Nat) : zrow L z ++ [0] = zrow L (z + 1) := by
  unfold zrow; rw [List.append_assoc _ _ [0], List.replicate_succ']
theorem padded_zrow (L : List UInt8) (B : ByteArray) (z : Nat) (hz : z = zerosN L.length) (hB : B = ⟨((List.range 8).map (lenB L.length)).toArray⟩) : padded ⟨L.toArray⟩ = zrow L z ++ B.data.toList := by
  subst hB hz
  unfold padded padded1 zrow
  rw [size_mk]
theorem add' (base g : Nat) (L M : List UInt8) (t : ByteArray) (w : World) (hM : M = L ++ t.data.toList) (hH : HAt w base g L (L.length / 64)) (htab : Tab w) (hb0 : 0 < base) (hbg : base ≤ g) (hlen : L.length + t.size ≤ 1099511627776) :
    Calls Tryd.prog 17 #[.pointer (some ⟨g, 0, none⟩), .string t] w fun e w' => e = .returned (.tuple #[]) ∧ HAt w' base g M (M.length / 64) ∧ Below base w w' := by
  subst hM; exact add base g L t w hH htab hb0 hbg hlen
set_option maxRecDepth 100000 in
set_option maxHeartbeats 1600000 in
theorem ends (base g : Nat) (L : List UInt8) (w : World) (hH : HAt w base g L (L.length / 64)) (htab : Tab w) (hb0 : 0 < base) (hbg : base ≤ g) (hlen : L.length ≤ 1073741824) :
    Calls Tryd.prog 18 #[.pointer (some ⟨g, 0, none⟩)] w fun e w' => e = .returned (.string (digestT ⟨L.toArray⟩)) ∧ Below base w w' := by
  have c9 := hH.many
  obtain ⟨N, hN⟩ : ∃ N, N = L.length := ⟨_, rfl⟩
  rw [← hN] at c9
  have hN' : (N : Int) ≤ 1073741824 := by omega
  have HN := hide hN
  clear hN
  go_enter Tryd.func18, Tryd.ntmps18
  go_wp2_with fail
  refine (add' base g L (zrow L 0) ⟨#[128]⟩ w (by simp [zrow]) hH htab hb0 hbg (by show L.length + 1 ≤ _; omega)).mono ?_
  rintro e w1 ⟨rfl, hH1, hB1⟩
  have HT := hide htab
  clear hH c9 htab
  go_wp2_with fail
  go_loopw [13] (fun _ wx => ∃ z : Nat, z ≤ zerosN N ∧ HAt wx base g (zrow L z) ((zrow L z).length / 64) ∧ Hid (Below base w wx)) (fun _ wx => (120 - restLen wx g) % 64)
  case atStart => exact ⟨0, Nat.zero_le _, hH1, hB1⟩
  case round =>
    clear hH1 hB1
    obtain ⟨z, hz, hH, hB⟩ := hrel
    obtain ⟨a, cap, c8⟩ := hH.cell
    have hR := hide (restLen_of c8)
    have hlz := zrow_len L z
    rw [← HN.out] at hlz
    obtain ⟨R, hRR⟩ : ∃ R, R = (zrow L z).length % 64 := ⟨_, rfl⟩
    rw [← hRR] at c8 hR
    have HRR := hide (show R = (N + 1 + z) % 64 by rw [hRR, hlz])
    have HLZ := hide hlz
    clear hRR hlz
    by_cases h56 : R = 56
    · have h56' : (R : Int) = 56 := by omega
      go_wp2_with fail
      have hzz := hide (show z = zerosN N by have h1 := HRR.out; unfold zerosN at hz ⊢; omega)
      have hH0 := hide hH
      have hlt0 := hH.lt
      have hBs : base ≤ wr.heap.size := by omega
      clear hH hR c8 h56 h56' HRR hz
      generalize wr = W0 at *
      have hL0 := hide (show ∀ w, Calls Tryd.prog 22 #[.int .u64 (8 * (N : Int))] w fun e w' => e = .returned (.agg (bL 8 (lenB N)).toArray) ∧ Below w.heap.size w w' from fun w => by
        have h := imp_highest (8 * N) w (by omega)
        rw [show ((8 * N : Nat) : Int) = 8 * (N : Int) by omega] at h
        exact h)
      refine (hL0.out _).mono ?_
      rintro e w5 ⟨rfl, hb5⟩
      obtain ⟨LF, hLF⟩ : ∃ f, f = lenB N := ⟨_, rfl⟩
      rw [← hLF]
      have HLF := hide hLF
      have z0 : (w5.alloc (.cells #[Value.int .u8 0, Value.int .u8 0, Value.int .u8 0, Value.int .u8 0, Value.int .u8 0, Value.int .u8 0, Value.int .u8 0, Value.int .u8 0] 50)).rowIs w5.heap.size 50 8 (u8V fun _ => 0) := zeros8_row 8 w5 _ _ rfl
      have hst := run_stB8 (P := Tryd.prog) (k := LF) (row_there (o := 0) (n := 8) z0 (by omega))
      have lL : (bL 8 LF).length = 8 := bL_len 8 LF
      have hrw := row_setCells0 (k := LF) z0
      have hbl := below_setCells' (b := w5.heap.size) (o := 0) (vs := bL 8 LF) ((hb5.alloc hb5.size (.cells #[Value.int .u8 0, Value.int .u8 0, Value.int .u8 0, Value.int .u8 0, Value.int .u8 0, Value.int .u8 0, Value.int .u8 0, Value.int .u8 0] 50))) hb5.size
      have hcv := conv_row (P := Tryd.prog) (cap := 8) hrw (l := (List.range 8).map (lenB N)) (fun j hj => by rw [List.getElem?_map, List.getElem?_range hj, HLF.out]; rfl) (by simp) Tryd.underlying37 Tryd.underlying5 Tryd.underlying9
      clear hLF z0 hb5
      generalize hWW : (w5.alloc (.cells #[Value.int .u8 0, Value.int .u8 0, Value.int .u8 0, Value.int .u8 0, Value.int .u8 0, Value.int .u8 0, Value.int .u8 0, Value.int .u8 0] 50)).setCells w5.heap.size 0 (bL 8 LF) = wr at *
      obtain ⟨LB, hLB⟩ : ∃ x : ByteArray, x = ⟨((List.range 8).map (lenB N)).toArray⟩ := ⟨_, rfl⟩
      rw [← hLB] at hcv
      have HLB := hide hLB
      clear hLB
      go_wp2_with fail
      have hM := hide (padded_zrow L LB z (by rw [← HN.out]; exact hzz.out) (by rw [← HN.out]; exact HLB.out))
      have hT := hide (HT.out.below (hB.out.trans (hbl.mono hBs)) hb0)
      refine (add' base g (zrow L z) (padded ⟨L.toArray⟩) LB wr hM.out (hH0.out.below hbl) hT.out hb0 hbg ?_).mono ?_
      · have h1 := HLZ.out
        have h2 := hzz.out
        have h3 : LB.size = 8 := by rw [HLB.out, size_mk]; simp
        unfold zerosN at h2
        omega
      rintro e w3 ⟨rfl, hH3, hB3⟩
      have hBl := hide ((hB.out.trans (hbl.mono hBs)).trans hB3)
      obtain ⟨rv3, hr3, _⟩ := hH3
      clear hcv hrw
      go_wp2_with fail
      refine (tell g (stAt (padded ⟨L.toArray⟩) ((padded ⟨L.toArray⟩).length / 64)) _ _ w3 (stAt_lt _ _) hr3).mono ?_
      rintro e w4 ⟨rfl, hB4⟩
      have hlt3 := hr3.lt
      go_wp2_with fail
      go_ret
      exact ⟨rfl, hBl.out.trans (hB4.mono (by omega))⟩
    · have h56' : ¬ (R : Int) = 56 := by omega
      have HZ := hide hz
      have hT := hide (HT.out.below hB.out hb0)
      clear hz
      go_wp2_with fail
      refine (add' base g (zrow L z) (zrow L (z + 1)) ⟨#[0]⟩ wr (zrow_succ L z).symm hH hT.out hb0 hbg (by show (zrow L z).length + 1 ≤ _; have h1 := HLZ.out; have h2 := HZ.out; unfold zerosN at h2; omega)).mono ?_
      rintro e w2 ⟨rfl, hH2, hB2⟩
      obtain ⟨a2, cap2, c82⟩ := hH2.cell
      have hR2 := hide (restLen_of c82)
      clear c82 c8
      go_wp2_with fail
      refine ⟨⟨z + 1, ?_, hH2, hB.out.trans hB2⟩, ?_⟩
      · have h1 := HRR.out; have h2 := HZ.out; unfold zerosN at h2 ⊢; omega
      · rw [hR.out, hR2.out, zrow_len, ← HN.out]
        have h1 := HRR.out
        omega
end Go.Proofs.YtconcnndghmdfaaDoor

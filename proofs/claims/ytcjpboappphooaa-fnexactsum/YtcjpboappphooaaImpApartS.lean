/- The walk over the program's apart, for one text, as Sum calls it. -/
import Derived.Test.YtcjpboappphooaaApartF
namespace Go.Proofs.Ytcjpboappphooaa
open Go.RowKit Go
set_option maxRecDepth 100000 in
set_option maxHeartbeats 1600000 in
theorem apart_S (M1 M2 : UInt8 → UInt8 → UInt8) (hM : ∀ (a b : UInt8) (w : World), Calls Try.prog 18 #[.int .u8 (a.toNat : Int), .int .u8 (b.toNat : Int)] w fun e w' => e = .returned (.tuple #[.int .u8 ((M1 a b).toNat : Int), .int .u8 ((M2 a b).toNat : Int)]) ∧ w' = w)
    (text : ByteArray) (far : Nat) (w : World) (b : Nat) (hcell : w.cell? ⟨b, 0, none⟩ = some (.string text)) (hbw : b < w.heap.size) (ht : text.size ≤ 20000) (hf1 : 1 ≤ far) (hf2 : far ≤ 256) :
    Calls Try.prog 17 #[.int .i64 (far : Int), .func (.func 18) #[] #[], .slice (some ⟨b, 0, none⟩) 1 1] w fun e w' => e = .returned (.string ⟨((List.range text.size).map (fun j => M1 (bF text j) (metF M2 (bF text) far j))).toArray⟩) ∧ Below w.heap.size w w' := by
  have hmk : ∀ w : World, (Instr.makeSlice 22 (.int .i64 text.size) (.int .i64 text.size)).run Try.prog w = .ok (.slice (some ⟨w.heap.size, 0, none⟩) text.size text.size) (w.alloc (.cells (madeCells #[.int .u8 0] text.size) 5)) := run_make_row' (P := Try.prog) 22 5 (.int .u8 0) 1 (by kernel_rfl) Try.infoA8 rfl .i64 .i64 text.size (by omega) (by omega)
  obtain ⟨hz, hsz⟩ := zero_of_info Try.infoRing
  have hso := hide (fun w h1 h2 h3 => sizeOf_any b [text] w h1 h2 h3)
  have e1 : (catB [text]).length = text.size := by simp [catB]
  have f1 : ¬ (far : Int) < 1 := by omega
  have f2 : ¬ (256 : Int) < (far : Int) := by omega
  have t1 : ¬ (20000 : Int) < (text.size : Int) := by omega
  obtain ⟨T, hT⟩ : ∃ T, T = bF text := ⟨_, rfl⟩
  have HT := hide (show ∀ k (hk : k < text.size), text[k] = T k from fun k hk => (bF_get' text k hk).trans (by rw [hT]))
  rw [← hT]
  clear hT
  go_enter Try.func17, Try.ntmps17
  go_wp2_with fail
  refine (hso.out _ (fun j hj => by match j, hj with | 0, _ => exact hcell) (by simp) (by rw [e1]; omega)).mono ?_
  rw [e1]
  rintro e w1 ⟨rfl, rfl⟩
  have r0 := row_alloc w1 43 256 (fun _ => 0)
  have r1 := World.rowIs_made (w1.alloc (.cells (bL 256 fun _ => 0).toArray 43)) (.int .u8 0) text.size 5
  have rb := ((Below.refl w1.heap.size w1).alloc (Nat.le_refl _) (.cells (bL 256 fun _ => 0).toArray 43)).alloc (by simp) (.cells (madeCells #[.int .u8 0] text.size) 5)
  have r0' := r0.alloc (.cells (madeCells #[.int .u8 0] text.size) 5)
  rw [World.size_alloc] at r1
  go_wp2_with fail
  clear hmk hz hso e1 f1 f2 t1 r0
  generalize (w1.alloc (.cells (bL 256 fun _ => 0).toArray 43)).alloc (.cells (madeCells #[.int .u8 0] text.size) 5) = W1 at *
  go_loopw [10, 31] (fun a i wx => ∃ (k n : Nat) (f r : Nat → UInt8), k ≤ 1 ∧ Hid (n = k * text.size) ∧ i = .int .i64 k ∧ a = .int .i64 n ∧ Hid (∀ j, j < n → f j = M1 (T j) (metF M2 T far j)) ∧ Hid (ringOk M2 T far n r) ∧ wx.rowIs w1.heap.size 43 256 (u8V r) ∧ wx.rowIs (w1.heap.size + 1) 5 text.size (u8V f) ∧ Below w1.heap.size w1 wx) (fun _ i _ => 1 - (intOf i).toNat)
  case atStart => exact ⟨0, 0, fun _ => 0, fun _ => 0, by omega, (Nat.zero_mul _).symm, rfl, rfl, fun j hj => by omega, ⟨fun j hj => by omega, fun _ _ _ => rfl⟩, r0', r1, rb⟩
  case round =>
    clear r0' r1 rb
    obtain ⟨k, n, f, r, hk, hn, rfl, rfl, hf, hr, r0, r1, rb⟩ := hrel
    by_cases hlt : k = 0
    · obtain rfl : n = 0 := by have := hn.out; rw [hlt] at this; omega
      have hcw : wr.cell? ⟨b, k, none⟩ = some (.string text) := by rw [hlt]; exact (rb.cell (p := ⟨b, 0, none⟩) hbw).trans hcell
      have hk1 : k < 1 := by omega
      have hk2 : (k : Int) < 1 := by omega
      have HK := hide hlt
      clear hn hlt
      go_wp2_with fail
      go_loopw [10, 37] (fun a i wx => ∃ (n : Nat) (f r : Nat → UInt8), n ≤ text.size ∧ i = .int .i64 n ∧ a = .int .i64 n ∧ Hid (∀ j, j < n → f j = M1 (T j) (metF M2 T far j)) ∧ Hid (ringOk M2 T far n r) ∧ wx.rowIs w1.heap.size 43 256 (u8V r) ∧ wx.rowIs (w1.heap.size + 1) 5 text.size (u8V f) ∧ Below w1.heap.size w1 wx) (fun _ i _ => text.size - (intOf i).toNat)
      case atStart => exact ⟨0, f, r, by omega, rfl, rfl, hf, hr, r0, r1, rb⟩
      case round =>
        clear r0 r1 rb hf hr f r
        obtain ⟨n, f, r, hn, rfl, rfl, hf, hr, r0, r1, rb⟩ := hrel
        by_cases hlt : n < text.size
        · have hlt' : (n : Int) < (text.size : Int) := by omega
          obtain ⟨q, hq⟩ : ∃ q, q = n % far := ⟨_, rfl⟩
          have hq1 : q < far := by rw [hq]; exact Nat.mod_lt _ (by omega)
          have hq2 : (n : Int) % (far : Int) = (q : Int) := by rw [hq]; rfl
          have hq3 : (q : Int) < 256 := by omega
          have hf0 : ¬ (far : Int) = 0 := by omega
          have cq : wr.cell? ⟨w1.heap.size, q, none⟩ = some (.int .u8 ((r q).toNat : Int)) := r0.cell (i := q) (by omega)
          have HB := hide (HT.out n hlt)
          have HR := hide (show r q = metF M2 T far n by rw [hq]; exact ring_at hr.out (by omega))
          have HQ := hide hq
          have cB := hM text[n] (r q)
          obtain ⟨R, hR⟩ : ∃ R, R = r q := ⟨_, rfl⟩
          obtain ⟨Y, hY⟩ : ∃ Y, Y = M1 text[n] R := ⟨_, rfl⟩
          obtain ⟨Z, hZ⟩ : ∃ Z, Z = M2 text[n] R := ⟨_, rfl⟩
          rw [← hR] at cq HR cB
          rw [← hY, ← hZ] at cB
          have HY := hide (show Y = M1 (T n) (metF M2 T far n) by rw [hY, HB.out, HR.out])
          have HZ := hide (show Z = keptF M2 T far n by rw [hZ, HB.out, HR.out, keptF_eq])
          have CB := hide cB
          clear hq hR hY hZ cB HR HB
          have fq := r0.frozen q
          have cn := r1.cell (i := n) hlt
          have fn := r1.frozen n
          go_wp2_with fail
          go_region_with (go_at_call 18; refine (CB.out _).mono ?_; rintro e w2 ⟨rfl, rfl⟩)
          all_goals
            clear cq fq cn fn hq2 hf0 hcell hcw CB hM
            go_wp2_with fail
            go_roundw
            case rel =>
              refine ⟨n + 1, fun j => if j = n then Y else f j, fun j => if j = q then Z else r j, by omega, by go_num, by go_num, fun j hj => ?_, by have h := ring_next hr.out HZ.out; rw [← HQ.out] at h; exact h, ?_, ?_, ?_⟩
              · show (if j = n then Y else f j) = _
                by_cases e : j = n
                · rw [if_pos e, e, HY.out]
                · rw [if_neg e]; exact hf.out j (by omega)
              · first
                  | exact (set_byte (r0.setOther (by simp) _) rfl).drew
                  | exact ((set_byte r0 rfl).setOther (by simp) _).drew
              · first
                  | exact ((set_byte r1 rfl).setOther (by simp) _).drew
                  | exact (set_byte (r1.setOther (by simp) _) rfl).drew
              · first
                  | exact ((rb.setCell (by simp) _).setCell (by simp) _).drew
            case measure => simp [intOf]; omega
        · have hn1 : n = text.size := by omega
          subst hn1
          have hlt' : ¬ (text.size : Int) < (text.size : Int) := by omega
          clear hcw
          go_wp2_with fail
          go_roundw
          case rel => exact ⟨k + 1, text.size, f, r, by omega, by rw [HK.out]; exact (Nat.one_mul _).symm, by go_num, rfl, hf, hr, r0, r1, rb⟩
          case measure => simp [intOf]; omega
    · obtain rfl : k = 1 := by omega
      have hn1 : n = text.size := by have := hn.out; omega
      subst hn1
      have hcv := conv_row (P := Try.prog) (cap := text.size) (l := (List.range text.size).map (fun j => M1 (T j) (metF M2 T far j))) r1 (fun j hj => by rw [List.getElem?_map, List.getElem?_range hj, hf.out j hj]; rfl) (by simp) Try.underlying22 Try.underlying5 Try.underlying9
      clear hn hf
      go_wp2_with fail
      go_ret
      exact ⟨rfl, rb⟩
end Go.Proofs.Ytcjpboappphooaa

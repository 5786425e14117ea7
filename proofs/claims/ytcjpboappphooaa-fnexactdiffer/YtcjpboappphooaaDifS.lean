/- The walks over the model's l04Differ, l04Sum, Differ, Sum. -/
import Derived.Test.YtcjpboappphooaaRows
import Derived.Test.YtcjpboappphooaaRowC
import Derived.BigRegion
namespace Go.Proofs.Ytcjpboappphooaa
open Go.RowKit
theorem Try.infoD8 : (Try.prog.info? 5).map (fun i => (i.zero, i.size, i.bytes)) = some (some (.int .u8 0), 1, 1) := by kernel_rfl
/-- Differ, a byte of it. -/
def difF (T : Nat → UInt8) (far j : Nat) : UInt8 := if far ≤ j then T j - T (j - far) else T j
/-- Sum, a byte of it. -/
def sumF (T : Nat → UInt8) (far : Nat) (j : Nat) : UInt8 := if _h : far ≤ j ∧ 0 < far then T j + sumF T far (j - far) else T j
theorem sub8 (a b : UInt8) : IntKind.u8.wrap ((a.toNat : Int) - (b.toNat : Int)) = (((a - b).toNat : Nat) : Int) := by
  rw [IntKind.wrap_u8, UInt8.toNat_sub]; have := a.toNat_lt; have := b.toNat_lt; omega
theorem add8 (a b : UInt8) : IntKind.u8.wrap ((a.toNat : Int) + (b.toNat : Int)) = (((a + b).toNat : Nat) : Int) := by
  rw [IntKind.wrap_u8, UInt8.toNat_add]; omega
theorem bF_get (b : ByteArray) (j : Nat) (h : j < b.size) : b[j] = bF b j := by
  have e := bF_at b b.size rfl j h
  have h' : j < b.data.toList.length := h
  rw [List.getElem?_eq_getElem h'] at e
  exact Option.some.inj e
set_option maxRecDepth 100000 in
set_option maxHeartbeats 800000 in
theorem spec_differA (text : ByteArray) (far : Nat) (w : World) (ht : text.size ≤ 20000) (hf1 : 1 ≤ far) (hf2 : far ≤ 256) :
    Calls Try.prog 20 #[.string text, .int .i64 far] w fun e w' => e = .returned (.string ⟨((List.range text.size).map (difF (bF text) far)).toArray⟩) ∧ Below w.heap.size w w' := by
  have hmk : ∀ w : World, (Instr.makeSlice 22 (.int .i64 text.size) (.int .i64 text.size)).run Try.prog w = .ok (.slice (some ⟨w.heap.size, 0, none⟩) text.size text.size) (w.alloc (.cells (madeCells #[.int .u8 0] text.size) 5)) := run_make_row' (P := Try.prog) 22 5 (.int .u8 0) 1 (by kernel_rfl) Try.infoD8 rfl .i64 .i64 text.size (by omega) (by omega)
  go_enter Try.func20, Try.ntmps20
  go_wp2_with fail
  clear hmk
  go_loopw [6] (fun i wx => ∃ (k : Nat) (h : Nat → UInt8), k ≤ text.size ∧ i = .int .i64 k ∧ Hid (∀ j, j < k → h j = difF (bF text) far j) ∧ wx.rowIs w.heap.size 5 text.size (u8V h) ∧ Below w.heap.size w wx) (fun i _ => text.size - (intOf i).toNat)
  case atStart => exact ⟨0, fun _ => 0, Nat.zero_le _, rfl, fun j hj => by omega, World.rowIs_made _ _ _ _, (Below.refl _ _).alloc (Nat.le_refl _) _⟩
  case round =>
    obtain ⟨k, h, hk, rfl, hh, hr, hbl⟩ := hrel
    by_cases hlt : k < text.size
    · have hlt' : (k : Int) < (text.size : Int) := by omega
      have ck := hr.cell (i := k) hlt
      have fk := hr.frozen k
      have c1 : ∀ v, (wr.setCell ⟨w.heap.size, k, none⟩ v).cell? ⟨w.heap.size, k, none⟩ = some v := fun v => World.cell?_setCell_same _ _ _ ck
      have hT := hide (bF_get text k hlt)
      have b1 : (text[k].toNat : Int) ≤ 255 := by have := text[k].toNat_lt; omega
      by_cases hge : far ≤ k
      · have hge' : (far : Int) ≤ (k : Int) := by omega
        obtain ⟨d, ed⟩ : ∃ d, d = k - far := ⟨_, rfl⟩
        have wd : IntKind.i64.wrap ((k : Int) - (far : Int)) = (d : Int) := by simp only [IntKind.wrap_i64]; omega
        have hd : d < text.size := by omega
        have hd' : (d : Int) < (text.size : Int) := by omega
        have hs8 := sub8 text[k] text[d]
        have HV := hide (show text[k] - text[d] = difF (bF text) far k by rw [difF, if_pos hge, hT.out, bF_get text d hd, ed])
        obtain ⟨Y, hY⟩ : ∃ Y, Y = text[k] - text[d] := ⟨_, rfl⟩
        rw [← hY] at hs8 HV
        clear ed hY
        go_wp2_with fail
        go_region
        clear wd
        go_wp2_with fail
        go_roundw
        case rel =>
          refine ⟨k + 1, fun j => if j = k then Y else (if j = k then text[k] else h j), by omega, by go_num, fun j hj => ?_, (set_byte (set_byte hr rfl) rfl).drew, ((hbl.setCell (Nat.le_refl _) _).setCell (Nat.le_refl _) _).drew⟩
          show (if j = k then Y else (if j = k then text[k] else h j)) = _
          by_cases e : j = k
          · rw [if_pos e, e, HV.out]
          · rw [if_neg e, if_neg e]; exact hh.out j (by omega)
        case measure => simp [intOf]; omega
      · have hge' : ¬ (far : Int) ≤ (k : Int) := by omega
        have HV := hide (show text[k] = difF (bF text) far k by rw [difF, if_neg hge, hT.out])
        go_wp2_with fail
        refine ⟨⟨k + 1, fun j => if j = k then text[k] else h j, by omega, by go_num, fun j hj => ?_, set_byte hr rfl, hbl.setCell (Nat.le_refl _) _⟩, by simp [intOf]; omega⟩
        show (if j = k then text[k] else h j) = _
        by_cases e : j = k
        · rw [if_pos e, HV.out, e]
        · rw [if_neg e]; exact hh.out j (by omega)
    · have hlt' : ¬ (k : Int) < (text.size : Int) := by omega
      have hcv := conv_row (P := Try.prog) (cap := text.size) hr (l := (List.range text.size).map (difF (bF text) far)) (fun j hj => by rw [List.getElem?_map, List.getElem?_range hj, hh.out j (by omega)]; rfl) (by simp) Try.underlying22 Try.underlying5 Try.underlying9
      go_wp2_with fail
      go_ret
      exact ⟨rfl, hbl⟩
set_option maxRecDepth 100000 in
set_option maxHeartbeats 800000 in
theorem spec_sumA (text : ByteArray) (far : Nat) (w : World) (ht : text.size ≤ 20000) (hf1 : 1 ≤ far) (hf2 : far ≤ 256) :
    Calls Try.prog 21 #[.string text, .int .i64 far] w fun e w' => e = .returned (.string ⟨((List.range text.size).map (sumF (bF text) far)).toArray⟩) ∧ Below w.heap.size w w' := by
  have hcv := fun (w : World) => run_bytes_of_string (P := Try.prog) w 9 22 5 text Try.underlying9 Try.underlying22 Try.underlying5
  have hcap := grownCap_ge w text.size 0 5
  have hrow0 := hasRow.of_text w.drew w.heap.size 5 (grownCap w text.size 0 5) text hcap (Nat.le_refl _)
  have hbl0 := hide ((Below.refl w.heap.size w).drew.alloc (Nat.le_refl _) (.cells (bytesRow text (grownCap w text.size 0 5)) 5 ((bytesRow text (grownCap w text.size 0 5)).size, (bytesRow text (grownCap w text.size 0 5)).size + 1)))
  have HR0 := hide (rowC.of_text hrow0 (bF_at text text.size rfl))
  obtain ⟨T, hT⟩ : ∃ T, T = bF text := ⟨_, rfl⟩
  rw [← hT] at HR0 ⊢
  clear hrow0 hT
  go_enter Try.func21, Try.ntmps21
  go_wp2_with fail
  clear hcv hcap
  go_loopw [6] (fun i wx => ∃ (k : Nat) (h : Nat → UInt8), far ≤ k ∧ i = .int .i64 k ∧ Hid (∀ j, j < text.size → h j = if j < k then sumF T far j else T j) ∧ rowC wx w.heap.size text.size h ∧ Below w.heap.size w wx) (fun i _ => text.size - (intOf i).toNat)
  case atStart => exact ⟨far, T, Nat.le_refl _, rfl, fun j _ => by by_cases e : j < far; rw [if_pos e, sumF, dif_neg (by omega)]; rw [if_neg e], HR0.out, hbl0.out⟩
  case round =>
    clear HR0 hbl0
    obtain ⟨k, h, hk, rfl, hh, hr, hbl⟩ := hrel
    by_cases hlt : k < text.size
    · have hlt' : (k : Int) < (text.size : Int) := by omega
      obtain ⟨d, ed⟩ : ∃ d, d = k - far := ⟨_, rfl⟩
      have wd : IntKind.i64.wrap ((k : Int) - (far : Int)) = (d : Int) := by simp only [IntKind.wrap_i64]; omega
      have hd : d < text.size := by omega
      have hd' : (d : Int) < (text.size : Int) := by omega
      have ck := (hr.2 k hlt).1
      have fk := (hr.2 k hlt).2
      have cd := (hr.2 d hd).1
      have ha8 := add8 (h k) (h d)
      have HV := hide (show h k + h d = sumF T far k by rw [hh.out k hlt, if_neg (by omega), hh.out d hd, if_pos (by omega), ed]; exact (by rw [sumF, dif_pos ⟨by omega, by omega⟩] : sumF T far k = T k + sumF T far (k - far)).symm)
      obtain ⟨Y, hY⟩ : ∃ Y, Y = h k + h d := ⟨_, rfl⟩
      rw [← hY] at ha8 HV
      obtain ⟨A, hA⟩ : ∃ A, A = h k := ⟨_, rfl⟩
      obtain ⟨B, hB⟩ : ∃ B, B = h d := ⟨_, rfl⟩
      rw [← hA] at ck ha8
      rw [← hB] at cd ha8
      clear ed hY hA hB
      go_wp2_with fail
      go_region
      clear wd ck fk cd
      go_wp2_with fail
      go_roundw
      case rel =>
        refine ⟨k + 1, fun j => if j = k then Y else h j, by omega, by go_num, fun j hj => ?_, (hr.set hlt rfl).drew, (hbl.setCell (Nat.le_refl _) _).drew⟩
        show (if j = k then Y else h j) = _
        by_cases e : j = k
        · rw [if_pos e, if_pos (by omega), e, HV.out]
        · rw [if_neg e, hh.out j hj]
          by_cases e2 : j < k
          · rw [if_pos e2, if_pos (by omega)]
          · rw [if_neg e2, if_neg (by omega)]
      case measure => simp [intOf]; omega
    · have hlt' : ¬ (k : Int) < (text.size : Int) := by omega
      have hcv := conv_rowC (P := Try.prog) (cap := grownCap w text.size 0 5) (l := (List.range text.size).map (sumF T far)) hr (fun j hj => by rw [List.getElem?_map, List.getElem?_range hj, hh.out j hj, if_pos (by omega)]; rfl) (by simp) Try.underlying22 Try.underlying5 Try.underlying9
      go_wp2_with fail
      go_ret
      exact ⟨rfl, hbl⟩
abbrev farOk (text : ByteArray) (far : Int) : Prop := text.size ≤ 20000 ∧ 1 ≤ far ∧ far ≤ 256
set_option maxRecDepth 100000 in
theorem spec_far (text : ByteArray) (far : Int) (w : World) (h : farOk text far) :
    Calls Try.prog 19 #[.string text, .int .i64 far] w fun e w' => e = .returned (.bool true) ∧ w = w' := by
  obtain ⟨h1, h2, h3⟩ := h
  have h1' : (text.size : Int) ≤ 20000 := by omega
  go_enter Try.func19, Try.ntmps19
  go_wp2_with fail
  go_ret
  exact ⟨rfl, rfl⟩
set_option maxRecDepth 100000 in
theorem spec_far_not (text : ByteArray) (far : Int) (w : World) (h : ¬ farOk text far) :
    Calls Try.prog 19 #[.string text, .int .i64 far] w fun e w' => e = .returned (.bool false) ∧ w = w' := by
  unfold farOk at h
  by_cases h1 : text.size ≤ 20000
  · have h1' : (text.size : Int) ≤ 20000 := by omega
    by_cases h2 : 1 ≤ far
    · have h3 : decide (far ≤ 256) = false := decide_eq_false (by omega)
      go_enter Try.func19, Try.ntmps19
      go_wp2_with fail
      go_ret
      exact ⟨rfl, rfl⟩
    · have h2' : decide (1 ≤ far) = false := decide_eq_false h2
      go_enter Try.func19, Try.ntmps19
      go_wp2_with fail
      go_ret
      exact ⟨rfl, rfl⟩
  · have h1' : decide ((text.size : Int) ≤ 20000) = false := decide_eq_false (by omega)
    go_enter Try.func19, Try.ntmps19
    go_wp2_with fail
    go_ret
    exact ⟨rfl, rfl⟩
/-- Differ. -/
def differS (text : ByteArray) (far : Int) : ByteArray := if farOk text far then ⟨((List.range text.size).map (difF (bF text) far.toNat)).toArray⟩ else ⟨#[]⟩
set_option maxRecDepth 100000 in
set_option maxHeartbeats 800000 in
theorem spec_differ (text : ByteArray) (far : Int) (w : World) :
    Calls Try.prog 9 #[.string text, .int .i64 far] w fun e w' => e = .returned (.string (differS text far)) ∧ Below w.heap.size w w' := by
  by_cases h : farOk text far
  · have hE : differS text far = ⟨((List.range text.size).map (difF (bF text) far.toNat)).toArray⟩ := if_pos h
    rw [hE]
    clear hE
    have h' := h
    obtain ⟨h1, h2, h3⟩ := h
    obtain ⟨n, rfl⟩ := Int.eq_ofNat_of_zero_le (show 0 ≤ far by omega)
    have HF := hide h'
    clear h'
    go_enter Try.func9, Try.ntmps9
    go_wp2_with (first | (go_at_call 19; refine (spec_far text n _ HF.out).mono ?_; rintro e w1 ⟨rfl, rfl⟩))
    refine (spec_differA text n _ h1 (by omega) (by omega)).mono ?_
    rintro e w1 ⟨rfl, hb1⟩
    go_wp2_with fail
    go_ret
    exact ⟨rfl, hb1⟩
  · have hE : differS text far = ⟨#[]⟩ := if_neg h
    rw [hE]
    have HF := hide h
    clear hE h
    go_enter Try.func9, Try.ntmps9
    go_wp2_with (first | (go_at_call 19; refine (spec_far_not text far _ HF.out).mono ?_; rintro e w1 ⟨rfl, rfl⟩))
    go_ret
    exact ⟨rfl, Below.refl _ _⟩
/-- Sum. -/
def sumS (text : ByteArray) (far : Int) : ByteArray := if farOk text far then ⟨((List.range text.size).map (sumF (bF text) far.toNat)).toArray⟩ else ⟨#[]⟩
set_option maxRecDepth 100000 in
set_option maxHeartbeats 800000 in
theorem spec_sum (text : ByteArray) (far : Int) (w : World) :
    Calls Try.prog 10 #[.string text, .int .i64 far] w fun e w' => e = .returned (.string (sumS text far)) ∧ Below w.heap.size w w' := by
  by_cases h : farOk text far
  · have hE : sumS text far = ⟨((List.range text.size).map (sumF (bF text) far.toNat)).toArray⟩ := if_pos h
    rw [hE]
    clear hE
    have h' := h
    obtain ⟨h1, h2, h3⟩ := h
    obtain ⟨n, rfl⟩ := Int.eq_ofNat_of_zero_le (show 0 ≤ far by omega)
    have HF := hide h'
    clear h'
    go_enter Try.func10, Try.ntmps10
    go_wp2_with (first | (go_at_call 19; refine (spec_far text n _ HF.out).mono ?_; rintro e w1 ⟨rfl, rfl⟩))
    refine (spec_sumA text n _ h1 (by omega) (by omega)).mono ?_
    rintro e w1 ⟨rfl, hb1⟩
    go_wp2_with fail
    go_ret
    exact ⟨rfl, hb1⟩
  · have hE : sumS text far = ⟨#[]⟩ := if_neg h
    rw [hE]
    have HF := hide h
    clear hE h
    go_enter Try.func10, Try.ntmps10
    go_wp2_with (first | (go_at_call 19; refine (spec_far_not text far _ HF.out).mono ?_; rintro e w1 ⟨rfl, rfl⟩))
    go_ret
    exact ⟨rfl, Below.refl _ _⟩
end Go.Proofs.Ytcjpboappphooaa

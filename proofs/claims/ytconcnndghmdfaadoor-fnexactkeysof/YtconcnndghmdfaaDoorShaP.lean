/- The walk over the model's l02Pad. -/
import Derived.Test.YtconcnndghmdfaaDoorShaK
import Derived.Test.YtconcnndghmdfaaDoorCopy
import Derived.Test.YtconcnndghmdfaaDoorBytes8
import Derived.BigRegion
namespace Go.Proofs.YtconcnndghmdfaaDoor
open Go.RowKit
theorem Tryd.infoP8 : (Tryd.prog.info? 5).map (fun i => (i.zero, i.size, i.bytes)) = some (some (.int .u8 0), 1, 1) := by kernel_rfl
theorem Tryd.sizeP8 : (Tryd.prog.info? 5).map (·.size) = some 1 := by kernel_rfl
def keyAt (key : ByteArray) (j : Nat) : UInt8 := key.data.toList.getD j 0
/-- A key of 64 bytes, each put together with m. -/
def padL (key : ByteArray) (m : UInt8) : List UInt8 := (List.range 64).map fun j => keyAt key j ^^^ m
theorem splice_get (n : Nat) (l : List UInt8) (i : Nat) (hi : i < n) : (Go.splice (List.replicate n (Value.int .u8 0)) 0 (l.map byteV))[i]? = some (.int .u8 ((l.getD i 0).toNat : Int)) := by
  unfold Go.splice
  rw [List.take_zero, List.nil_append, Nat.zero_add, List.length_map]
  by_cases h : i < l.length
  · rw [List.getElem?_append_left (by simpa using h)]; simp [h, byteV]
  · rw [List.getElem?_append_right (by simpa using h), List.getElem?_drop, List.length_map, List.getElem?_replicate, if_pos (by omega), List.getD_eq_getElem?_getD, List.getElem?_eq_none (by omega)]; rfl
theorem row_copied (w : World) (g t : Nat) (key : ByteArray) (hk : key.size ≤ 64) (h : w.heap[g]? = some (.cells (Go.splice (List.replicate 64 (.int .u8 0)) 0 (key.data.toList.map byteV)).toArray t (0, 0))) : w.rowIs g t 64 (u8V (keyAt key)) := by
  have hl : key.data.toList.length = key.size := by simp
  refine ⟨_, h, ?_, fun i hi => ?_⟩
  · rw [List.size_toArray, Go.length_splice _ _ _ (by rw [List.length_map, hl, List.length_replicate]; omega), List.length_replicate]
  · rw [List.getElem?_toArray]
    exact splice_get 64 _ i hi
theorem xor_step {key : ByteArray} {m : UInt8} {f : Nat → UInt8} {k : Nat} (h : ∀ j, f j = if j < k then keyAt key j ^^^ m else keyAt key j) : ∀ j, (if j = k then f k ^^^ m else f j) = if j < k + 1 then keyAt key j ^^^ m else keyAt key j := by
  intro j
  by_cases e : j = k
  · subst e; rw [if_pos rfl, if_pos (by omega), h j, if_neg (by omega)]
  · rw [if_neg e, h j]
    by_cases e2 : j < k
    · rw [if_pos e2, if_pos (by omega)]
    · rw [if_neg e2, if_neg (by omega)]

theorem pad_list {key : ByteArray} {m : UInt8} {f : Nat → UInt8} {k : Nat} (h : ∀ j, f j = if j < k then keyAt key j ^^^ m else keyAt key j) (hk : 64 ≤ k) : ∀ j, j < 64 → (padL key m)[j]? = some (f j) := by
  intro j hj
  rw [h j, if_pos (by omega)]
  simp [padL, hj]
theorem pad_conv {P : Program} {w : World} {g e src dst cap : Nat} {f : Nat → UInt8} {l : List UInt8} (h : w.rowIs g e 64 (u8V f)) (hl : ∀ j, j < 64 → l[j]? = some (f j)) (hn : l.length = 64) (hs : P.underlying src = some (.slice e)) (he : P.underlying e = some (.int .u8)) (hd : P.underlying dst = some .string) :
    (convert src dst (.slice (some ⟨g, 0, none⟩) 64 cap)).run P w = .ok (.string ⟨l.toArray⟩) w := by
  have hr := run_convert_bytes_back (P := P) w src dst e ⟨g, 0, none⟩ cap l hs he hd (fun j hj => by
    have hc := h.cell (i := j) (by omega)
    have ea : (⟨g, 0, none⟩ : Addr).add j = ⟨g, j, none⟩ := by by_cases hz : j = 0 <;> simp [Addr.add, hz]
    have e2 := hl j (by omega)
    rw [List.getElem?_eq_getElem hj] at e2
    rw [ea, hc, Option.some.inj e2]
    rfl)
  rw [hn] at hr
  exact hr
theorem padL_length (key : ByteArray) (m : UInt8) : (padL key m).length = 64 := by simp [padL]
set_option maxRecDepth 100000 in
set_option maxHeartbeats 1600000 in
theorem spec_pad (key : ByteArray) (m : UInt8) (w : World) (hk : key.size ≤ 64) :
    Calls Tryd.prog 15 #[.string key, .int .u8 (m.toNat : Int)] w fun e w' => e = .returned (.string ⟨(padL key m).toArray⟩) ∧ Below w.heap.size w w' := by
  have hmk : ∀ w : World, (Instr.makeSlice 37 (.int .i64 64) (.int .i64 64)).run Tryd.prog w = .ok (.slice (some ⟨w.heap.size, 0, none⟩) 64 64) (w.alloc (.cells (madeCells #[.int .u8 0] 64) 5)) := run_make_row' (P := Tryd.prog) 37 5 (.int .u8 0) 1 (by kernel_rfl) Tryd.infoP8 rfl .i64 .i64 64 (by omega) (by omega)
  have hmade : madeCells #[Value.int .u8 0] 64 = (List.replicate 64 (Value.int .u8 0)).toArray := by
    apply Array.toList_inj.1; rw [toList_madeCells_one]
  obtain ⟨cur, hcur⟩ : ∃ l : List Value, l = List.replicate 64 (Value.int .u8 0) := ⟨_, rfl⟩
  rw [hmade, ← hcur] at hmk
  have hcl : cur.length = 64 := by rw [hcur]; simp
  have HC := hide hcur
  clear hcur hmade
  have hm : (m.toNat : Int) ≤ 255 := by have := m.toNat_lt; omega
  go_enter Tryd.func15, Tryd.ntmps15
  go_wp2_with (refine wpList_copy_str rfl _ _ 37 9 rfl 5 Tryd.underlying37 Tryd.sizeP8 _ _ _ rfl key rfl w.heap.size 0 cur 5 (heap_alloc_new w _) hk (fun _ => rfl) (by omega) w.heap.size w ((Below.refl _ _).alloc (Nat.le_refl _) _) (Nat.le_refl _) ?_)
  intro w1 hrow hb1
  have hr1 := row_copied w1 w.heap.size 5 key hk (by rw [← HC.out]; exact hrow.out)
  clear hrow hmk HC hcl
  go_wp2_with fail
  go_loopw [6] (fun i wx => ∃ (k : Nat) (f : Nat → UInt8), k ≤ 64 ∧ i = .int .i64 k ∧ Hid (∀ j, f j = if j < k then keyAt key j ^^^ m else keyAt key j) ∧ wx.rowIs w.heap.size 5 64 (u8V f) ∧ Below w.heap.size w wx) (fun i _ => 64 - (intOf i).toNat)
  case atStart => exact ⟨0, keyAt key, by omega, rfl, fun j => by simp, hr1, hb1⟩
  case round =>
    clear hr1 hb1
    obtain ⟨k, f, hk64, rfl, hf, hr, hbl⟩ := hrel
    by_cases hlt : k < 64
    · have c : wr.cell? ⟨w.heap.size, k, none⟩ = some (.int .u8 ((f k).toNat : Int)) := hr.cell hlt
      have fz := hr.frozen k
      have hx := r_xor8 (f k) m
      have hf2 := hide (xor_step hf.out)
      go_wp2_with fail
      refine ⟨?rel, ?measure⟩
      case rel => exact ⟨k + 1, fun j => if j = k then f k ^^^ m else f j, by omega, by go_num, hf2, set_byte hr (by rw [UInt8.toNat_xor]), hbl.setCell (Nat.le_refl _) _⟩
      case measure => simp [intOf]; omega
    · have hcv := pad_conv (P := Tryd.prog) (cap := 64) hr (pad_list hf.out (by omega)) (padL_length key m) Tryd.underlying37 Tryd.underlying5 Tryd.underlying9
      go_wp2_with fail
      go_ret
      exact ⟨rfl, hbl⟩
end Go.Proofs.YtconcnndghmdfaaDoor

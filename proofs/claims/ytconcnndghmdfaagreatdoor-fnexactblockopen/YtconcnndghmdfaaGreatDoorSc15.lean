/- Put together: DifS, SealF, RangeN. -/
import Derived.Test.YtconcnndghmdfaaGreatDoorRows
import Derived.Test.YtconcnndghmdfaaGreatDoorSc5
import Derived.BigRegion
import Derived.Test.YtconcnndghmdfaaGreatDoorSc4
import Derived.Test.YtconcnndghmdfaaGreatDoorSc7
import Derived.Test.YtconcnndghmdfaaGreatDoorSc14
import Derived.Test.YtconcnndghmdfaaGreatDoorSc10
import Derived.Test.YtconcnndghmdfaaGreatDoorSc11
import Derived.Test.YtconcnndghmdfaaGreatDoorSc9
import Derived.Test.YtconcnndghmdfaaGreatDoorSc12
import Derived.Deep.QuietTactic
namespace Go.Proofs.YtconcnndghmdfaaGreatDoor
open Go.RowKit
theorem Tryz.infoD8 : (Tryz.prog.info? 5).map (fun i => (i.zero, i.size, i.bytes)) = some (some (.int .u8 0), 1, 1) := by kernel_rfl
/-- Differ, a byte of it. -/
def difF (T : Nat → UInt8) (far j : Nat) : UInt8 := if far ≤ j then T j - T (j - far) else T j
/-- Sum, a byte of it. -/
def sumF (T : Nat → UInt8) (far : Nat) (j : Nat) : UInt8 := if _h : far ≤ j ∧ 0 < far then T j + sumF T far (j - far) else T j
theorem sub8 (a b : UInt8) : IntKind.u8.wrap ((a.toNat : Int) - (b.toNat : Int)) = (((a - b).toNat : Nat) : Int) := by
  rw [IntKind.wrap_u8, UInt8.toNat_sub]; have := a.toNat_lt; have := b.toNat_lt; omega
theorem add8 (a b : UInt8) : IntKind.u8.wrap ((a.toNat : Int) + (b.toNat : Int)) = (((a + b).toNat : Nat) : Int) := by
  rw [IntKind.wrap_u8, UInt8.toNat_add]; omega
theorem bF_get (b : ByteArray) (j : Nat) (h : j < b.size) : b[j] = bF b j := by
  have e := bF_at b b.size rfl j h
  have h' : j < b.data.toList.length := h
  rw [List.getElem?_eq_getElem h'] at e
  exact Option.some.inj e
set_option maxRecDepth 100000 in
set_option maxHeartbeats 800000 in
theorem spec_differA (text : ByteArray) (far : Nat) (w : World) (ht : text.size ≤ 20000) (hf1 : 1 ≤ far) (hf2 : far ≤ 256) :
    Calls Tryz.prog 57 #[.string text, .int .i64 far] w fun e w' => e = .returned (.string ⟨((List.range text.size).map (difF (bF text) far)).toArray⟩) ∧ Below w.heap.size w w' := by
  have hmk : ∀ w : World, (Instr.makeSlice 22 (.int .i64 text.size) (.int .i64 text.size)).run Tryz.prog w = .ok (.slice (some ⟨w.heap.size, 0, none⟩) text.size text.size) (w.alloc (.cells (madeCells #[.int .u8 0] text.size) 5)) := run_make_row' (P := Tryz.prog) 22 5 (.int .u8 0) 1 (by kernel_rfl) Tryz.infoD8 rfl .i64 .i64 text.size (by omega) (by omega)
  go_enter Tryz.func57, Tryz.ntmps57
  go_wp2_with fail
  clear hmk
  go_loopw [6] (fun i wx => ∃ (k : Nat) (h : Nat → UInt8), k ≤ text.size ∧ i = .int .i64 k ∧ Hid (∀ j, j < k → h j = difF (bF text) far j) ∧ wx.rowIs w.heap.size 5 text.size (u8V h) ∧ Below w.heap.size w wx) (fun i _ => text.size - (intOf i).toNat)
  case atStart => exact ⟨0, fun _ => 0, Nat.zero_le _, rfl, fun j hj => by omega, World.rowIs_made _ _ _ _, (Below.refl _ _).alloc (Nat.le_refl _) _⟩
  case round =>
    obtain ⟨k, h, hk, rfl, hh, hr, hbl⟩ := hrel
    by_cases hlt : k < text.size
    · have hlt' : (k : Int) < (text.size : Int) := by omega
      have ck := hr.cell (i := k) hlt
      have fk := hr.frozen k
      have c1 : ∀ v, (wr.setCell ⟨w.heap.size, k, none⟩ v).cell? ⟨w.heap.size, k, none⟩ = some v := fun v => World.cell?_setCell_same _ _ _ ck
      have hT := hide (bF_get text k hlt)
      have b1 : (text[k].toNat : Int) ≤ 255 := by have := text[k].toNat_lt; omega
      by_cases hge : far ≤ k
      · have hge' : (far : Int) ≤ (k : Int) := by omega
        obtain ⟨d, ed⟩ : ∃ d, d = k - far := ⟨_, rfl⟩
        have wd : IntKind.i64.wrap ((k : Int) - (far : Int)) = (d : Int) := by simp only [IntKind.wrap_i64]; omega
        have hd : d < text.size := by omega
        have hd' : (d : Int) < (text.size : Int) := by omega
        have hs8 := sub8 text[k] text[d]
        have HV := hide (show text[k] - text[d] = difF (bF text) far k by rw [difF, if_pos hge, hT.out, bF_get text d hd, ed])
        obtain ⟨Y, hY⟩ : ∃ Y, Y = text[k] - text[d] := ⟨_, rfl⟩
        rw [← hY] at hs8 HV
        clear ed hY
        go_wp2_with fail
        go_region
        clear wd
        go_wp2_with fail
        go_roundw
        case rel =>
          refine ⟨k + 1, fun j => if j = k then Y else (if j = k then text[k] else h j), by omega, by go_num, fun j hj => ?_, (set_byte (set_byte hr rfl) rfl).drew, ((hbl.setCell (Nat.le_refl _) _).setCell (Nat.le_refl _) _).drew⟩
          show (if j = k then Y else (if j = k then text[k] else h j)) = _
          by_cases e : j = k
          · rw [if_pos e, e, HV.out]
          · rw [if_neg e, if_neg e]; exact hh.out j (by omega)
        case measure => simp [intOf]; omega
      · have hge' : ¬ (far : Int) ≤ (k : Int) := by omega
        have HV := hide (show text[k] = difF (bF text) far k by rw [difF, if_neg hge, hT.out])
        go_wp2_with fail
        refine ⟨⟨k + 1, fun j => if j = k then text[k] else h j, by omega, by go_num, fun j hj => ?_, set_byte hr rfl, hbl.setCell (Nat.le_refl _) _⟩, by simp [intOf]; omega⟩
        show (if j = k then text[k] else h j) = _
        by_cases e : j = k
        · rw [if_pos e, HV.out, e]
        · rw [if_neg e]; exact hh.out j (by omega)
    · have hlt' : ¬ (k : Int) < (text.size : Int) := by omega
      have hcv := conv_row (P := Tryz.prog) (cap := text.size) hr (l := (List.range text.size).map (difF (bF text) far)) (fun j hj => by rw [List.getElem?_map, List.getElem?_range hj, hh.out j (by omega)]; rfl) (by simp) Tryz.underlying22 Tryz.underlying5 Tryz.underlying9
      go_wp2_with fail
      go_ret
      exact ⟨rfl, hbl⟩
abbrev farOk (text : ByteArray) (far : Int) : Prop := text.size ≤ 20000 ∧ 1 ≤ far ∧ far ≤ 256
/-- Differ. -/
def differS (text : ByteArray) (far : Int) : ByteArray := if farOk text far then ⟨((List.range text.size).map (difF (bF text) far.toNat)).toArray⟩ else ⟨#[]⟩
/-- Sum. -/
def sumS (text : ByteArray) (far : Int) : ByteArray := if farOk text far then ⟨((List.range text.size).map (sumF (bF text) far.toNat)).toArray⟩ else ⟨#[]⟩
end Go.Proofs.YtconcnndghmdfaaGreatDoor
namespace Go.Proofs.YtconcnndghmdfaaGreatDoor
open Go.RowKit
/-- A number, and a text in cipher. -/
def numB (n : Int) : ByteArray := ⟨(encNum (foldNum n)).toArray⟩
def hidB (key : ByteArray) (n : Nat) (t : ByteArray) : ByteArray := ⟨(ctrL (kB (keyF key)) n (bF t) t.size).toArray⟩
theorem hidB_size (key : ByteArray) (n : Nat) (t : ByteArray) : (hidB key n t).size = t.size := by
  unfold hidB; rw [size_mk]; simp [ctrL]
/-- What is packed: the text, or its Differ. -/
def difB (t : ByteArray) (far : Int) : ByteArray := if 0 < far then ⟨((List.range t.size).map (difF (bF t) far.toNat)).toArray⟩ else t
theorem difB_size (t : ByteArray) (far : Int) : (difB t far).size = t.size := by
  unfold difB
  split
  · rw [size_mk]; simp
  · rfl
/-- A pack of at most 4000 bytes has at most 17006. -/
theorem packB_few (t : ByteArray) (h : t.size ≤ 4000) : (packB t).size ≤ 17006 := by
  have h1 := codeToks_len (bF t) t.size h
  have h4 := encNum_le 1 (foldNum t.size) (by unfold foldNum; rw [if_neg (by omega)]; show (2 * (t.size : Int)).toNat < 16384; omega)
  have e1 : (⟨(encNum (foldNum (t.size : Int))).toArray⟩ : ByteArray).size = (encNum (foldNum (t.size : Int))).length := size_mk _
  have e2 : (⟨(codeOf (toksBits (parseL (bF t) t.size))).toArray⟩ : ByteArray).size = (codeOf (toksBits (parseL (bF t) t.size))).length := size_mk _
  have e3 : (packB t).size = _ + _ := ByteArray.size_append
  rw [e3, e1, e2]
  omega
/-- What stands ahead of a sealed block's last 16 bytes, and the block. -/
def sealT (k : ByteArray × ByteArray) (id far : Int) (t : ByteArray) : ByteArray := numB id ++ numB far ++ hidB k.1 id.toNat (packB (difB t far))
def sealB (k : ByteArray × ByteArray) (id far : Int) (t : ByteArray) : ByteArray := sealT k id far t ++ take16 (macT k.2 (sealT k id far t))
def sealOk (k : ByteArray × ByteArray) (id far : Int) (t : ByteArray) : Prop := keysOk k = true ∧ idOk id = true ∧ 0 ≤ far ∧ far ≤ 256 ∧ t.size ≤ 4000
instance (k : ByteArray × ByteArray) (id far : Int) (t : ByteArray) : Decidable (sealOk k id far t) := by unfold sealOk; infer_instance
def sealS (k : ByteArray × ByteArray) (id far : Int) (t : ByteArray) : ByteArray := if sealOk k id far t then sealB k id far t else ⟨#[]⟩
theorem numB_size (n : Int) (h0 : 0 ≤ n) (h1 : n ≤ 2000000) : (numB n).size ≤ 4 := by
  have := encNum_le 3 (foldNum n) (by unfold foldNum; rw [if_neg (by omega)]; show (2 * n).toNat < 128 ^ 4; omega)
  unfold numB
  rw [size_mk]
  exact this
theorem sealT_size (k : ByteArray × ByteArray) (id far : Int) (t : ByteArray) (h0 : 0 ≤ id) (h1 : id ≤ 2000000) (h2 : 0 ≤ far) (h3 : far ≤ 256) (ht : t.size ≤ 4000) : (sealT k id far t).size ≤ 17014 := by
  have a := numB_size id h0 h1
  have b := numB_size far h2 (by omega)
  have c := packB_few (difB t far) (by rw [difB_size]; exact ht)
  unfold sealT
  rw [ByteArray.size_append, ByteArray.size_append, hidB_size]
  omega
end Go.Proofs.YtconcnndghmdfaaGreatDoor
namespace Go.Proofs.YtconcnndghmdfaaGreatDoor
open Go.RowKit
/-- The byte j of a text, 0 behind it. -/
def tbN (t : ByteArray) (j : Nat) : Nat := (bF t j).toNat
theorem tbN_lt (t : ByteArray) (j : Nat) : tbN t j < 256 := (bF t j).toNat_lt
theorem tbN_far (t : ByteArray) (j : Nat) (h : t.size ≤ j) : tbN t j = 0 := by
  unfold tbN bF
  rw [List.getD_eq_getElem?_getD, List.getElem?_eq_none (by have e : t.data.toList.length = t.size := rfl; omega)]; rfl
theorem tbN_in (t : ByteArray) (j : Nat) (h : j < t.size) : (t[j].toNat : Nat) = tbN t j := by
  have h2 := bF_at t t.size rfl j h
  rw [List.getElem?_eq_getElem (by have e : t.data.toList.length = t.size := rfl; omega)] at h2
  unfold tbN
  rw [← Option.some.inj h2]; rfl
theorem or64 (x b : Nat) (hb : b < 256) : bits .or .u64 ((x : Int) * 256 % 18446744073709551616) (b : Int) = (((256 * x + b) % 18446744073709551616 : Nat) : Int) := by
  obtain ⟨y, hy⟩ : ∃ y, y = x % 72057594037927936 := ⟨_, rfl⟩
  have hy2 : y < 72057594037927936 := by omega
  have e : ((x : Int) * 256 % 18446744073709551616) = ((2 ^ 8 * y : Nat) : Int) := by omega
  have ho : 2 ^ 8 * y ||| b = 2 ^ 8 * y + b := (Nat.two_pow_add_eq_or_of_lt (by omega) _).symm
  have e2 : (256 * x + b) % 18446744073709551616 = 2 ^ 8 * y + b := by omega
  rw [e, e2]
  show IntKind.u64.wrap ((BitVec.ofInt 64 ((2 ^ 8 * y : Nat) : Int) ||| BitVec.ofInt 64 (b : Int)).toNat : Int) = _
  rw [BitVec.toNat_or, BitVec.ofInt_natCast, BitVec.ofInt_natCast, BitVec.toNat_ofNat, BitVec.toNat_ofNat, Nat.mod_eq_of_lt (show 2 ^ 8 * y < 2 ^ 64 by omega), Nat.mod_eq_of_lt (show b < 2 ^ 64 by omega), ho, IntKind.wrap_u64]
  omega
/-- What a decoder's block holds. -/
def decV (t : ByteArray) (at_ x size gc j : Nat) : Value := if j = 0 then .string t else if j = 1 then .int .i64 (at_ : Nat) else if j = 2 then .int .u64 (x : Nat) else if j = 3 then .int .u64 (size : Nat) else .slice (some ⟨gc, 0, none⟩) 1600 1600
theorem dec_cells {w : World} {g T at_ x size gc : Nat} {t : ByteArray} (h : w.rowIs g T 5 (decV t at_ x size gc)) :
    w.cell? ⟨g, 0, none⟩ = some (.string t) ∧ w.cell? ⟨g, 1, none⟩ = some (.int .i64 (at_ : Nat)) ∧ w.cell? ⟨g, 2, none⟩ = some (.int .u64 (x : Nat)) ∧ w.cell? ⟨g, 3, none⟩ = some (.int .u64 (size : Nat)) ∧ w.cell? ⟨g, 4, none⟩ = some (.slice (some ⟨gc, 0, none⟩) 1600 1600) :=
  ⟨h.cell (i := 0) (by omega), h.cell (i := 1) (by omega), h.cell (i := 2) (by omega), h.cell (i := 3) (by omega), h.cell (i := 4) (by omega)⟩
theorem dec_set {w : World} {g T at_ x size gc : Nat} {t : ByteArray} (h : w.rowIs g T 5 (decV t at_ x size gc)) : (∀ y : Nat, (w.setCell ⟨g, 1, none⟩ (.int .i64 (y : Int))).rowIs g T 5 (decV t y x size gc)) ∧ (∀ y : Nat, (w.setCell ⟨g, 2, none⟩ (.int .u64 (y : Int))).rowIs g T 5 (decV t at_ y size gc)) ∧ (∀ y : Nat, (w.setCell ⟨g, 3, none⟩ (.int .u64 (y : Int))).rowIs g T 5 (decV t at_ x y gc)) := by
  refine ⟨fun y => (h.set 1 _).congr ?_, fun y => (h.set 2 _).congr ?_, fun y => (h.set 3 _).congr ?_⟩
  · intro i hi
    match i, hi with
    | 0, _ => rfl
    | 1, _ => rfl
    | 2, _ => rfl
    | 3, _ => rfl
    | 4, _ => rfl
  · intro i hi
    match i, hi with
    | 0, _ => rfl
    | 1, _ => rfl
    | 2, _ => rfl
    | 3, _ => rfl
    | 4, _ => rfl
  · intro i hi
    match i, hi with
    | 0, _ => rfl
    | 1, _ => rfl
    | 2, _ => rfl
    | 3, _ => rfl
    | 4, _ => rfl
set_option maxRecDepth 100000 in
set_option maxHeartbeats 800000 in
theorem spec_next (g gc at_ x size : Nat) (t : ByteArray) (w : World) (hat : at_ ≤ 1000000) (_hts : t.size ≤ 9223372036854775807) (_hx : x < 18446744073709551616) (hr : w.rowIs g 216 5 (decV t at_ x size gc)) :
    Calls Tryz.prog 152 #[.pointer (some ⟨g, 0, none⟩)] w fun e w' => e = .returned (.tuple #[]) ∧ w'.rowIs g 216 5 (decV t (at_ + 1) ((256 * x + tbN t at_) % 18446744073709551616) size gc) ∧ w.grownBy w' (some g) := by
  obtain ⟨c0, c1, c2, c3, c4⟩ := dec_cells hr
  have f1 := hr.frozen 1
  have f2 := hr.frozen 2
  obtain ⟨X, hX⟩ : ∃ X, X = x * 256 % 18446744073709551616 := ⟨_, rfl⟩
  have kX : (x : Int) * 256 % 18446744073709551616 = (X : Int) := by omega
  have kX2 : IntKind.u64.wrap ((x : Int) * 256) = (X : Int) := by rw [IntKind.wrap_u64]; omega
  have hat' : (at_ : Int) ≤ 1000000 := by omega
  have r1 := (dec_set hr).2.1 X
  obtain ⟨d0, d1, d2, d3, d4⟩ := dec_cells r1
  have e1 := r1.frozen 1
  have e2 := r1.frozen 2
  have g1 : w.grownBy (w.setCell ⟨g, 2, none⟩ (.int .u64 (X : Int))) (some g) := grownBy_set ⟨rfl, rfl, rfl, Nat.le_refl _, fun _ _ _ => rfl⟩ _
  by_cases hlt : at_ < t.size
  · have hlt' : (at_ : Int) < (t.size : Int) := by omega
    have htb := tbN_in t at_ hlt
    obtain ⟨b, hb⟩ : ∃ b, b = tbN t at_ := ⟨_, rfl⟩
    have hb8 : b < 256 := by rw [hb]; exact tbN_lt t at_
    obtain ⟨Y, hY⟩ : ∃ Y, Y = (256 * x + b) % 18446744073709551616 := ⟨_, rfl⟩
    have ho := or64 x b hb8
    rw [kX, ← hY] at ho
    rw [← hb] at htb
    have HY := hide (show Y = (256 * x + tbN t at_) % 18446744073709551616 by rw [hY, hb])
    have F := hide (And.intro r1 (And.intro g1 (And.intro d0 (And.intro d1 (And.intro d2 (And.intro e1 e2))))))
    clear hX hr c0 c1 c3 c4 hY hb d0 d1 d2 d3 d4 e1 e2 r1 g1
    go_enter Tryz.func152, Tryz.ntmps152
    go_wp2_with fail
    clear c2 f1 f2 kX kX2
    obtain ⟨r1, g1, d0, d1, d2, e1, e2⟩ := F.out
    generalize w.setCell ⟨g, 2, none⟩ (.int .u64 (X : Int)) = W1 at *
    clear F
    go_quiet (fail)
    go_wp2_with fail
    have r2 := (dec_set (show (W1.drewN nq).rowIs g 216 5 (decV t at_ X size gc) from r1)).2.1 Y
    have r3 := (dec_set r2).1 (at_ + 1)
    have g2 : w.grownBy (W1.drewN nq) (some g) := ⟨g1.os, g1.tape, g1.output, g1.size, g1.block⟩
    have b0 : (W1.drewN nq).cell? ⟨g, 0, none⟩ = some (.string t) := d0
    have b1 : (W1.drewN nq).cell? ⟨g, 1, none⟩ = some (.int .i64 (at_ : Nat)) := d1
    have b2 : (W1.drewN nq).cell? ⟨g, 2, none⟩ = some (.int .u64 (X : Nat)) := d2
    have b3 : (W1.drewN nq).frozen? ⟨g, 2, none⟩ = false := e2
    have kw : IntKind.u64.wrap (b : Int) = (b : Int) := by rw [IntKind.wrap_u64]; omega
    obtain ⟨⟨c0, c1, c2, c3, c4⟩, fr⟩ := And.intro (dec_cells r2) (r2.frozen 1)
    have F := hide (And.intro r3 (And.intro g2 (And.intro c1 fr)))
    generalize W1.drewN nq = W2 at *
    clear r1 g1 d0 d1 d2 e1 e2 r2 r3 g2 c0 c1 c2 c3 c4 fr
    go_region
    obtain ⟨r3, g2, c1, fr⟩ := F.out
    have kn : (at_ : Int) + 1 = ((at_ + 1 : Nat) : Int) := by omega
    have g3 := grownBy_drew (grownBy_set (i := 1) (grownBy_set (i := 2) g2 (.int .u64 (Y : Int))) (.int .i64 ((at_ + 1 : Nat) : Int)))
    have G := hide (And.intro r3 g3)
    generalize hA1 : at_ + 1 = a1 at *
    have HA1 := hide hA1
    clear F b0 b1 b2 b3 kw htb ho r3 g3 g2 hA1
    go_wp2_with fail
    go_end0
    exact ⟨rfl, by rw [← HY.out, HA1.out]; exact G.out.1.drew, G.out.2⟩
  · have hlt' : ¬ (at_ : Int) < (t.size : Int) := by omega
    have HX := hide (show X = (256 * x + tbN t at_) % 18446744073709551616 by rw [tbN_far t at_ (by omega), hX]; omega)
    have F := hide (And.intro r1 (And.intro g1 (And.intro d0 (And.intro d1 (And.intro d2 (And.intro e1 e2))))))
    clear hX hr c0 c1 c3 c4 d0 d1 d2 d3 d4 e1 e2 r1 g1
    go_enter Tryz.func152, Tryz.ntmps152
    go_wp2_with fail
    clear c2 f1 f2 kX kX2
    obtain ⟨r1, g1, d0, d1, d2, e1, e2⟩ := F.out
    generalize w.setCell ⟨g, 2, none⟩ (.int .u64 (X : Int)) = W1 at *
    clear F
    go_quiet (fail)
    have r2 := (dec_set (show (W1.drewN nq).rowIs g 216 5 (decV t at_ X size gc) from r1)).1 (at_ + 1)
    have g2 : w.grownBy (W1.drewN nq) (some g) := ⟨g1.os, g1.tape, g1.output, g1.size, g1.block⟩
    have g3 := grownBy_set (i := 1) g2 (.int .i64 ((at_ + 1 : Nat) : Int))
    have b1 : (W1.drewN nq).cell? ⟨g, 1, none⟩ = some (.int .i64 (at_ : Nat)) := d1
    have b3 : (W1.drewN nq).frozen? ⟨g, 1, none⟩ = false := e1
    have kn : (at_ : Int) + 1 = ((at_ + 1 : Nat) : Int) := by omega
    have G := hide (And.intro r2 g3)
    generalize W1.drewN nq = W2 at *
    generalize hA1 : at_ + 1 = a1 at *
    have HA1 := hide hA1
    clear r1 g1 d0 d1 d2 e1 e2 r2 g2 g3 hA1
    go_wp2_with fail
    go_end0
    exact ⟨rfl, by rw [← HX.out, HA1.out]; exact G.out.1, G.out.2⟩
theorem pv_lt (tb : Nat → Nat) (h : ∀ j, tb j < 256) : ∀ k, pv tb k < 256 ^ k
  | 0 => by show (0 : Nat) < 1; omega
  | k + 1 => by
    have h1 := pv_lt tb h k
    have h2 := h k
    show 256 * pv tb k + tb k < 256 ^ (k + 1)
    rw [Nat.pow_succ]; omega
/-- A decoder at work. -/
def Dec (w : World) (g gc : Nat) (t : ByteArray) (s : RC) (x : Nat) : Prop := w.rowIs g 216 5 (decV t (s.n + 4) x s.size gc) ∧ w.rowIs gc 58 1600 (u64V s.ch)
set_option maxRecDepth 100000 in
set_option maxHeartbeats 800000 in
theorem spec_decode0 (t : ByteArray) (w : World) (hts : t.size ≤ 9223372036854775807) :
    Calls Tryz.prog 134 #[.string t] w fun e w' => ∃ g, e = .returned (.pointer (some ⟨g, 0, none⟩)) ∧ w.heap.size < g ∧ Dec w' g w.heap.size t rc0 (pv (tbN t) 4) ∧ Below w.heap.size w w' := by
  go_enter Tryz.func134, Tryz.ntmps134
  go_wp2_with fail
  refine (spec_chances w).mono ?_
  rintro e w1 ⟨rfl, hch, hb1⟩
  go_wp2_with fail
  have hlt := hch.lt
  have R0 := hide (show (w1.alloc (.cells #[.string t, .int .i64 0, .int .u64 0, .int .u64 4294967295, .slice (some ⟨w.heap.size, 0, none⟩) 1600 1600] 216)).rowIs w1.heap.size 216 5 (decV t 0 0 4294967295 w.heap.size) from
    World.rowIs_alloc w1 _ _ _ (fun i hi => match i, hi with
      | 0, _ => rfl
      | 1, _ => rfl
      | 2, _ => rfl
      | 3, _ => rfl
      | 4, _ => rfl))
  have R1 := hide (hch.alloc (.cells #[.string t, .int .i64 0, .int .u64 0, .int .u64 4294967295, .slice (some ⟨w.heap.size, 0, none⟩) 1600 1600] 216))
  have RB := hide (hb1.alloc hb1.size (.cells #[.string t, .int .i64 0, .int .u64 0, .int .u64 4294967295, .slice (some ⟨w.heap.size, 0, none⟩) 1600 1600] 216))
  generalize w1.alloc (.cells #[.string t, .int .i64 0, .int .u64 0, .int .u64 4294967295, .slice (some ⟨w.heap.size, 0, none⟩) 1600 1600] 216) = W1 at *
  generalize w1.heap.size = g at *
  clear hch hb1
  go_loopw [4] (fun i wx => ∃ k : Nat, k ≤ 4 ∧ i = .int .i64 k ∧ Hid (wx.rowIs g 216 5 (decV t k (pv (tbN t) k) 4294967295 w.heap.size)) ∧ Hid (wx.rowIs w.heap.size 58 1600 (u64V fun _ => 1024)) ∧ Hid (Below w.heap.size w wx)) (fun i _ => 4 - (intOf i).toNat)
  case atStart => exact ⟨0, by omega, rfl, R0, R1, RB⟩
  case round =>
    clear R0 R1 RB
    obtain ⟨k, hk, rfl, hr, hc, hb⟩ := hrel
    by_cases hk4 : k < 4
    · have hk4' : (k : Int) < 4 := by omega
      have hp := pv_lt (tbN t) (tbN_lt t) k
      have hp2 : 256 ^ k ≤ 256 ^ 3 := Nat.pow_le_pow_right (by omega) (by omega)
      have hp3 : pv (tbN t) k < 16777216 := Nat.lt_of_lt_of_le hp hp2
      have ht8 := tbN_lt t k
      have SN := hide (spec_next g w.heap.size k (pv (tbN t) k) 4294967295 t wr (by omega) hts (by omega) hr.out)
      rw [Nat.mod_eq_of_lt (by omega)] at SN
      go_wp2_with fail
      refine SN.out.mono ?_
      rintro e w2 ⟨rfl, hr2, hg2⟩
      have hc2 := hide (hc.out.of_block (hg2.block w.heap.size hc.out.lt (by simp; omega)))
      have hb2 := hide (hb.out.trans (grownBy_below hg2 (Nat.le_of_lt hlt) (Nat.le_of_lt hc.out.lt)))
      have hr3 := hide hr2
      clear hr2 hg2 hc hb hr SN
      go_wp2_with fail
      go_roundw
      case rel => exact ⟨k + 1, by omega, by go_num, hr3, hc2, hb2⟩
      case measure => simp [intOf]; omega
    · have hk4' : ¬ (k : Int) < 4 := by omega
      have e4 : k = 4 := by omega
      subst e4
      go_wp2_with fail
      go_ret
      exact ⟨g, rfl, hlt, ⟨hr.out, hc.out⟩, hb.out⟩
end Go.Proofs.YtconcnndghmdfaaGreatDoor

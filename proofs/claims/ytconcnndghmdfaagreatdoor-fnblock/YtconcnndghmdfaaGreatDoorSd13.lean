/- Put together: DifS, SealF, RangeN, RangeD. -/
import Derived.Test.YtconcnndghmdfaaGreatDoorSd6
import Derived.Test.YtconcnndghmdfaaGreatDoorSd12
namespace Go.Proofs.YtconcnndghmdfaaGreatDoor
open Go.RowKit
theorem Tryz.infoD8 : (Tryz.prog.info? 5).map (fun i => (i.zero, i.size, i.bytes)) = some (some (.int .u8 0), 1, 1) := by kernel_rfl
def difF (T : Nat → UInt8) (far j : Nat) : UInt8 := if far ≤ j then T j - T (j - far) else T j
def sumF (T : Nat → UInt8) (far : Nat) (j : Nat) : UInt8 := if _h : far ≤ j ∧ 0 < far then T j + sumF T far (j - far) else T j
theorem sub8 (a b : UInt8) : IntKind.u8.wrap ((a.toNat : Int) - (b.toNat : Int)) = (((a - b).toNat : Nat) : Int) := by
 rw [IntKind.wrap_u8, UInt8.toNat_sub]; have := a.toNat_lt; have := b.toNat_lt; omega
theorem add8 (a b : UInt8) : IntKind.u8.wrap ((a.toNat : Int) + (b.toNat : Int)) = (((a + b).toNat : Nat) : Int) := by
 rw [IntKind.wrap_u8, UInt8.toNat_add]; omega
theorem bF_get (b : ByteArray) (j : Nat) (h : j < b.size) : b[j] = bF b j := by
 have e := bF_at b b.size rfl j h
 have h' : j < b.data.toList.length := h
 rw [List.getElem?_eq_getElem h'] at e
 exact Option.some.inj e
set_option maxRecDepth 100000 in
set_option maxHeartbeats 800000 in
theorem spec_differA (text : ByteArray) (far : Nat) (w : World) (ht : text.size ≤ 20000) (hf1 : 1 ≤ far) (hf2 : far ≤ 256) :
 Calls Tryz.prog 57 #[.string text, .int .i64 far] w fun e w' => e = .returned (.string ⟨((List.range text.size).map (difF (bF text) far)).toArray⟩) ∧ Below w.heap.size w w' := by
 have hmk : ∀ w : World, (Instr.makeSlice 22 (.int .i64 text.size) (.int .i64 text.size)).run Tryz.prog w = .ok (.slice (some ⟨w.heap.size, 0, none⟩) text.size text.size) (w.alloc (.cells (madeCells #[.int .u8 0] text.size) 5)) := run_make_row' (P := Tryz.prog) 22 5 (.int .u8 0) 1 (by kernel_rfl) Tryz.infoD8 rfl .i64 .i64 text.size (by omega) (by omega)
 go_enter Tryz.func57, Tryz.ntmps57
 go_wp2_with fail
 clear hmk
 go_loopw [6] (fun i wx => ∃ (k : Nat) (h : Nat → UInt8), k ≤ text.size ∧ i = .int .i64 k ∧ Hid (∀ j, j < k → h j = difF (bF text) far j) ∧ wx.rowIs w.heap.size 5 text.size (u8V h) ∧ Below w.heap.size w wx) (fun i _ => text.size - (intOf i).toNat)
 case atStart => exact ⟨0, fun _ => 0, Nat.zero_le _, rfl, fun j hj => by omega, World.rowIs_made _ _ _ _, (Below.refl _ _).alloc (Nat.le_refl _) _⟩
 case round =>
  obtain ⟨k, h, hk, rfl, hh, hr, hbl⟩ := hrel
  by_cases hlt : k < text.size
  · have hlt' : (k : Int) < (text.size : Int) := by omega
    have ck := hr.cell (i := k) hlt
    have fk := hr.frozen k
    have c1 : ∀ v, (wr.setCell ⟨w.heap.size, k, none⟩ v).cell? ⟨w.heap.size, k, none⟩ = some v := fun v => World.cell?_setCell_same _ _ _ ck
    have hT := hide (bF_get text k hlt)
    have b1 : (text[k].toNat : Int) ≤ 255 := by have := text[k].toNat_lt; omega
    by_cases hge : far ≤ k
    · have hge' : (far : Int) ≤ (k : Int) := by omega
      obtain ⟨d, ed⟩ : ∃ d, d = k - far := ⟨_, rfl⟩
      have wd : IntKind.i64.wrap ((k : Int) - (far : Int)) = (d : Int) := by simp only [IntKind.wrap_i64]; omega
      have hd : d < text.size := by omega
      have hd' : (d : Int) < (text.size : Int) := by omega
      have hs8 := sub8 text[k] text[d]
      have HV := hide (show text[k] - text[d] = difF (bF text) far k by rw [difF, if_pos hge, hT.out, bF_get text d hd, ed])
      obtain ⟨Y, hY⟩ : ∃ Y, Y = text[k] - text[d] := ⟨_, rfl⟩
      rw [← hY] at hs8 HV
      clear ed hY
      go_wp2_with fail
      go_region
      clear wd
      go_wp2_with fail
      go_roundw
      case rel =>
       refine ⟨k + 1, fun j => if j = k then Y else (if j = k then text[k] else h j), by omega, by go_num, fun j hj => ?_, (set_byte (set_byte hr rfl) rfl).drew, ((hbl.setCell (Nat.le_refl _) _).setCell (Nat.le_refl _) _).drew⟩
       show (if j = k then Y else (if j = k then text[k] else h j)) = _
       by_cases e : j = k
       · rw [if_pos e, e, HV.out]
       · rw [if_neg e, if_neg e]; exact hh.out j (by omega)
      case measure => simp [intOf]; omega
    · have hge' : ¬ (far : Int) ≤ (k : Int) := by omega
      have HV := hide (show text[k] = difF (bF text) far k by rw [difF, if_neg hge, hT.out])
      go_wp2_with fail
      refine ⟨⟨k + 1, fun j => if j = k then text[k] else h j, by omega, by go_num, fun j hj => ?_, set_byte hr rfl, hbl.setCell (Nat.le_refl _) _⟩, by simp [intOf]; omega⟩
      show (if j = k then text[k] else h j) = _
      by_cases e : j = k
      · rw [if_pos e, HV.out, e]
      · rw [if_neg e]; exact hh.out j (by omega)
  · have hlt' : ¬ (k : Int) < (text.size : Int) := by omega
    have hcv := conv_row (P := Tryz.prog) (cap := text.size) hr (l := (List.range text.size).map (difF (bF text) far)) (fun j hj => by rw [List.getElem?_map, List.getElem?_range hj, hh.out j (by omega)]; rfl) (by simp) Tryz.underlying22 Tryz.underlying5 Tryz.underlying9
    go_wp2_with fail
    go_ret
    exact ⟨rfl, hbl⟩
abbrev farOk (text : ByteArray) (far : Int) : Prop := text.size ≤ 20000 ∧ 1 ≤ far ∧ far ≤ 256
def differS (text : ByteArray) (far : Int) : ByteArray := if farOk text far then ⟨((List.range text.size).map (difF (bF text) far.toNat)).toArray⟩ else ⟨#[]⟩
def sumS (text : ByteArray) (far : Int) : ByteArray := if farOk text far then ⟨((List.range text.size).map (sumF (bF text) far.toNat)).toArray⟩ else ⟨#[]⟩
def numB (n : Int) : ByteArray := ⟨(encNum (foldNum n)).toArray⟩
def hidB (key : ByteArray) (n : Nat) (t : ByteArray) : ByteArray := ⟨(ctrL (kB (keyF key)) n (bF t) t.size).toArray⟩
theorem hidB_size (key : ByteArray) (n : Nat) (t : ByteArray) : (hidB key n t).size = t.size := by
 unfold hidB; rw [size_mk]; simp [ctrL]
def difB (t : ByteArray) (far : Int) : ByteArray := if 0 < far then ⟨((List.range t.size).map (difF (bF t) far.toNat)).toArray⟩ else t
theorem difB_size (t : ByteArray) (far : Int) : (difB t far).size = t.size := by
 unfold difB
 split
 · rw [size_mk]; simp
 · rfl
theorem packB_few (t : ByteArray) (h : t.size ≤ 4000) : (packB t).size ≤ 17006 := by
 have h1 := codeToks_len (bF t) t.size h
 have h4 := encNum_le 1 (foldNum t.size) (by unfold foldNum; rw [if_neg (by omega)]; show (2 * (t.size : Int)).toNat < 16384; omega)
 have e1 : (⟨(encNum (foldNum (t.size : Int))).toArray⟩ : ByteArray).size = (encNum (foldNum (t.size : Int))).length := size_mk _
 have e2 : (⟨(codeOf (toksBits (parseL (bF t) t.size))).toArray⟩ : ByteArray).size = (codeOf (toksBits (parseL (bF t) t.size))).length := size_mk _
 have e3 : (packB t).size = _ + _ := ByteArray.size_append
 rw [e3, e1, e2]
 omega
def sealT (k : ByteArray × ByteArray) (id far : Int) (t : ByteArray) : ByteArray := numB id ++ numB far ++ hidB k.1 id.toNat (packB (difB t far))
def sealB (k : ByteArray × ByteArray) (id far : Int) (t : ByteArray) : ByteArray := sealT k id far t ++ take16 (macT k.2 (sealT k id far t))
def sealOk (k : ByteArray × ByteArray) (id far : Int) (t : ByteArray) : Prop := keysOk k = true ∧ idOk id = true ∧ 0 ≤ far ∧ far ≤ 256 ∧ t.size ≤ 4000
instance (k : ByteArray × ByteArray) (id far : Int) (t : ByteArray) : Decidable (sealOk k id far t) := by unfold sealOk; infer_instance
def sealS (k : ByteArray × ByteArray) (id far : Int) (t : ByteArray) : ByteArray := if sealOk k id far t then sealB k id far t else ⟨#[]⟩
theorem numB_size (n : Int) (h0 : 0 ≤ n) (h1 : n ≤ 2000000) : (numB n).size ≤ 4 := by
 have := encNum_le 3 (foldNum n) (by unfold foldNum; rw [if_neg (by omega)]; show (2 * n).toNat < 128 ^ 4; omega)
 unfold numB
 rw [size_mk]
 exact this
theorem sealT_size (k : ByteArray × ByteArray) (id far : Int) (t : ByteArray) (h0 : 0 ≤ id) (h1 : id ≤ 2000000) (h2 : 0 ≤ far) (h3 : far ≤ 256) (ht : t.size ≤ 4000) : (sealT k id far t).size ≤ 17014 := by
 have a := numB_size id h0 h1
 have b := numB_size far h2 (by omega)
 have c := packB_few (difB t far) (by rw [difB_size]; exact ht)
 unfold sealT
 rw [ByteArray.size_append, ByteArray.size_append, hidB_size]
 omega
def tbN (t : ByteArray) (j : Nat) : Nat := (bF t j).toNat
theorem tbN_lt (t : ByteArray) (j : Nat) : tbN t j < 256 := (bF t j).toNat_lt
theorem tbN_far (t : ByteArray) (j : Nat) (h : t.size ≤ j) : tbN t j = 0 := by
 unfold tbN bF
 rw [List.getD_eq_getElem?_getD, List.getElem?_eq_none (by have e : t.data.toList.length = t.size := rfl; omega)]; rfl
theorem tbN_in (t : ByteArray) (j : Nat) (h : j < t.size) : (t[j].toNat : Nat) = tbN t j := by
 have h2 := bF_at t t.size rfl j h
 rw [List.getElem?_eq_getElem (by have e : t.data.toList.length = t.size := rfl; omega)] at h2
 unfold tbN
 rw [← Option.some.inj h2]; rfl
theorem or64 (x b : Nat) (hb : b < 256) : bits .or .u64 ((x : Int) * 256 % 18446744073709551616) (b : Int) = (((256 * x + b) % 18446744073709551616 : Nat) : Int) := by
 obtain ⟨y, hy⟩ : ∃ y, y = x % 72057594037927936 := ⟨_, rfl⟩
 have hy2 : y < 72057594037927936 := by omega
 have e : ((x : Int) * 256 % 18446744073709551616) = ((2 ^ 8 * y : Nat) : Int) := by omega
 have ho : 2 ^ 8 * y ||| b = 2 ^ 8 * y + b := (Nat.two_pow_add_eq_or_of_lt (by omega) _).symm
 have e2 : (256 * x + b) % 18446744073709551616 = 2 ^ 8 * y + b := by omega
 rw [e, e2]
 show IntKind.u64.wrap ((BitVec.ofInt 64 ((2 ^ 8 * y : Nat) : Int) ||| BitVec.ofInt 64 (b : Int)).toNat : Int) = _
 rw [BitVec.toNat_or, BitVec.ofInt_natCast, BitVec.ofInt_natCast, BitVec.toNat_ofNat, BitVec.toNat_ofNat, Nat.mod_eq_of_lt (show 2 ^ 8 * y < 2 ^ 64 by omega), Nat.mod_eq_of_lt (show b < 2 ^ 64 by omega), ho, IntKind.wrap_u64]
 omega
def decV (t : ByteArray) (at_ x size gc j : Nat) : Value := if j = 0 then .string t else if j = 1 then .int .i64 (at_ : Nat) else if j = 2 then .int .u64 (x : Nat) else if j = 3 then .int .u64 (size : Nat) else .slice (some ⟨gc, 0, none⟩) 1600 1600
theorem dec_cells {w : World} {g T at_ x size gc : Nat} {t : ByteArray} (h : w.rowIs g T 5 (decV t at_ x size gc)) :
 w.cell? ⟨g, 0, none⟩ = some (.string t) ∧ w.cell? ⟨g, 1, none⟩ = some (.int .i64 (at_ : Nat)) ∧ w.cell? ⟨g, 2, none⟩ = some (.int .u64 (x : Nat)) ∧ w.cell? ⟨g, 3, none⟩ = some (.int .u64 (size : Nat)) ∧ w.cell? ⟨g, 4, none⟩ = some (.slice (some ⟨gc, 0, none⟩) 1600 1600) :=
 ⟨h.cell (i := 0) (by omega), h.cell (i := 1) (by omega), h.cell (i := 2) (by omega), h.cell (i := 3) (by omega), h.cell (i := 4) (by omega)⟩
theorem dec_set {w : World} {g T at_ x size gc : Nat} {t : ByteArray} (h : w.rowIs g T 5 (decV t at_ x size gc)) : (∀ y : Nat, (w.setCell ⟨g, 1, none⟩ (.int .i64 (y : Int))).rowIs g T 5 (decV t y x size gc)) ∧ (∀ y : Nat, (w.setCell ⟨g, 2, none⟩ (.int .u64 (y : Int))).rowIs g T 5 (decV t at_ y size gc)) ∧ (∀ y : Nat, (w.setCell ⟨g, 3, none⟩ (.int .u64 (y : Int))).rowIs g T 5 (decV t at_ x y gc)) := by
 refine ⟨fun y => (h.set 1 _).congr ?_, fun y => (h.set 2 _).congr ?_, fun y => (h.set 3 _).congr ?_⟩
 · intro i hi
   match i, hi with
   | 0, _ => rfl
   | 1, _ => rfl
   | 2, _ => rfl
   | 3, _ => rfl
   | 4, _ => rfl
 · intro i hi
   match i, hi with
   | 0, _ => rfl
   | 1, _ => rfl
   | 2, _ => rfl
   | 3, _ => rfl
   | 4, _ => rfl
 · intro i hi
   match i, hi with
   | 0, _ => rfl
   | 1, _ => rfl
   | 2, _ => rfl
   | 3, _ => rfl
   | 4, _ => rfl
set_option maxRecDepth 100000 in
set_option maxHeartbeats 800000 in
theorem spec_next (g gc at_ x size : Nat) (t : ByteArray) (w : World) (hat : at_ ≤ 1000000) (_hts : t.size ≤ 9223372036854775807) (_hx : x < 18446744073709551616) (hr : w.rowIs g 216 5 (decV t at_ x size gc)) :
 Calls Tryz.prog 152 #[.pointer (some ⟨g, 0, none⟩)] w fun e w' => e = .returned (.tuple #[]) ∧ w'.rowIs g 216 5 (decV t (at_ + 1) ((256 * x + tbN t at_) % 18446744073709551616) size gc) ∧ w.grownBy w' (some g) := by
 obtain ⟨c0, c1, c2, c3, c4⟩ := dec_cells hr
 have f1 := hr.frozen 1
 have f2 := hr.frozen 2
 obtain ⟨X, hX⟩ : ∃ X, X = x * 256 % 18446744073709551616 := ⟨_, rfl⟩
 have kX : (x : Int) * 256 % 18446744073709551616 = (X : Int) := by omega
 have kX2 : IntKind.u64.wrap ((x : Int) * 256) = (X : Int) := by rw [IntKind.wrap_u64]; omega
 have hat' : (at_ : Int) ≤ 1000000 := by omega
 have r1 := (dec_set hr).2.1 X
 obtain ⟨d0, d1, d2, d3, d4⟩ := dec_cells r1
 have e1 := r1.frozen 1
 have e2 := r1.frozen 2
 have g1 : w.grownBy (w.setCell ⟨g, 2, none⟩ (.int .u64 (X : Int))) (some g) := grownBy_set ⟨rfl, rfl, rfl, Nat.le_refl _, fun _ _ _ => rfl⟩ _
 by_cases hlt : at_ < t.size
 · have hlt' : (at_ : Int) < (t.size : Int) := by omega
   have htb := tbN_in t at_ hlt
   obtain ⟨b, hb⟩ : ∃ b, b = tbN t at_ := ⟨_, rfl⟩
   have hb8 : b < 256 := by rw [hb]; exact tbN_lt t at_
   obtain ⟨Y, hY⟩ : ∃ Y, Y = (256 * x + b) % 18446744073709551616 := ⟨_, rfl⟩
   have ho := or64 x b hb8
   rw [kX, ← hY] at ho
   rw [← hb] at htb
   have HY := hide (show Y = (256 * x + tbN t at_) % 18446744073709551616 by rw [hY, hb])
   have F := hide (And.intro r1 (And.intro g1 (And.intro d0 (And.intro d1 (And.intro d2 (And.intro e1 e2))))))
   clear hX hr c0 c1 c3 c4 hY hb d0 d1 d2 d3 d4 e1 e2 r1 g1
   go_enter Tryz.func152, Tryz.ntmps152
   go_wp2_with fail
   clear c2 f1 f2 kX kX2
   obtain ⟨r1, g1, d0, d1, d2, e1, e2⟩ := F.out
   generalize w.setCell ⟨g, 2, none⟩ (.int .u64 (X : Int)) = W1 at *
   clear F
   go_quiet (fail)
   go_wp2_with fail
   have r2 := (dec_set (show (W1.drewN nq).rowIs g 216 5 (decV t at_ X size gc) from r1)).2.1 Y
   have r3 := (dec_set r2).1 (at_ + 1)
   have g2 : w.grownBy (W1.drewN nq) (some g) := ⟨g1.os, g1.tape, g1.output, g1.size, g1.block⟩
   have b0 : (W1.drewN nq).cell? ⟨g, 0, none⟩ = some (.string t) := d0
   have b1 : (W1.drewN nq).cell? ⟨g, 1, none⟩ = some (.int .i64 (at_ : Nat)) := d1
   have b2 : (W1.drewN nq).cell? ⟨g, 2, none⟩ = some (.int .u64 (X : Nat)) := d2
   have b3 : (W1.drewN nq).frozen? ⟨g, 2, none⟩ = false := e2
   have kw : IntKind.u64.wrap (b : Int) = (b : Int) := by rw [IntKind.wrap_u64]; omega
   obtain ⟨⟨c0, c1, c2, c3, c4⟩, fr⟩ := And.intro (dec_cells r2) (r2.frozen 1)
   have F := hide (And.intro r3 (And.intro g2 (And.intro c1 fr)))
   generalize W1.drewN nq = W2 at *
   clear r1 g1 d0 d1 d2 e1 e2 r2 r3 g2 c0 c1 c2 c3 c4 fr
   go_region
   obtain ⟨r3, g2, c1, fr⟩ := F.out
   have kn : (at_ : Int) + 1 = ((at_ + 1 : Nat) : Int) := by omega
   have g3 := grownBy_drew (grownBy_set (i := 1) (grownBy_set (i := 2) g2 (.int .u64 (Y : Int))) (.int .i64 ((at_ + 1 : Nat) : Int)))
   have G := hide (And.intro r3 g3)
   generalize hA1 : at_ + 1 = a1 at *
   have HA1 := hide hA1
   clear F b0 b1 b2 b3 kw htb ho r3 g3 g2 hA1
   go_wp2_with fail
   go_end0
   exact ⟨rfl, by rw [← HY.out, HA1.out]; exact G.out.1.drew, G.out.2⟩
 · have hlt' : ¬ (at_ : Int) < (t.size : Int) := by omega
   have HX := hide (show X = (256 * x + tbN t at_) % 18446744073709551616 by rw [tbN_far t at_ (by omega), hX]; omega)
   have F := hide (And.intro r1 (And.intro g1 (And.intro d0 (And.intro d1 (And.intro d2 (And.intro e1 e2))))))
   clear hX hr c0 c1 c3 c4 d0 d1 d2 d3 d4 e1 e2 r1 g1
   go_enter Tryz.func152, Tryz.ntmps152
   go_wp2_with fail
   clear c2 f1 f2 kX kX2
   obtain ⟨r1, g1, d0, d1, d2, e1, e2⟩ := F.out
   generalize w.setCell ⟨g, 2, none⟩ (.int .u64 (X : Int)) = W1 at *
   clear F
   go_quiet (fail)
   have r2 := (dec_set (show (W1.drewN nq).rowIs g 216 5 (decV t at_ X size gc) from r1)).1 (at_ + 1)
   have g2 : w.grownBy (W1.drewN nq) (some g) := ⟨g1.os, g1.tape, g1.output, g1.size, g1.block⟩
   have g3 := grownBy_set (i := 1) g2 (.int .i64 ((at_ + 1 : Nat) : Int))
   have b1 : (W1.drewN nq).cell? ⟨g, 1, none⟩ = some (.int .i64 (at_ : Nat)) := d1
   have b3 : (W1.drewN nq).frozen? ⟨g, 1, none⟩ = false := e1
   have kn : (at_ : Int) + 1 = ((at_ + 1 : Nat) : Int) := by omega
   have G := hide (And.intro r2 g3)
   generalize W1.drewN nq = W2 at *
   generalize hA1 : at_ + 1 = a1 at *
   have HA1 := hide hA1
   clear r1 g1 d0 d1 d2 e1 e2 r2 g2 g3 hA1
   go_wp2_with fail
   go_end0
   exact ⟨rfl, by rw [← HX.out, HA1.out]; exact G.out.1, G.out.2⟩
theorem pv_lt (tb : Nat → Nat) (h : ∀ j, tb j < 256) : ∀ k, pv tb k < 256 ^ k
 | 0 => by show (0 : Nat) < 1; omega
 | k + 1 => by
   have h1 := pv_lt tb h k
   have h2 := h k
   show 256 * pv tb k + tb k < 256 ^ (k + 1)
   rw [Nat.pow_succ]; omega
def Dec (w : World) (g gc : Nat) (t : ByteArray) (s : RC) (x : Nat) : Prop := w.rowIs g 216 5 (decV t (s.n + 4) x s.size gc) ∧ w.rowIs gc 58 1600 (u64V s.ch)
set_option maxRecDepth 100000 in
set_option maxHeartbeats 800000 in
theorem spec_decode0 (t : ByteArray) (w : World) (hts : t.size ≤ 9223372036854775807) :
 Calls Tryz.prog 134 #[.string t] w fun e w' => ∃ g, e = .returned (.pointer (some ⟨g, 0, none⟩)) ∧ w.heap.size < g ∧ Dec w' g w.heap.size t rc0 (pv (tbN t) 4) ∧ Below w.heap.size w w' := by
 go_enter Tryz.func134, Tryz.ntmps134
 go_wp2_with fail
 refine (spec_chances w).mono ?_
 rintro e w1 ⟨rfl, hch, hb1⟩
 go_wp2_with fail
 have hlt := hch.lt
 have R0 := hide (show (w1.alloc (.cells #[.string t, .int .i64 0, .int .u64 0, .int .u64 4294967295, .slice (some ⟨w.heap.size, 0, none⟩) 1600 1600] 216)).rowIs w1.heap.size 216 5 (decV t 0 0 4294967295 w.heap.size) from
  World.rowIs_alloc w1 _ _ _ (fun i hi => match i, hi with
   | 0, _ => rfl
   | 1, _ => rfl
   | 2, _ => rfl
   | 3, _ => rfl
   | 4, _ => rfl))
 have R1 := hide (hch.alloc (.cells #[.string t, .int .i64 0, .int .u64 0, .int .u64 4294967295, .slice (some ⟨w.heap.size, 0, none⟩) 1600 1600] 216))
 have RB := hide (hb1.alloc hb1.size (.cells #[.string t, .int .i64 0, .int .u64 0, .int .u64 4294967295, .slice (some ⟨w.heap.size, 0, none⟩) 1600 1600] 216))
 generalize w1.alloc (.cells #[.string t, .int .i64 0, .int .u64 0, .int .u64 4294967295, .slice (some ⟨w.heap.size, 0, none⟩) 1600 1600] 216) = W1 at *
 generalize w1.heap.size = g at *
 clear hch hb1
 go_loopw [4] (fun i wx => ∃ k : Nat, k ≤ 4 ∧ i = .int .i64 k ∧ Hid (wx.rowIs g 216 5 (decV t k (pv (tbN t) k) 4294967295 w.heap.size)) ∧ Hid (wx.rowIs w.heap.size 58 1600 (u64V fun _ => 1024)) ∧ Hid (Below w.heap.size w wx)) (fun i _ => 4 - (intOf i).toNat)
 case atStart => exact ⟨0, by omega, rfl, R0, R1, RB⟩
 case round =>
  clear R0 R1 RB
  obtain ⟨k, hk, rfl, hr, hc, hb⟩ := hrel
  by_cases hk4 : k < 4
  · have hk4' : (k : Int) < 4 := by omega
    have hp := pv_lt (tbN t) (tbN_lt t) k
    have hp2 : 256 ^ k ≤ 256 ^ 3 := Nat.pow_le_pow_right (by omega) (by omega)
    have hp3 : pv (tbN t) k < 16777216 := Nat.lt_of_lt_of_le hp hp2
    have ht8 := tbN_lt t k
    have SN := hide (spec_next g w.heap.size k (pv (tbN t) k) 4294967295 t wr (by omega) hts (by omega) hr.out)
    rw [Nat.mod_eq_of_lt (by omega)] at SN
    go_wp2_with fail
    refine SN.out.mono ?_
    rintro e w2 ⟨rfl, hr2, hg2⟩
    have hc2 := hide (hc.out.of_block (hg2.block w.heap.size hc.out.lt (by simp; omega)))
    have hb2 := hide (hb.out.trans (grownBy_below hg2 (Nat.le_of_lt hlt) (Nat.le_of_lt hc.out.lt)))
    have hr3 := hide hr2
    clear hr2 hg2 hc hb hr SN
    go_wp2_with fail
    go_roundw
    case rel => exact ⟨k + 1, by omega, by go_num, hr3, hc2, hb2⟩
    case measure => simp [intOf]; omega
  · have hk4' : ¬ (k : Int) < 4 := by omega
    have e4 : k = 4 := by omega
    subst e4
    go_wp2_with fail
    go_ret
    exact ⟨g, rfl, hlt, ⟨hr.out, hc.out⟩, hb.out⟩
structure Two (g gc : Nat) (w w' : World) : Prop where
 os : w'.os = w.os
 tape : w'.tape = w.tape
 output : w'.output = w.output
 size : w.heap.size ≤ w'.heap.size
 block : ∀ k, k < w.heap.size → k ≠ g → k ≠ gc → w'.heap[k]? = w.heap[k]?
theorem Two.refl (g gc : Nat) (w : World) : Two g gc w w := ⟨rfl, rfl, rfl, Nat.le_refl _, fun _ _ _ _ => rfl⟩
theorem Two.grown {g gc : Nat} {w w1 w2 : World} (h : Two g gc w w1) (h2 : w1.grownBy w2 (some g)) : Two g gc w w2 :=
 ⟨h2.os.trans h.os, h2.tape.trans h.tape, h2.output.trans h.output, Nat.le_trans h.size h2.size, fun k hk h1 h3 => (h2.block k (Nat.lt_of_lt_of_le hk h.size) (fun e => h1 (Option.some.inj e))).trans (h.block k hk h1 h3)⟩
theorem Two.setg {g gc : Nat} {w w1 : World} (h : Two g gc w w1) (i : Nat) (v : Value) : Two g gc w (w1.setCell ⟨g, i, none⟩ v) := h.grown (grownBy_set ⟨rfl, rfl, rfl, Nat.le_refl _, fun _ _ _ => rfl⟩ v)
theorem Two.setc {g gc : Nat} {w w1 : World} (h : Two g gc w w1) (i : Nat) (v : Value) : Two g gc w (w1.setCell ⟨gc, i, none⟩ v) :=
 ⟨h.os, h.tape, h.output, by simpa [World.setCell] using h.size, fun k hk h1 h3 => (heap_setCell_other w1 ⟨gc, i, none⟩ k v h3).trans (h.block k hk h1 h3)⟩
theorem Two.below {g gc B : Nat} {w w' : World} (h : Two g gc w w') (h1 : B ≤ g) (h2 : B ≤ gc) (h3 : B ≤ w.heap.size) : Below B w w' := ⟨h.os, h.tape, h.output, h.size, fun k hk => h.block k (by omega) (by omega) (by omega)⟩
theorem Two.own {g gc base e size n : Nat} {w w' : World} {v : Value} {xs : List Value} (h : Two g gc w w') (ho : w.ownsRow base e size v n xs) (h1 : v.ownBlock ≠ some g) (h2 : v.ownBlock ≠ some gc) : w'.ownsRow base e size v n xs := by
 obtain ⟨a, hb | ⟨k, cap, cur, rfl, c1, c2, c3⟩⟩ := ho
 · exact ⟨a, .inl hb⟩
 · exact ⟨a, .inr ⟨k, cap, cur, rfl, c1, (h.block k (Array.getElem?_eq_some_iff.1 c2).1 (fun e => h1 (by simp [Value.ownBlock, e])) (fun e => h2 (by simp [Value.ownBlock, e]))).trans c2, c3⟩⟩
def size3 (w : World) (g : Nat) : Nat := match w.cell? ⟨g, 3, none⟩ with
 | some (.int _ n) => n.toNat
 | _ => 0
theorem size3_of {w : World} {g x : Nat} (h : w.cell? ⟨g, 3, none⟩ = some (.int .u64 (x : Nat))) : size3 w g = x := by unfold size3; rw [h]; rfl
set_option maxRecDepth 100000 in
set_option maxHeartbeats 1600000 in
theorem spec_dbit (g gc c x : Nat) (t : ByteArray) (s : RC) (w : World) (hok : RcOk s) (hn : s.n ≤ 90000) (hc : c < 1600) (hx : x < 18446744073709551616) (hts : t.size ≤ 9223372036854775807) (hdec : Dec w g gc t s x) (hne : g ≠ gc) :
 Calls Tryz.prog 135 #[.pointer (some ⟨g, 0, none⟩), .int .i64 (c : Int)] w fun e w' => e = .returned (.bool (dbit s x c)) ∧ Dec w' g gc t (step s c (dbit s x c)) (dx (tbN t) s x c) ∧ Two g gc w w' := by
 obtain ⟨P, hP⟩ : ∃ P, P = part1 s c (dbit s x c) := ⟨_, rfl⟩
 have hpo := part1_ok s c (dbit s x c) hok
 rw [← hP] at hpo
 have HNOK := hide (norm_ok P hpo.1 hpo.2.1 hpo.2.2.1 (by rw [hpo.2.2.2.2]; exact hpo.2.2.2.1))
 have HPN := hide (show P.n ≤ 100000 by rw [hpo.2.2.2.2]; omega)
 have HSN := hide (show P.n = s.n from hpo.2.2.2.2)
 obtain ⟨x1, hx1⟩ : ∃ y, y = dx1 s x c := ⟨_, rfl⟩
 have HX1E := hide hx1
 have HX1 := hide (show x1 < 18446744073709551616 by rw [hx1, dx1]; split <;> omega)
 obtain ⟨b1, b2⟩ := bound_in s c hok
 have hlo := hok.lo
 have hhi := hok.hi
 have hch := hok.ch c
 obtain ⟨hr, hcr⟩ := hdec
 obtain ⟨z, hz⟩ : ∃ z, z = s.size := ⟨_, rfl⟩
 obtain ⟨p, hp⟩ : ∃ p, p = s.ch c := ⟨_, rfl⟩
 obtain ⟨q, hq⟩ : ∃ q, q = z / 2048 := ⟨_, rfl⟩
 obtain ⟨b, hb⟩ : ∃ b, b = bound s c := ⟨_, rfl⟩
 have hbq : q * p = b := by rw [hq, hp, hz, hb]; rfl
 rw [← hb, ← hz] at b2
 rw [← hb] at b1
 rw [← hz] at hlo hhi hr
 rw [← hp] at hch
 obtain ⟨_, _, c2, c3, c4⟩ := dec_cells hr
 have cc : w.cell? ⟨gc, c, none⟩ = some (.int .u64 (p : Nat)) := by rw [hcr.cell (i := c) hc, u64V, hp]
 have fc := hcr.frozen c
 have f2 := hr.frozen 2
 have f3 := hr.frozen 3
 have hc' : (c : Int) < 1600 := by omega
 have k1 : (z : Int) / 2048 = (q : Int) := by omega
 have k2 : IntKind.u64.wrap ((q : Int) * (p : Int)) = (b : Int) := by
  have e : (q : Int) * (p : Int) = (b : Int) := by rw [← hbq]; simp
  rw [e, IntKind.wrap_u64]; omega
 by_cases hone : b ≤ x
 · have hd : decide ((b : Int) ≤ (x : Int)) = true := decide_eq_true (by omega)
   have hone' : (b : Int) ≤ (x : Int) := by omega
   have HBIT := hide (show dbit s x c = true by rw [dbit, ← hb]; exact decide_eq_true hone)
   obtain ⟨pe, hpe⟩ : ∃ x, x = p / 32 := ⟨_, rfl⟩
   obtain ⟨p2, hp2⟩ : ∃ x, x = p - p / 32 := ⟨_, rfl⟩
   obtain ⟨z1, hz1'⟩ : ∃ x, x = z - b := ⟨_, rfl⟩
   have hxx : x1 = x - b := by rw [hx1, dx1, ← hb, if_pos hone]
   have k3 : (x : Int) - (b : Int) = (x1 : Int) := by omega
   have k4 : (z : Int) - (b : Int) = (z1 : Int) := by omega
   have k5 : (p : Int) / 32 = (pe : Int) := by omega
   have k6 : (p : Int) - (pe : Int) = (p2 : Int) := by omega
   have HPS := hide (show P = part1 s c true by rw [hP, HBIT.out])
   have HPP := hide (show P = ⟨z1, setCh s.ch c p2, s.low + b, s.n⟩ by rw [HPS.out, hp2, hz1', hz, hb, hp]; rfl)
   have HR := hide (And.intro hr hcr)
   clear hP hz hp hq hb hbq hp2 hpe hr hcr hpo hz1' hx1 hxx
   go_enter Tryz.func135, Tryz.ntmps135
   go_wp2_with fail
   obtain ⟨hr, hcr⟩ := HR.out
   have HDEC := hide (show Dec (((w.setCell ⟨g, 2, none⟩ (.int .u64 (x1 : Int))).setCell ⟨g, 3, none⟩ (.int .u64 (z1 : Int))).setCell ⟨gc, c, none⟩ (.int .u64 (p2 : Int))) g gc t P x1 by
    rw [HPP.out]
    exact ⟨((dec_set ((dec_set hr).2.1 x1)).2.2 z1).setOther hne _, set_u64 ((hcr.setOther (fun e => hne e.symm) _).setOther (fun e => hne e.symm) _)⟩)
   have HBEL := hide ((((Two.refl g gc w).setg 2 (.int .u64 (x1 : Int))).setg 3 (.int .u64 (z1 : Int))).setc c (.int .u64 (p2 : Int)))
   generalize ((w.setCell ⟨g, 2, none⟩ (.int .u64 (x1 : Int))).setCell ⟨g, 3, none⟩ (.int .u64 (z1 : Int))).setCell ⟨gc, c, none⟩ (.int .u64 (p2 : Int)) = W1 at *
   clear HR hr hcr c2 c3 c4 cc fc f2 f3 k1 k2 k3 k4 k5 k6 HPP
   go_loopw [72] (fun _ wx => ∃ (u : RC) (y : Nat), Hid ((u = P ∧ y = x1) ∨ (u = norm P ∧ P.size < 16777216 ∧ y = (256 * x1 + tbN t (s.n + 4)) % 18446744073709551616)) ∧ Dec wx g gc t u y ∧ Hid (Two g gc w wx)) (fun _ wx => if size3 wx g < 16777216 then 1 else 0)
   case atStart => exact ⟨P, x1, .inl ⟨rfl, rfl⟩, HDEC.out, HBEL⟩
   case round =>
    clear HDEC HBEL
    obtain ⟨u, y, hu, ⟨hr, hc⟩, hbel⟩ := hrel
    obtain ⟨_, _, _, c3, _⟩ := dec_cells hr
    have hsw := hide (size3_of c3)
    by_cases hsz : u.size < 16777216
    · have huP : u = P ∧ y = x1 := by
       rcases hu.out with h | ⟨h, _⟩
       · exact h
       · rw [h] at hsz; exact absurd hsz (by have := HNOK.out.lo; omega)
      obtain ⟨rfl, rfl⟩ := huP
      obtain ⟨z, hz⟩ : ∃ z, z = u.size := ⟨_, rfl⟩
      rw [← hz] at hr c3 hsw hsz
      have hsz' : (z : Int) < 16777216 := by omega
      obtain ⟨z2, hz2⟩ : ∃ x, x = 256 * z := ⟨_, rfl⟩
      have k1 : (z : Int) * 256 = (z2 : Int) := by omega
      have f3 := hr.frozen 3
      have r1 := (dec_set hr).2.2 z2
      have hcc := hc.setOther (a := ⟨g, 3, none⟩) (fun e => hne e.symm) (.int .u64 (z2 : Int))
      have hbb := hide (hbel.out.setg 3 (.int .u64 (z2 : Int)))
      have SN := hide (spec_next g gc (u.n + 4) y z2 t _ (by have := HPN.out; omega) hts HX1.out r1)
      have HZ := hide (And.intro hz hz2)
      have HCC := hide hcc
      clear hz hz2 r1 hcc hr hc hbel hu
      go_wp2_with fail
      refine SN.out.mono ?_
      rintro e w2 ⟨rfl, hr2, hg2⟩
      have s2 := size3_of (dec_cells hr2).2.2.2.1
      have hrr := hide (show w2.rowIs g 216 5 (decV t ((norm u).n + 4) ((256 * y + tbN t (s.n + 4)) % 18446744073709551616) (norm u).size gc) ∧ w2.rowIs gc 58 1600 (u64V (norm u).ch) by
       have hZ := HZ.out
       rw [norm, if_pos (by rw [← hZ.1]; exact hsz)]
       show w2.rowIs g 216 5 (decV t (u.n + 1 + 4) ((256 * y + tbN t (s.n + 4)) % 18446744073709551616) (256 * u.size) gc) ∧ w2.rowIs gc 58 1600 (u64V u.ch)
       refine ⟨?_, HCC.out.of_block (hg2.block gc HCC.out.lt (fun e => hne (by simpa using e.symm)))⟩
       rw [← hZ.1, ← hZ.2, ← HSN.out, show u.n + 1 + 4 = u.n + 4 + 1 by omega]
       exact hr2)
      have hb2 := hide (hbb.out.grown hg2)
      clear SN hr2 hg2 HCC hbb c3 f3 k1
      go_wp2_with fail
      refine ⟨⟨norm u, _, .inr ⟨rfl, by rw [← HZ.out.1]; exact hsz, rfl⟩, hrr.out, hb2⟩, ?_⟩
      rw [s2, hsw.out, if_pos hsz, if_neg (by have hZ := HZ.out; have h := HNOK.out.lo; rw [norm, if_pos (by rw [← hZ.1]; exact hsz)] at h; have h' : 16777216 ≤ 256 * u.size := h; rw [← hZ.1] at h'; omega)]
      omega
    · have hsz' : ¬ (u.size : Int) < 16777216 := by omega
      have hfin := hide (show Dec wr g gc t (norm P) (if P.size < 16777216 then (256 * x1 + tbN t (s.n + 4)) % 18446744073709551616 else x1) by
       rcases hu.out with ⟨h1, h2⟩ | ⟨h1, h2, h3⟩
       · rw [norm, if_neg (by rw [← h1]; exact hsz), if_neg (by rw [← h1]; exact hsz), ← h1, ← h2]; exact ⟨hr, hc⟩
       · rw [if_pos h2, ← h1, ← h3]; exact ⟨hr, hc⟩)
      obtain ⟨z, hz⟩ : ∃ z, z = u.size := ⟨_, rfl⟩
      rw [← hz] at c3 hsz'
      clear hr hc hu hsz hsw hz
      go_wp2_with fail
      go_ret
      exact ⟨by rw [HBIT.out]; rfl, by rw [HBIT.out]; show Dec wr g gc t (norm (part1 s c _)) (dx (tbN t) s x c); rw [dx, HBIT.out, ← HPS.out, ← HX1E.out]; exact hfin.out, hbel.out⟩
 · have hd : decide ((b : Int) ≤ (x : Int)) = false := decide_eq_false (by omega)
   have hone' : ¬ (b : Int) ≤ (x : Int) := by omega
   have HBIT := hide (show dbit s x c = false by rw [dbit, ← hb]; exact decide_eq_false hone)
   obtain ⟨p2, hp2⟩ : ∃ x, x = p + (2048 - p) / 32 := ⟨_, rfl⟩
   obtain ⟨pd, hpd⟩ : ∃ x, x = 2048 - p := ⟨_, rfl⟩
   obtain ⟨pe, hpe⟩ : ∃ x, x = (2048 - p) / 32 := ⟨_, rfl⟩
   have hxx : x1 = x := by rw [hx1, dx1, ← hb, if_neg hone]
   have HXX := hide hxx
   have k3 : 2048 - (p : Int) = (pd : Int) := by omega
   have k4 : (pd : Int) / 32 = (pe : Int) := by omega
   have k5 : (p : Int) + (pe : Int) = (p2 : Int) := by omega
   have HPS := hide (show P = part1 s c false by rw [hP, HBIT.out])
   have HPP := hide (show P = ⟨b, setCh s.ch c p2, s.low, s.n⟩ by rw [HPS.out, hp2, hb, hp]; rfl)
   have HR := hide (And.intro hr hcr)
   clear hP hz hp hq hb hbq hp2 hpd hpe hr hcr hpo hx1 hxx
   go_enter Tryz.func135, Tryz.ntmps135
   go_wp2_with fail
   obtain ⟨hr, hcr⟩ := HR.out
   have HDEC := hide (show Dec ((w.setCell ⟨g, 3, none⟩ (.int .u64 (b : Int))).setCell ⟨gc, c, none⟩ (.int .u64 (p2 : Int))) g gc t P x1 by
    rw [HPP.out, HXX.out]
    exact ⟨((dec_set hr).2.2 b).setOther hne _, set_u64 (hcr.setOther (fun e => hne e.symm) _)⟩)
   have HBEL := hide (((Two.refl g gc w).setg 3 (.int .u64 (b : Int))).setc c (.int .u64 (p2 : Int)))
   generalize (w.setCell ⟨g, 3, none⟩ (.int .u64 (b : Int))).setCell ⟨gc, c, none⟩ (.int .u64 (p2 : Int)) = W1 at *
   clear HR hr hcr c2 c3 c4 cc fc f2 f3 k1 k2 k3 k4 k5 HPP HXX
   go_loopw [72] (fun _ wx => ∃ (u : RC) (y : Nat), Hid ((u = P ∧ y = x1) ∨ (u = norm P ∧ P.size < 16777216 ∧ y = (256 * x1 + tbN t (s.n + 4)) % 18446744073709551616)) ∧ Dec wx g gc t u y ∧ Hid (Two g gc w wx)) (fun _ wx => if size3 wx g < 16777216 then 1 else 0)
   case atStart => exact ⟨P, x1, .inl ⟨rfl, rfl⟩, HDEC.out, HBEL⟩
   case round =>
    clear HDEC HBEL
    obtain ⟨u, y, hu, ⟨hr, hc⟩, hbel⟩ := hrel
    obtain ⟨_, _, _, c3, _⟩ := dec_cells hr
    have hsw := hide (size3_of c3)
    by_cases hsz : u.size < 16777216
    · have huP : u = P ∧ y = x1 := by
       rcases hu.out with h | ⟨h, _⟩
       · exact h
       · rw [h] at hsz; exact absurd hsz (by have := HNOK.out.lo; omega)
      obtain ⟨rfl, rfl⟩ := huP
      obtain ⟨z, hz⟩ : ∃ z, z = u.size := ⟨_, rfl⟩
      rw [← hz] at hr c3 hsw hsz
      have hsz' : (z : Int) < 16777216 := by omega
      obtain ⟨z2, hz2⟩ : ∃ x, x = 256 * z := ⟨_, rfl⟩
      have k1 : (z : Int) * 256 = (z2 : Int) := by omega
      have f3 := hr.frozen 3
      have r1 := (dec_set hr).2.2 z2
      have hcc := hc.setOther (a := ⟨g, 3, none⟩) (fun e => hne e.symm) (.int .u64 (z2 : Int))
      have hbb := hide (hbel.out.setg 3 (.int .u64 (z2 : Int)))
      have SN := hide (spec_next g gc (u.n + 4) y z2 t _ (by have := HPN.out; omega) hts HX1.out r1)
      have HZ := hide (And.intro hz hz2)
      have HCC := hide hcc
      clear hz hz2 r1 hcc hr hc hbel hu
      go_wp2_with fail
      refine SN.out.mono ?_
      rintro e w2 ⟨rfl, hr2, hg2⟩
      have s2 := size3_of (dec_cells hr2).2.2.2.1
      have hrr := hide (show w2.rowIs g 216 5 (decV t ((norm u).n + 4) ((256 * y + tbN t (s.n + 4)) % 18446744073709551616) (norm u).size gc) ∧ w2.rowIs gc 58 1600 (u64V (norm u).ch) by
       have hZ := HZ.out
       rw [norm, if_pos (by rw [← hZ.1]; exact hsz)]
       show w2.rowIs g 216 5 (decV t (u.n + 1 + 4) ((256 * y + tbN t (s.n + 4)) % 18446744073709551616) (256 * u.size) gc) ∧ w2.rowIs gc 58 1600 (u64V u.ch)
       refine ⟨?_, HCC.out.of_block (hg2.block gc HCC.out.lt (fun e => hne (by simpa using e.symm)))⟩
       rw [← hZ.1, ← hZ.2, ← HSN.out, show u.n + 1 + 4 = u.n + 4 + 1 by omega]
       exact hr2)
      have hb2 := hide (hbb.out.grown hg2)
      clear SN hr2 hg2 HCC hbb c3 f3 k1
      go_wp2_with fail
      refine ⟨⟨norm u, _, .inr ⟨rfl, by rw [← HZ.out.1]; exact hsz, rfl⟩, hrr.out, hb2⟩, ?_⟩
      rw [s2, hsw.out, if_pos hsz, if_neg (by have hZ := HZ.out; have h := HNOK.out.lo; rw [norm, if_pos (by rw [← hZ.1]; exact hsz)] at h; have h' : 16777216 ≤ 256 * u.size := h; rw [← hZ.1] at h'; omega)]
      omega
    · have hsz' : ¬ (u.size : Int) < 16777216 := by omega
      have hfin := hide (show Dec wr g gc t (norm P) (if P.size < 16777216 then (256 * x1 + tbN t (s.n + 4)) % 18446744073709551616 else x1) by
       rcases hu.out with ⟨h1, h2⟩ | ⟨h1, h2, h3⟩
       · rw [norm, if_neg (by rw [← h1]; exact hsz), if_neg (by rw [← h1]; exact hsz), ← h1, ← h2]; exact ⟨hr, hc⟩
       · rw [if_pos h2, ← h1, ← h3]; exact ⟨hr, hc⟩)
      obtain ⟨z, hz⟩ : ∃ z, z = u.size := ⟨_, rfl⟩
      rw [← hz] at c3 hsz'
      clear hr hc hu hsz hsw hz
      go_wp2_with fail
      go_ret
      exact ⟨by rw [HBIT.out]; rfl, by rw [HBIT.out]; show Dec wr g gc t (norm (part1 s c _)) (dx (tbN t) s x c); rw [dx, HBIT.out, ← HPS.out, ← HX1E.out]; exact hfin.out, hbel.out⟩
end Go.Proofs.YtconcnndghmdfaaGreatDoor

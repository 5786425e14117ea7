/- Put together: RangeEnc, PackP, DifS. -/
import Derived.Test.YtconcnndghmdfaaGreatDoorSf13
import Derived.Test.YtconcnndghmdfaaGreatDoorSf10
namespace Go.Proofs.YtconcnndghmdfaaGreatDoor
open Go.RowKit
set_option maxRecDepth 100000 in
set_option maxHeartbeats 1600000 in
theorem spec_encode (v : Value) (L : List (Nat × Bool)) (w : World) (hL : L.length ≤ 80000) (hc : ∀ x ∈ L, x.1 < 1600) (hb : BitsAt w w.heap.size v L) :
 Calls Tryz.prog 93 #[v] w fun e w' => e = .returned (.string ⟨(codeOf L).toArray⟩) ∧ Below w.heap.size w w' := by
 obtain ⟨a, cap, rfl, hcap, hbits⟩ := hb
 have HB := hide hbits
 have HC := hide hc
 clear hbits hc
 go_enter Tryz.func93, Tryz.ntmps93
 go_wp2_with fail
 refine (spec_chances w).mono ?_
 rintro e w1 ⟨rfl, hch, hb1⟩
 go_wp2_with fail
 have hb1s := hb1.size
 have hchl := hch.lt
 have HCOD := hide (show Cod (w1.alloc (.cells #[.slice none 0 0, .int .u64 0, .int .u64 4294967295, .slice (some ⟨w.heap.size, 0, none⟩) 1600 1600] 171)) w.heap.size w1.heap.size w.heap.size rc0 from
  ⟨.slice none 0 0, World.rowIs_alloc w1 _ _ _ (fun i hi => match i, hi with
   | 0, _ => rfl
   | 1, _ => rfl
   | 2, _ => rfl
   | 3, _ => rfl), ⟨rfl, .inl ⟨rfl, rfl⟩⟩, hch.alloc _, by simp [Value.ownBlock], by simp [Value.ownBlock]⟩)
 have HBEL := hide (hb1.alloc hb1.size (.cells #[.slice none 0 0, .int .u64 0, .int .u64 4294967295, .slice (some ⟨w.heap.size, 0, none⟩) 1600 1600] 171))
 generalize w1.alloc (.cells #[.slice none 0 0, .int .u64 0, .int .u64 4294967295, .slice (some ⟨w.heap.size, 0, none⟩) 1600 1600] 171) = W1 at *
 generalize w1.heap.size = g at *
 clear hch hb1
 go_loopw [4] (fun i wx => ∃ k : Nat, k ≤ L.length ∧ i = .int .i64 k ∧ Hid (Cod wx w.heap.size g w.heap.size (run rc0 (L.take k))) ∧ Hid (Below w.heap.size w wx)) (fun i _ => L.length - (intOf i).toNat)
 case atStart => exact ⟨0, by omega, rfl, HCOD, HBEL⟩
 case round =>
  clear HCOD HBEL
  obtain ⟨k, hk, rfl, hcod, hbel⟩ := hrel
  by_cases hlt : k < L.length
  · have hlt' : (k : Int) < (L.length : Int) := by omega
    obtain ⟨x, hx⟩ : ∃ x, L[k]? = some x := ⟨_, List.getElem?_eq_getElem hlt⟩
    obtain h0 | ⟨r, o, rfl, hr, hcells⟩ := HB.out
    · rw [h0] at hlt; simp at hlt
    obtain ⟨x1, x2⟩ := hcells k x hx
    obtain ⟨q, hq⟩ : ∃ q, q = o + 2 * k := ⟨_, rfl⟩
    rw [← hq] at x1 x2
    have y1 := (hbel.out.cell (p := ⟨r, q, none⟩) hr).trans x1
    have y2 := (hbel.out.cell (p := ⟨r, q + 1, none⟩) hr).trans x2
    have n1 : o + 2 * k = q := hq.symm
    have n2 : o + k * 2 = q := by omega
    have hxc := HC.out x (List.mem_of_getElem? hx)
    have hs := hide (take_step L k x hx)
    have hok := hide (run_ok (L.take k) rc0 rc0_ok)
    have hnn := hide (show (run rc0 (L.take k)).n ≤ 90000 by have := run_n_le (L.take k) rc0; have h2 : (L.take k).length ≤ k := List.length_take_le _ _; have h3 : rc0.n = 0 := rfl; omega)
    generalize run rc0 (L.take k) = s at *
    obtain ⟨c, one⟩ := x
    simp only at y1 y2 hxc
    clear hq x1 x2 hcells HB hx
    go_wp2_with fail
    go_region_held3 (fun w' => w'.cell? ⟨r, q, none⟩ = some (.int .i64 (c : Int)) ∧ w'.cell? ⟨r, q + 1, none⟩ = some (.bool one)) (first | exact ⟨(hb9.cell (p := ⟨r, q, none⟩) hr).trans y1, (hb9.cell (p := ⟨r, q + 1, none⟩) hr).trans y2⟩ | go_keep)
     (first | (go_at_call 125; refine (spec_bit w.heap.size g w.heap.size c one s wr.drew hok.out hnn.out hxc ?_ ?_ ?_ ?_).mono ?_; exact hcod.out; exact hb1s; exact Nat.le_refl _; exact Nat.ne_of_gt hchl; rintro e w9 ⟨rfl, hc9, hb9⟩))
    have hc9' := hide (show Cod w9 w.heap.size g w.heap.size (run rc0 (L.take (k + 1))) by rw [hs.out]; exact hc9)
    have hb9' := hide (hbel.out.trans (show Below w.heap.size wr w9 from ⟨hb9.os, hb9.tape, hb9.output, hb9.size, hb9.block⟩))
    clear hc9 hb9 y1 y2 n1 n2 hs hok hnn hcod hbel
    go_wp2_with fail
    go_roundw
    case rel => exact ⟨k + 1, by omega, by go_num, hc9', hb9'⟩
    case measure => simp [intOf]; omega
  · have hlt' : ¬ (k : Int) < (L.length : Int) := by omega
    have hcod2 := hcod.out
    rw [List.take_of_length_le (by omega)] at hcod2
    have hnn := hide (show (run rc0 L).n ≤ 90000 by have := run_n_le L rc0; have h3 : rc0.n = 0 := rfl; omega)
    have HCODE := hide (show codeOf L = bytesOf ((run rc0 L).n + 4) (run rc0 L).low from rfl)
    generalize run rc0 L = s at *
    obtain ⟨ov, hr, ho, hc, hd1, hd2⟩ := hcod2
    obtain ⟨l, hl⟩ : ∃ l, l = s.low % 4294967296 := ⟨_, rfl⟩
    obtain ⟨n, hn⟩ : ∃ n, n = s.n := ⟨_, rfl⟩
    rw [← hl] at hr
    rw [← hn] at ho HCODE hnn
    obtain ⟨y3, e3⟩ : ∃ x, x = l / 16777216 := ⟨_, rfl⟩
    obtain ⟨y2, e2⟩ : ∃ x, x = l / 65536 := ⟨_, rfl⟩
    obtain ⟨y1, e1⟩ : ∃ x, x = l / 256 := ⟨_, rfl⟩
    obtain ⟨x2, d2⟩ : ∃ x, x = y2 % 256 := ⟨_, rfl⟩
    obtain ⟨x1, d1⟩ : ∃ x, x = y1 % 256 := ⟨_, rfl⟩
    obtain ⟨x0, d0⟩ : ∃ x, x = l % 256 := ⟨_, rfl⟩
    have hl32 : l < 4294967296 := by omega
    have m3 : (l : Int) / 16777216 = (y3 : Int) := by omega
    have m2 : (l : Int) / 65536 = (y2 : Int) := by omega
    have m1 : (l : Int) / 256 = (y1 : Int) := by omega
    have w3 : IntKind.u8.wrap (y3 : Int) = (y3 : Int) := by rw [IntKind.wrap_u8]; omega
    have w2 : IntKind.u8.wrap (y2 : Int) = (x2 : Int) := by rw [IntKind.wrap_u8]; omega
    have w1 : IntKind.u8.wrap (y1 : Int) = (x1 : Int) := by rw [IntKind.wrap_u8]; omega
    have w0 : IntKind.u8.wrap (l : Int) = (x0 : Int) := by rw [IntKind.wrap_u8]; omega
    have hlow := HCODE.out
    rw [code4 n s.low (UInt8.ofNat y3) (UInt8.ofNat x2) (UInt8.ofNat x1) (UInt8.ofNat x0) (by rw [← hl, UInt8.toNat_ofNat']; omega) (by rw [← hl, UInt8.toNat_ofNat']; omega) (by rw [← hl, UInt8.toNat_ofNat']; omega) (by rw [← hl, UInt8.toNat_ofNat']; omega)] at hlow
    have HLOW := hide hlow
    have HV3 := hide (show byteV (UInt8.ofNat y3) = .int .u8 (y3 : Int) ∧ byteV (UInt8.ofNat x2) = .int .u8 (x2 : Int) ∧ byteV (UInt8.ofNat x1) = .int .u8 (x1 : Int) ∧ byteV (UInt8.ofNat x0) = .int .u8 (x0 : Int) from ⟨by rw [byteV, ofNat_byte _ (by omega)], by rw [byteV, ofNat_byte _ (by omega)], by rw [byteV, ofNat_byte _ (by omega)], by rw [byteV, ofNat_byte _ (by omega)]⟩)
    have c0 := cod_out hr
    have c1 := cod_low hr
    obtain ⟨i0, hi0, hz0, hz1, hz2⟩ := info_parts Tryz.infoB8r
    have ra := hr.drew.alloc (.cells #[.int .u8 (y3 : Int), .int .u8 (x2 : Int), .int .u8 (x1 : Int), .int .u8 (x0 : Int)] 5)
    have oa := hide (World.ownsRow.alloc (World.ownsRow.drew ho) (.cells #[.int .u8 (y3 : Int), .int .u8 (x2 : Int), .int .u8 (x1 : Int), .int .u8 (x0 : Int)] 5))
    have hbs := hbel.out.size
    have ba := hide (hbel.out.drew.alloc (show w.heap.size ≤ wr.drew.heap.size from hbs) (.cells #[.int .u8 (y3 : Int), .int .u8 (x2 : Int), .int .u8 (x1 : Int), .int .u8 (x0 : Int)] 5))
    have hnew := hide (World.news_of_block (heap_alloc_new wr.drew (.cells #[.int .u8 (y3 : Int), .int .u8 (x2 : Int), .int .u8 (x1 : Int), .int .u8 (x0 : Int)] 5)))
    have RA := hide ra
    have hglt := hr.lt
    clear hcod hl hn e3 e2 e1 d2 d1 d0 hlow hr ho hc ra
    go_wp2_with fail
    go_region_held_law (fun w' => w'.cell? ⟨g, 0, none⟩ = some ov ∧ w'.cell? ⟨g, 1, none⟩ = some (.int .u64 (l : Nat))) (first | exact ⟨c0, c1⟩ | exact ⟨cod_out r2, cod_low r2⟩ | exact ⟨cod_out RA.out, cod_low RA.out⟩)
     ((refine step_append_D _ (some 54) rfl rfl (.tmp 29) (.tmp 53) 22 rfl w.heap.size 5 i0 (.int .u8 0) 1 1 Tryz.underlying22 hi0 hz0 hz1 hz2 rfl (by omega) ov n _ rfl oa.out ⟨wr.heap.size, 0, none⟩ 4 4 [.int .u8 (y3 : Int), .int .u8 (x2 : Int), .int .u8 (x1 : Int), .int .u8 (x0 : Int)] rfl rfl hnew.out (by intro u hu; simp at hu; rcases hu with rfl | rfl | rfl | rfl <;> rfl) (by omega) (by have := hnn.out; unfold maxLen; omega) (by have := hnn.out; omega) (by simp; omega) (wr.heap.size + 1) (by simp) ?_; intro g' cap' w2 hown' hgr' hat' hlt'; have r2 := RA.out.of_block (hgr'.block g (by simp; omega) (fun e => hd1 e.symm)); have hcv := conv_own (P := Tryz.prog) (l := (List.range n).map (byN n (s.low / 4294967296)) ++ [UInt8.ofNat y3, UInt8.ofNat x2, UInt8.ofNat x1, UInt8.ofNat x0]) (by rw [List.map_append, List.map_map]; simp only [List.map_cons, List.map_nil, HV3.out.1, HV3.out.2.1, HV3.out.2.2.1, HV3.out.2.2.2]; exact hown') (by simp) Tryz.underlying22 Tryz.underlying5 Tryz.underlying9))
    have hbf := hide (ba.out.grown hgr' (by simp; omega) (fun x hx => (World.ownsRow.lt oa.out x hx).1))
    obtain ⟨X, hX⟩ : ∃ x : ByteArray, x = ⟨((List.range n).map (byN n (s.low / 4294967296)) ++ [UInt8.ofNat y3, UInt8.ofNat x2, UInt8.ofNat x1, UInt8.ofNat x0]).toArray⟩ := ⟨_, rfl⟩
    rw [← hX]
    have HX := hide (show (⟨(codeOf L).toArray⟩ : ByteArray) = X by rw [hX, HLOW.out])
    clear hX hcv hown' hgr' hat' hlt' oa ba hnew RA r2 c0 c1
    go_wp2_with fail
    go_ret
    exact ⟨by rw [HX.out]; rfl, hbf.out⟩
def packB (t : ByteArray) : ByteArray := ⟨(encNum (foldNum t.size)).toArray⟩ ++ ⟨(codeOf (toksBits (parseL (bF t) t.size))).toArray⟩
def packS (t : ByteArray) : ByteArray := if t.size ≤ 4000 then packB t else ⟨#[]⟩
theorem run_rest {P : Program} (w : World) (t : TypeId) (s : ByteArray) (A : Nat) (h : P.underlying t = some .string) (hS : A ≤ s.size) :
 (Instr.slice t (.string s) (some (.int .i64 (A : Int))) none none).run P w = .ok (.string (s.extract A s.size)) w := by
 rw [run_slice_string_from_if w t s .i64 _ h, if_pos (by omega), Int.toNat_natCast]
theorem bitsN_toI (l : List (Nat × Bool)) : bitsN (l.map toI) = l := by
 unfold bitsN
 rw [List.map_map]
 conv => rhs; rw [← List.map_id l]
 apply List.map_congr_left
 intro x _
 show ((x.1 : Int).toNat, x.2) = x
 rw [Int.toNat_natCast]
theorem encNum_le : ∀ k u, u < 128 ^ (k + 1) → (encNum u).length ≤ k + 1
 | 0, u, h => by
   rw [encNum, dif_pos (by simpa using h)]; exact Nat.le_refl _
 | k + 1, u, h => by
   rw [encNum]
   split
   · exact Nat.le_add_left _ _
   · rw [List.length_cons]
     have := encNum_le k (u / 128) (by rw [Nat.pow_succ] at h; omega)
     omega
theorem codeOf_len (l : List (Nat × Bool)) : (codeOf l).length ≤ l.length + 4 := by
 rw [codeOf, bytesOf_len]
 have h := run_n_le l rc0
 have h2 : rc0.n = 0 := rfl
 omega
theorem parseL_len (T : Nat → UInt8) (N : Nat) : (parseL T N).length ≤ N := by
 have := parseG_len T N N 0
 show (parseG T N N 0).length ≤ N
 omega
set_option maxRecDepth 100000 in
set_option maxHeartbeats 800000 in
theorem spec_pack0 (t : ByteArray) (w : World) (h : t.size ≤ 4000) :
 Calls Tryz.prog 59 #[.string t] w fun e w' => e = .returned (.string (packB t)) ∧ Below w.heap.size w w' := by
 have S1 := hide (fun w => spec_putNum (t.size : Int) w (by omega) (by omega))
 have S2 := hide (fun w => spec_parse0 t w h)
 have h3 := parseL_len (bF t) t.size
 have HOK := hide (show ∀ x ∈ parseL (bF t) t.size, tokOk x = true from parseG_ok _ _ _ _)
 have h4 := encNum_le 1 (foldNum t.size) (by unfold foldNum; rw [if_neg (by omega)]; show (2 * (t.size : Int)).toNat < 16384; omega)
 have h1 := codeOf_len (toksBits (parseL (bF t) t.size))
 have h2 := toksBits_len (parseL (bF t) t.size)
 have HC := hide (toksBits_ctx (parseL (bF t) t.size))
 obtain ⟨X, hX⟩ : ∃ X : ByteArray, X = ⟨(encNum (foldNum t.size)).toArray⟩ := ⟨_, rfl⟩
 obtain ⟨Y, hY⟩ : ∃ Y : ByteArray, Y = ⟨(codeOf (toksBits (parseL (bF t) t.size))).toArray⟩ := ⟨_, rfl⟩
 have hXs : X.size ≤ 2 := by rw [hX, size_mk]; exact h4
 have hYs : Y.size ≤ 68020 := by rw [hY, size_mk]; omega
 have HE := hide (show packB t = X ++ Y by rw [hX, hY]; rfl)
 rw [← hX] at S1
 have HY := hide hY
 clear hX hY h1 h4
 generalize parseL (bF t) t.size = l at *
 go_enter Tryz.func59, Tryz.ntmps59
 go_wp2_with fail
 refine (S1.out _).mono ?_
 rintro e w1 ⟨rfl, hb1⟩
 have B1 := hide hb1
 clear hb1 S1
 go_wp2_with fail
 refine (S2.out _).mono ?_
 rintro e w2 ⟨v2, rfl, own2, hb2⟩
 have B2 := hide (B1.out.trans (hb2.mono B1.out.size))
 have T2 := hide (own_toks own2)
 clear hb2 S2 B1 own2
 go_wp2_with fail
 refine (spec_tokBits v2 l w2 (by omega) HOK.out T2.out).mono ?_
 rintro e w3 ⟨v3, rfl, own3, hb3⟩
 have B3 := hide (B2.out.trans (hb3.mono B2.out.size))
 have T3 := (own_bits own3).nat (fun x hx => by
  obtain ⟨y, hy, rfl⟩ := List.mem_map.1 hx
  have := HC.out y hy
  exact decide_eq_true ⟨by show (0 : Int) ≤ (y.1 : Int); omega, by show (y.1 : Int) < 1600; omega⟩)
 rw [bitsN_toI] at T3
 have SE := hide (spec_encode v3 (toksBits l) w3 (by omega) HC.out T3)
 rw [← HY.out] at SE
 clear hb3 B2 own3 T3 T2
 go_wp2_with fail
 refine SE.out.mono ?_
 rintro e w4 ⟨rfl, hb4⟩
 have B4 := hide (B3.out.trans (hb4.mono B3.out.size))
 clear hb4 B3 SE
 go_wp2_with fail
 go_ret
 exact ⟨by rw [HE.out]; rfl, B4.out⟩
theorem Tryz.infoD8 : (Tryz.prog.info? 5).map (fun i => (i.zero, i.size, i.bytes)) = some (some (.int .u8 0), 1, 1) := by kernel_rfl
def difF (T : Nat → UInt8) (far j : Nat) : UInt8 := if far ≤ j then T j - T (j - far) else T j
def sumF (T : Nat → UInt8) (far : Nat) (j : Nat) : UInt8 := if _h : far ≤ j ∧ 0 < far then T j + sumF T far (j - far) else T j
theorem sub8 (a b : UInt8) : IntKind.u8.wrap ((a.toNat : Int) - (b.toNat : Int)) = (((a - b).toNat : Nat) : Int) := by
 rw [IntKind.wrap_u8, UInt8.toNat_sub]; have := a.toNat_lt; have := b.toNat_lt; omega
theorem add8 (a b : UInt8) : IntKind.u8.wrap ((a.toNat : Int) + (b.toNat : Int)) = (((a + b).toNat : Nat) : Int) := by
 rw [IntKind.wrap_u8, UInt8.toNat_add]; omega
theorem bF_get (b : ByteArray) (j : Nat) (h : j < b.size) : b[j] = bF b j := by
 have e := bF_at b b.size rfl j h
 have h' : j < b.data.toList.length := h
 rw [List.getElem?_eq_getElem h'] at e
 exact Option.some.inj e
set_option maxRecDepth 100000 in
set_option maxHeartbeats 800000 in
theorem spec_differA (text : ByteArray) (far : Nat) (w : World) (ht : text.size ≤ 20000) (hf1 : 1 ≤ far) (hf2 : far ≤ 256) :
 Calls Tryz.prog 57 #[.string text, .int .i64 far] w fun e w' => e = .returned (.string ⟨((List.range text.size).map (difF (bF text) far)).toArray⟩) ∧ Below w.heap.size w w' := by
 have hmk : ∀ w : World, (Instr.makeSlice 22 (.int .i64 text.size) (.int .i64 text.size)).run Tryz.prog w = .ok (.slice (some ⟨w.heap.size, 0, none⟩) text.size text.size) (w.alloc (.cells (madeCells #[.int .u8 0] text.size) 5)) := run_make_row' (P := Tryz.prog) 22 5 (.int .u8 0) 1 (by kernel_rfl) Tryz.infoD8 rfl .i64 .i64 text.size (by omega) (by omega)
 go_enter Tryz.func57, Tryz.ntmps57
 go_wp2_with fail
 clear hmk
 go_loopw [6] (fun i wx => ∃ (k : Nat) (h : Nat → UInt8), k ≤ text.size ∧ i = .int .i64 k ∧ Hid (∀ j, j < k → h j = difF (bF text) far j) ∧ wx.rowIs w.heap.size 5 text.size (u8V h) ∧ Below w.heap.size w wx) (fun i _ => text.size - (intOf i).toNat)
 case atStart => exact ⟨0, fun _ => 0, Nat.zero_le _, rfl, fun j hj => by omega, World.rowIs_made _ _ _ _, (Below.refl _ _).alloc (Nat.le_refl _) _⟩
 case round =>
  obtain ⟨k, h, hk, rfl, hh, hr, hbl⟩ := hrel
  by_cases hlt : k < text.size
  · have hlt' : (k : Int) < (text.size : Int) := by omega
    have ck := hr.cell (i := k) hlt
    have fk := hr.frozen k
    have c1 : ∀ v, (wr.setCell ⟨w.heap.size, k, none⟩ v).cell? ⟨w.heap.size, k, none⟩ = some v := fun v => World.cell?_setCell_same _ _ _ ck
    have hT := hide (bF_get text k hlt)
    have b1 : (text[k].toNat : Int) ≤ 255 := by have := text[k].toNat_lt; omega
    by_cases hge : far ≤ k
    · have hge' : (far : Int) ≤ (k : Int) := by omega
      obtain ⟨d, ed⟩ : ∃ d, d = k - far := ⟨_, rfl⟩
      have wd : IntKind.i64.wrap ((k : Int) - (far : Int)) = (d : Int) := by simp only [IntKind.wrap_i64]; omega
      have hd : d < text.size := by omega
      have hd' : (d : Int) < (text.size : Int) := by omega
      have hs8 := sub8 text[k] text[d]
      have HV := hide (show text[k] - text[d] = difF (bF text) far k by rw [difF, if_pos hge, hT.out, bF_get text d hd, ed])
      obtain ⟨Y, hY⟩ : ∃ Y, Y = text[k] - text[d] := ⟨_, rfl⟩
      rw [← hY] at hs8 HV
      clear ed hY
      go_wp2_with fail
      go_region
      clear wd
      go_wp2_with fail
      go_roundw
      case rel =>
       refine ⟨k + 1, fun j => if j = k then Y else (if j = k then text[k] else h j), by omega, by go_num, fun j hj => ?_, (set_byte (set_byte hr rfl) rfl).drew, ((hbl.setCell (Nat.le_refl _) _).setCell (Nat.le_refl _) _).drew⟩
       show (if j = k then Y else (if j = k then text[k] else h j)) = _
       by_cases e : j = k
       · rw [if_pos e, e, HV.out]
       · rw [if_neg e, if_neg e]; exact hh.out j (by omega)
      case measure => simp [intOf]; omega
    · have hge' : ¬ (far : Int) ≤ (k : Int) := by omega
      have HV := hide (show text[k] = difF (bF text) far k by rw [difF, if_neg hge, hT.out])
      go_wp2_with fail
      refine ⟨⟨k + 1, fun j => if j = k then text[k] else h j, by omega, by go_num, fun j hj => ?_, set_byte hr rfl, hbl.setCell (Nat.le_refl _) _⟩, by simp [intOf]; omega⟩
      show (if j = k then text[k] else h j) = _
      by_cases e : j = k
      · rw [if_pos e, HV.out, e]
      · rw [if_neg e]; exact hh.out j (by omega)
  · have hlt' : ¬ (k : Int) < (text.size : Int) := by omega
    have hcv := conv_row (P := Tryz.prog) (cap := text.size) hr (l := (List.range text.size).map (difF (bF text) far)) (fun j hj => by rw [List.getElem?_map, List.getElem?_range hj, hh.out j (by omega)]; rfl) (by simp) Tryz.underlying22 Tryz.underlying5 Tryz.underlying9
    go_wp2_with fail
    go_ret
    exact ⟨rfl, hbl⟩
abbrev farOk (text : ByteArray) (far : Int) : Prop := text.size ≤ 20000 ∧ 1 ≤ far ∧ far ≤ 256
def differS (text : ByteArray) (far : Int) : ByteArray := if farOk text far then ⟨((List.range text.size).map (difF (bF text) far.toNat)).toArray⟩ else ⟨#[]⟩
def sumS (text : ByteArray) (far : Int) : ByteArray := if farOk text far then ⟨((List.range text.size).map (sumF (bF text) far.toNat)).toArray⟩ else ⟨#[]⟩
end Go.Proofs.YtconcnndghmdfaaGreatDoor

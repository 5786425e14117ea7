/- Put together: AesE, Src. -/
import Derived.Test.YtconcnndghmdfaaGreatDoorSf5
import Derived.Deep.DeepCutAuto
namespace Go.Proofs.YtconcnndghmdfaaGreatDoor
open Go.RowKit
attribute [local irreducible] times sbox
def subB (f : Nat → UInt8) (c r : Nat) : UInt8 := sbox (f (4 * ((c + r) % 4) + r)).toNat
def subF (f : Nat → UInt8) (j : Nat) : UInt8 := subB f (j / 4) (j % 4)
def midF (n : Nat) (f : Nat → UInt8) : Nat → UInt8 := if n < 10 then mixF (subF f) else subF f
def encF (K B : Nat → UInt8) : Nat → Nat → UInt8
 | 0 => fun j => B j ^^^ K j
 | n + 1 => fun j => midF (n + 1) (encF K B n) j ^^^ K (16 * (n + 1) + j)
def encL (K B : Nat → UInt8) : List UInt8 := (List.range 16).map (encF K B 10)
theorem subF_congr {f g : Nat → UInt8} (h : ∀ j, j < 16 → f j = g j) (j : Nat) (_hj : j < 16) : subF f j = subF g j := by
 unfold subF subB; rw [h _ (by omega)]
theorem midF_congr (n : Nat) {f g : Nat → UInt8} (h : ∀ j, j < 16 → f j = g j) (j : Nat) (hj : j < 16) : midF n f j = midF n g j := by
 unfold midF
 split
 · unfold mixF mixB
   rw [subF_congr h _ (by omega), subF_congr h _ (by omega), subF_congr h _ (by omega), subF_congr h _ (by omega)]
 · exact subF_congr h j hj
set_option maxRecDepth 100000 in
set_option maxHeartbeats 1600000 in
theorem spec_enc (gw cw gb : Nat) (K : Nat → UInt8) (blk : ByteArray) (w : World) (hblk : blk.size = 16) (hgw : gw < w.heap.size) (hgb : gb < w.heap.size) (hK : ∀ j, j < 176 → w.cell? ⟨gw, j, none⟩ = some (.int .u8 ((K j).toNat : Int))) (hbox : w.rowIs gb 5 256 (u8V sbox)) :
 Calls Tryz.prog 92 #[.slice (some ⟨gw, 0, none⟩) 176 cw, .slice (some ⟨gb, 0, none⟩) 256 256, .string blk] w fun e w' => e = .returned (.string ⟨(encL K (bF blk)).toArray⟩) ∧ Below w.heap.size w w' := by
 have HK := hide hK
 have HB := hide hbox
 clear hK hbox
 have hcv := fun (w : World) => run_bytes_of_string (P := Tryz.prog) w 9 22 5 blk Tryz.underlying9 Tryz.underlying22 Tryz.underlying5
 have hcap := grownCap_ge w blk.size 0 5
 have hrow0 := hasRow.of_text w.drew w.heap.size 5 (grownCap w blk.size 0 5) blk hcap (Nat.le_refl _)
 have hbl0 := hide ((Below.refl w.heap.size w).drew.alloc (Nat.le_refl _) (.cells (bytesRow blk (grownCap w blk.size 0 5)) 5 ((bytesRow blk (grownCap w blk.size 0 5)).size, (bytesRow blk (grownCap w blk.size 0 5)).size + 1)))
 have hat := bF_at blk 16 hblk
 obtain ⟨B, hBB⟩ : ∃ B, B = bF blk := ⟨_, rfl⟩
 rw [← hBB] at hat ⊢
 clear hBB
 rw [hblk] at hcv hcap hrow0 hbl0
 have HR0 := hide (rowC.of_text hrow0 hat)
 clear hrow0 hat
 have hmk : ∀ w : World, (Instr.makeSlice 22 (.int .i64 16) (.int .i64 16)).run Tryz.prog w = .ok (.slice (some ⟨w.heap.size, 0, none⟩) 16 16) (w.alloc (.cells (madeCells #[.int .u8 0] 16) 5)) := run_make_row' (P := Tryz.prog) 22 5 (.int .u8 0) 1 (by kernel_rfl) Tryz.infoB8 rfl .i64 .i64 16 (by omega) (by omega)
 go_enter Tryz.func92, Tryz.ntmps92
 go_wp2_with fail
 clear hcv hcap
 go_loopw [8] (fun i wx => ∃ (k : Nat) (f : Nat → UInt8), k ≤ 16 ∧ i = .int .i64 k ∧ Hid (∀ j, j < 16 → f j = if j < k then encF K B 0 j else B j) ∧ rowC wx w.heap.size 16 f ∧ Below w.heap.size w wx) (fun i _ => 16 - (intOf i).toNat)
 case atStart => exact ⟨0, B, by omega, rfl, fun j _ => by simp, HR0.out, hbl0.out⟩
 case round =>
  clear HR0 hbl0
  obtain ⟨k, f, hk, rfl, hf, hr, hbl⟩ := hrel
  by_cases hlt : k < 16
  · have ck := (hr.2 k hlt).1
    have fz := (hr.2 k hlt).2
    have cK : wr.cell? ⟨gw, k, none⟩ = some (.int .u8 ((K k).toNat : Int)) := (hbl.cell (p := ⟨gw, k, none⟩) hgw).trans (HK.out k (by omega))
    have hk' : (k : Int) < 176 := by omega
    have hx := r_xor8 (f k) (K k)
    have HV := hide (show f k ^^^ K k = encF K B 0 k by rw [hf.out k hlt, if_neg (by omega)]; rfl)
    obtain ⟨Y, hY⟩ : ∃ Y, Y = f k ^^^ K k := ⟨_, rfl⟩
    rw [← hY] at hx HV
    generalize K k = Kk at *
    obtain ⟨fk, hfk⟩ : ∃ x, x = f k := ⟨_, rfl⟩
    rw [← hfk] at ck hx hY
    clear hfk hY
    go_wp2_with fail
    go_region
    go_wp2_with fail
    go_roundw
    case rel =>
     refine ⟨k + 1, fun j => if j = k then Y else f j, by omega, by go_num, fun j hj => ?_, (hr.set hlt rfl).drew, (hbl.setCell (Nat.le_refl _) _).drew⟩
     show (if j = k then Y else f j) = _
     by_cases e : j = k
     · rw [if_pos e, if_pos (by omega), e, HV.out]
     · rw [if_neg e, hf.out j hj]
       by_cases e2 : j < k
       · rw [if_pos e2, if_pos (by omega)]
       · rw [if_neg e2, if_neg (by omega)]
    case measure => simp [intOf]; omega
  · have hf0 := hide (show ∀ j, j < 16 → f j = encF K B 0 j from fun j hj => by rw [hf.out j hj, if_pos (by omega)])
    clear hf
    have hkf : decide ((k : Int) < 16) = false := decide_eq_false (by omega)
    go_wp2_with fail
    go_loopw [9] (fun i wx => ∃ (n : Nat) (f : Nat → UInt8), n ≤ 10 ∧ i = .int .i64 ((n : Int) + 1) ∧ Hid (∀ j, j < 16 → f j = encF K B n j) ∧ rowC wx w.heap.size 16 f ∧ Below w.heap.size w wx) (fun i _ => 11 - (intOf i).toNat)
    case atStart => exact ⟨0, f, by omega, rfl, hf0, hr, hbl⟩
    case round =>
     clear hf0 hr hbl
     obtain ⟨n, f, hn, rfl, hf, hr, hbl⟩ := hrel
     have hsz := hbl.size
     by_cases hlt : n < 10
     · have hlt' : decide ((n : Int) + 1 ≤ 10) = true := decide_eq_true (by omega)
       obtain ⟨gx, hgx⟩ : ∃ x, x = wr.heap.size := ⟨_, rfl⟩
       have hgxl : w.heap.size < gx := by have := hr.1; omega
       have hr1 := hr.alloc (.cells (madeCells #[.int .u8 0] 16) 5)
       have hbl1 := hbl.alloc hsz (.cells (madeCells #[.int .u8 0] 16) 5)
       have hx1 := World.rowIs_made wr (.int .u8 0) 16 5
       rw [← hgx] at hx1
       go_wp2_with fail
       rw [← hgx]
       generalize wr.alloc (.cells (madeCells #[.int .u8 0] 16) 5) = W1 at *
       clear hgx
       go_loopw [11] (fun i wx => ∃ (c : Nat) (h : Nat → UInt8), c ≤ 4 ∧ i = .int .i64 c ∧ Hid (∀ j, j < 4 * c → h j = subF f j) ∧ wx.rowIs gx 5 16 (u8V h) ∧ rowC wx w.heap.size 16 f ∧ Below w.heap.size w wx) (fun i _ => 4 - (intOf i).toNat)
       case atStart => exact ⟨0, fun _ => 0, by omega, rfl, fun j hj => by omega, hx1, hr1, hbl1⟩
       case round =>
        clear hr hbl hr1 hbl1 hx1
        obtain ⟨c, h, hc, rfl, hh, hx, hr, hbl⟩ := hrel
        by_cases hc4 : c < 4
        · have hc4' : decide ((c : Int) < 4) = true := decide_eq_true (by omega)
          go_wp2_with fail
          go_loopw [12] (fun i wx => ∃ (r : Nat) (h : Nat → UInt8), r ≤ 4 ∧ i = .int .i64 r ∧ Hid (∀ j, j < 4 * c + r → h j = subF f j) ∧ wx.rowIs gx 5 16 (u8V h) ∧ rowC wx w.heap.size 16 f ∧ Below w.heap.size w wx) (fun i _ => 4 - (intOf i).toNat)
          case atStart => exact ⟨0, h, by omega, rfl, fun j hj => hh.out j (by omega), hx, hr, hbl⟩
          case round =>
           clear hh hx hr hbl
           obtain ⟨r, h, hr4, rfl, hh, hx, hr, hbl⟩ := hrel
           by_cases hrlt : r < 4
           · obtain ⟨c4, ec4⟩ : ∃ q, q = 4 * c := ⟨_, rfl⟩
             obtain ⟨q0, e0⟩ : ∃ q, q = 4 * c + r := ⟨_, rfl⟩
             obtain ⟨sm, esm⟩ : ∃ q, q = c + r := ⟨_, rfl⟩
             obtain ⟨m, em⟩ : ∃ q, q = (c + r) % 4 := ⟨_, rfl⟩
             have T := hide (show (sm : Int) % 4 = (m : Int) by rw [em, esm]; exact (Int.natCast_emod _ _).symm)
             have bm : m < 4 := by rw [em]; exact Nat.mod_lt _ (by decide)
             have HM := hide em
             clear em
             obtain ⟨m4, em4⟩ : ∃ q, q = 4 * m := ⟨_, rfl⟩
             obtain ⟨q, eq⟩ : ∃ q, q = 4 * m + r := ⟨_, rfl⟩
             have w0 : IntKind.i64.wrap (4 * (c : Int)) = (c4 : Int) := w_mul (show 4 * c = c4 by omega) (by omega)
             have w1 : IntKind.i64.wrap ((c4 : Int) + (r : Int)) = (q0 : Int) := w_add (by omega) (by omega)
             have w2 : IntKind.i64.wrap ((c : Int) + (r : Int)) = (sm : Int) := w_add (by omega) (by omega)
             have w3 : IntKind.i64.wrap (4 * (m : Int)) = (m4 : Int) := w_mul (show 4 * m = m4 by omega) (by omega)
             have w4 : IntKind.i64.wrap ((m4 : Int) + (r : Int)) = (q : Int) := w_add (by omega) (by omega)
             have t1 := T.out
             have nq0 : (q0 : Int) < 16 := by omega
             have nq : (q : Int) < 16 := by omega
             have cq := (hr.2 q (by omega)).1
             have HV := hide (show sbox (f q).toNat = subF f q0 by rw [subF, show q0 / 4 = c by omega, show q0 % 4 = r by omega, subB, ← HM.out, ← eq])
             have HQ := hide e0
             have hq16 : q0 < 16 := by omega
             clear e0 eq ec4 esm em4
             generalize f q = A at *
             have hA : (A.toNat : Int) < 256 := by have := A.toNat_lt; omega
             obtain ⟨S, hS⟩ : ∃ S, S = sbox A.toNat := ⟨_, rfl⟩
             have cS : wr.cell? ⟨gb, A.toNat, none⟩ = some (.int .u8 (S.toNat : Int)) := by rw [hS]; exact (hbl.cell (p := ⟨gb, A.toNat, none⟩) hgb).trans (HB.out.cell (i := A.toNat) A.toNat_lt)
             rw [← hS] at HV
             clear hS
             have cx := hx.cell (i := q0) hq16
             have fx := hx.frozen q0
             go_wp2_with fail
             go_roundw
             case rel =>
              refine ⟨r + 1, fun j => if j = q0 then S else h j, by omega, by go_num, fun j hj => ?_, set_byte hx rfl, hr.far (by omega), hbl.setCell (by show w.heap.size ≤ gx; omega) _⟩
              show (if j = q0 then S else h j) = _
              by_cases e : j = q0
              · rw [if_pos e, e, HV.out]
              · rw [if_neg e]; exact hh.out j (by have := HQ.out; omega)
             case measure => simp [intOf]; omega
           · go_wp2_with fail
             go_roundw
             case rel => exact ⟨c + 1, h, by omega, by go_num, fun j hj => hh.out j (by omega), hx, hr, hbl⟩
             case measure => simp [intOf]; omega
        · have hc4' : decide ((c : Int) < 4) = false := decide_eq_false (by omega)
          have hsx : ∀ j, j < 16 → wr.cell? ⟨gx, j, none⟩ = some (.int .u8 ((subF f j).toNat : Int)) := fun j hj => by rw [hx.cell hj, u8V, hh.out j (by omega)]
          have hgxw := hx.lt
          have HSX := hide hsx
          clear hsx hh
          go_upto_if 65 with fail
          go_cut [10] (fun x wx => ∃ gy cy : Nat, x = .slice (some ⟨gy, 0, none⟩) 16 cy ∧ w.heap.size < gy ∧ gy < wx.heap.size ∧ Hid (∀ j, j < 16 → wx.cell? ⟨gy, j, none⟩ = some (.int .u8 ((midF (n + 1) f j).toNat : Int))) ∧ rowC wx w.heap.size 16 f ∧ Below w.heap.size w wx)
          case first =>
           by_cases h9 : n + 1 < 10
           · have h9' : decide ((n : Int) + 1 < 10) = true := decide_eq_true (by omega)
             have hmid := hide (show midF (n + 1) f = mixF (subF f) from if_pos h9)
             have hsw := hbl.size
             go_wp2_with fail
             refine (spec_mix gx 16 (subF f) wr hgxw (fun j hj => HSX.out j hj)).mono ?_
             rintro e w1 ⟨rfl, hm, hb1⟩
             have R1 := hide (show ∀ j, j < 16 → w1.cell? ⟨wr.heap.size, j, none⟩ = some (.int .u8 ((midF (n + 1) f j).toNat : Int)) from fun j hj => by rw [hmid.out]; exact hm.cell hj)
             have R2 := hm.lt
             have R3 := hr.below hb1
             have R4 := hbl.trans (hb1.mono hsw)
             clear hm hb1
             go_wp2_with fail
             go_meet
             case rel => exact ⟨_, _, rfl, by omega, R2, R1, R3, R4⟩
           · have h9' : decide ((n : Int) + 1 < 10) = false := decide_eq_false (by omega)
             have hmid := hide (show midF (n + 1) f = subF f from if_neg h9)
             go_wp2_with fail
             go_meet
             case rel => exact ⟨gx, 16, rfl, hgxl, hgxw, (show ∀ j, j < 16 → wr.cell? ⟨gx, j, none⟩ = some (.int .u8 ((midF (n + 1) f j).toNat : Int)) from fun j hj => by rw [hmid.out]; exact HSX.out j hj), hr, hbl⟩
          case rest =>
           clear hx hr hbl HSX hgxw
           obtain ⟨gy, cy, rfl, hgy1, hgy2, HM, hr, hbl⟩ := hcut
           have hE := hide (show ∀ j, j < 16 → midF (n + 1) f j ^^^ K (16 * (n + 1) + j) = encF K B (n + 1) j from fun j hj => by rw [encF, midF_congr (n + 1) hf.out j hj])
           go_wp2_with fail
           go_loopw [13] (fun i wx => ∃ (k : Nat) (f' : Nat → UInt8), k ≤ 16 ∧ i = .int .i64 k ∧ Hid (∀ j, j < 16 → f' j = if j < k then encF K B (n + 1) j else f j) ∧ rowC wx w.heap.size 16 f' ∧ gy < wx.heap.size ∧ Hid (∀ j, j < 16 → wx.cell? ⟨gy, j, none⟩ = some (.int .u8 ((midF (n + 1) f j).toNat : Int))) ∧ Below w.heap.size w wx) (fun i _ => 16 - (intOf i).toNat)
           case atStart => exact ⟨0, f, by omega, rfl, fun j _ => by simp, hr, hgy2, HM, hbl⟩
           case round =>
            clear hr hgy2 HM hbl
            obtain ⟨k, f', hk16, rfl, hf', hr, hgy2, HM, hbl⟩ := hrel
            by_cases hklt : k < 16
            · obtain ⟨p0, ep0⟩ : ∃ q, q = 16 * (n + 1) := ⟨_, rfl⟩
              obtain ⟨p, ep⟩ : ∃ q, q = 16 * (n + 1) + k := ⟨_, rfl⟩
              have w0 : IntKind.i64.wrap (16 * ((n : Int) + 1)) = (p0 : Int) := by simp only [IntKind.wrap_i64]; omega
              have w1 : IntKind.i64.wrap ((p0 : Int) + (k : Int)) = (p : Int) := w_add (by omega) (by omega)
              have np : (p : Int) < 176 := by omega
              have cx := HM.out k hklt
              have cK : wr.cell? ⟨gw, p, none⟩ = some (.int .u8 ((K p).toNat : Int)) := (hbl.cell (p := ⟨gw, p, none⟩) hgw).trans (HK.out p (by omega))
              have ck := (hr.2 k hklt).1
              have fz := (hr.2 k hklt).2
              have HV := hide (show midF (n + 1) f k ^^^ K p = encF K B (n + 1) k by rw [ep]; exact hE.out k hklt)
              have xx := r_xor8 (midF (n + 1) f k) (K p)
              obtain ⟨Y, hY⟩ : ∃ Y, Y = midF (n + 1) f k ^^^ K p := ⟨_, rfl⟩
              rw [← hY] at HV xx
              clear hY ep0 ep
              generalize K p = Kp at *
              obtain ⟨M, hM⟩ : ∃ M, M = midF (n + 1) f k := ⟨_, rfl⟩
              rw [← hM] at cx xx
              clear hM
              go_wp2_with fail
              go_region
              clear w0 w1 np cx cK ck fz xx
              go_wp2_with fail
              go_roundw
              case rel =>
               refine ⟨k + 1, fun j => if j = k then Y else f' j, by omega, by go_num, fun j hj => ?_, (hr.set hklt rfl).drew, by simpa [World.setCell] using hgy2, (show ∀ j, j < 16 → _ from fun j hj => (cell_far (by omega) (HM.out j hj))), (hbl.setCell (Nat.le_refl _) _).drew⟩
               show (if j = k then Y else f' j) = _
               by_cases e : j = k
               · rw [if_pos e, if_pos (by omega), e, HV.out]
               · rw [if_neg e, hf'.out j hj]
                 by_cases e2 : j < k
                 · rw [if_pos e2, if_pos (by omega)]
                 · rw [if_neg e2, if_neg (by omega)]
              case measure => simp [intOf]; omega
            · have hf2 := hide (show ∀ j, j < 16 → f' j = encF K B (n + 1) j from fun j hj => by rw [hf'.out j hj, if_pos (by omega)])
              go_wp2_with fail
              go_roundw
              case rel => exact ⟨n + 1, f', by omega, by go_num, hf2, hr, hbl⟩
              case measure => simp [intOf]; omega
     · have hn10 : n = 10 := by omega
       have hlt' : decide ((n : Int) + 1 ≤ 10) = false := decide_eq_false (by omega)
       have hcv2 := conv_rowC (P := Tryz.prog) (cap := grownCap w 16 0 5) (l := encL K B) hr (fun j hj => by rw [encL, List.getElem?_map, List.getElem?_range hj, hf.out j hj, hn10]; rfl) (by simp [encL]) Tryz.underlying22 Tryz.underlying5 Tryz.underlying9
       go_wp2_with fail
       go_ret
       exact ⟨rfl, hbl⟩
end Go.Proofs.YtconcnndghmdfaaGreatDoor
namespace Go.Proofs.YtconcnndghmdfaaGreatDoor
open Go.RowKit
def IsRow (k : IntKind) (w : World) (a : Option Addr) (len cap : Nat) (zs : List Int) : Prop :=
 (a = none ∧ len = 0 ∧ cap = 0 ∧ zs = []) ∨
 ∃ x, a = some x ∧ len ≤ cap ∧ cap ≤ maxLen ∧ zs.length = cap ∧ (∀ i, i < zs.length → w.cell? (x.add i) = some (.int k (zs.getD i 0))) ∧ ∀ n ∈ zs, (Lit.int k n).wf = true
def BytesIn (w : World) (B : Nat) (a : Option Addr) (len : Nat) : Prop :=
 len = 0 ∨ ∃ b off, a = some ⟨b, off, none⟩ ∧ b < B ∧ ∀ i, i < len → ∃ z : Int, 0 ≤ z ∧ z ≤ 255 ∧ w.cell? ⟨b, off + i, none⟩ = some (.int .u8 z)
theorem wf_u8 {n : Int} (h : (Lit.int .u8 n).wf = true) : 0 ≤ n ∧ n ≤ 255 := by
 simp [Lit.wf] at h; exact ⟨Int.le_trans (by decide) h.1, h.2⟩
theorem bytesIn_of_row {w : World} {a : Option Addr} {len cap : Nat} {zs : List Int} (h : IsRow .u8 w a len cap zs) : BytesIn w w.heap.size a len := by
 rcases h with ⟨_, hl, _, _⟩ | ⟨x, rfl, hl, _, hz, hc, hw⟩
 · exact .inl hl
 · by_cases h0 : len = 0
   · exact .inl h0
   · obtain ⟨b, off, spot⟩ := x
     have hc0 := hc 0 (by omega)
     have hspot : spot = none := by simpa [Addr.add] using World.cell?_spot hc0
     subst hspot
     have hb := World.block_lt_of_cell? w _ hc0
     refine .inr ⟨b, off, rfl, by simpa [Addr.add] using hb, fun i hi => ⟨zs.getD i 0, ?_, ?_, ?_⟩⟩
     · have := hw (zs.getD i 0) (by rw [List.getD_eq_getElem?_getD, List.getElem?_eq_getElem (by omega)]; simp)
       exact (wf_u8 this).1
     · have := hw (zs.getD i 0) (by rw [List.getD_eq_getElem?_getD, List.getElem?_eq_getElem (by omega)]; simp)
       exact (wf_u8 this).2
     · have := hc i (by omega)
       have e : (⟨b, off, none⟩ : Addr).add i = ⟨b, off + i, none⟩ := by by_cases hz : i = 0 <;> simp [Addr.add, hz]
       rw [e] at this; exact this
theorem BytesIn.below {w w1 : World} {B n : Nat} {a : Option Addr} {len : Nat} (h : BytesIn w B a len) (hb : Below n w w1) (hn : B ≤ n) : BytesIn w1 B a len := by
 rcases h with h | ⟨b, off, rfl, hbB, h⟩
 · exact .inl h
 · refine .inr ⟨b, off, rfl, hbB, fun i hi => ?_⟩
   obtain ⟨z, h0, h1, hc⟩ := h i hi
   exact ⟨z, h0, h1, by rw [← hc]; exact hb.cell (p := ⟨b, off + i, none⟩) (by exact Nat.lt_of_lt_of_le hbB hn)⟩
def Src (T B : Nat) (w : World) (g : Nat) (a : Option Addr) (len cap : Nat) : Prop :=
 B ≤ g ∧ len ≤ 1048576 ∧ BytesIn w B a len ∧ ∃ (p : Nat) (mix sz : Int), p ≤ len ∧ 0 ≤ mix ∧ mix ≤ 18446744073709551615 ∧ (0 ≤ sz ∧ sz ≤ 12) ∧
  w.heap[g]? = some (.cells #[.slice a len cap, .int .i64 p, .int .u64 mix, .int .i64 sz] T (0, 0))
theorem grownBy_trans {w w1 w2 : World} {r : Option Nat} (h1 : w.grownBy w1 r) (h2 : w1.grownBy w2 r) : w.grownBy w2 r :=
 ⟨h2.os.trans h1.os, h2.tape.trans h1.tape, h2.output.trans h1.output, Nat.le_trans h1.size h2.size, fun k hk hr => (h2.block k (Nat.lt_of_lt_of_le hk h1.size) hr).trans (h1.block k hk hr)⟩
theorem grownBy_drew {w w1 : World} {r : Option Nat} (h1 : w.grownBy w1 r) : w.grownBy w1.drew r := ⟨h1.os, h1.tape, h1.output, h1.size, h1.block⟩
theorem grownBy_set {w w1 : World} {g i : Nat} (h1 : w.grownBy w1 (some g)) (v : Value) : w.grownBy (w1.setCell ⟨g, i, none⟩ v) (some g) :=
 ⟨h1.os, h1.tape, h1.output, by have := h1.size; simpa [World.setCell] using this, fun k hk hr => by
  rw [Below.heap_setCell _ _ _ _ (by intro e; exact hr (by simp [e]))]; exact h1.block k hk hr⟩
theorem grownBy_set_new {w w1 : World} {g i : Nat} (h1 : w.grownBy w1 none) (hg : w.heap.size ≤ g) (v : Value) : w.grownBy (w1.setCell ⟨g, i, none⟩ v) none :=
 ⟨h1.os, h1.tape, h1.output, by have := h1.size; simpa [World.setCell] using this, fun k hk hr => by
  rw [Below.heap_setCell _ _ _ _ (by show k ≠ g; omega)]; exact h1.block k hk hr⟩
theorem grownBy_new {w w1 w2 : World} {g : Nat} (h1 : w.grownBy w1 none) (h2 : w1.grownBy w2 (some g)) (hg : w.heap.size ≤ g) : w.grownBy w2 none :=
 ⟨h2.os.trans h1.os, h2.tape.trans h1.tape, h2.output.trans h1.output, Nat.le_trans h1.size h2.size, fun k hk _ => (h2.block k (Nat.lt_of_lt_of_le hk h1.size) (by simp; omega)).trans (h1.block k hk (by simp))⟩
theorem grownBy_none {w w1 w2 : World} {r : Option Nat} (h1 : w.grownBy w1 r) (h2 : w1.grownBy w2 none) : w.grownBy w2 r :=
 ⟨h2.os.trans h1.os, h2.tape.trans h1.tape, h2.output.trans h1.output, Nat.le_trans h1.size h2.size, fun k hk hr => (h2.block k (Nat.lt_of_lt_of_le hk h1.size) (by simp)).trans (h1.block k hk hr)⟩
theorem below_grownBy {w w1 : World} (h : Below w.heap.size w w1) : w.grownBy w1 none := ⟨h.os, h.tape, h.output, h.size, fun k hk _ => h.block k hk⟩
theorem grownBy_toBelow {w w1 : World} (h : w.grownBy w1 none) : Below w.heap.size w w1 := ⟨h.os, h.tape, h.output, h.size, fun k hk => h.block k hk (by simp)⟩
theorem grownBy_alloc {w w1 : World} {r : Option Nat} (h1 : w.grownBy w1 r) (o : Obj) : w.grownBy (w1.alloc o) r :=
 ⟨h1.os, h1.tape, h1.output, by have := h1.size; simp; omega, fun k hk hr => by
  rw [Below.heap_alloc _ _ _ (by have := h1.size; omega)]; exact h1.block k hk hr⟩
theorem grownBy_below {w w1 : World} {g B : Nat} (h1 : w.grownBy w1 (some g)) (hB : B ≤ g) (hw : B ≤ w.heap.size) : Below B w w1 :=
 (Below.refl B w).grown h1 hw (fun k hk => by cases hk; exact hB)
theorem Src.lt {T B : Nat} {w : World} {g : Nat} {a : Option Addr} {len cap : Nat} (h : Src T B w g a len cap) : g < w.heap.size := by
 obtain ⟨_, _, _, p, mix, sz, _, _, _, _, hh⟩ := h
 exact (Array.getElem?_eq_some_iff.1 hh).1
theorem Src.kept {T B : Nat} {w w1 : World} {g : Nat} {a : Option Addr} {len cap : Nat} {r : Option Nat} (h : Src T B w g a len cap) (hg : w.grownBy w1 r) (hr : ∀ k, r = some k → B ≤ k ∧ k ≠ g) (hB : B ≤ w.heap.size) : Src T B w1 g a len cap := by
 have hlt := h.lt
 obtain ⟨h1, h2, h3, p, mix, sz, hp, hm0, hm1, hs12, hh⟩ := h
 have hb : Below B w w1 := (Below.refl B w).grown hg hB (fun k hk => (hr k hk).1)
 exact ⟨h1, h2, h3.below hb (Nat.le_refl _), p, mix, sz, hp, hm0, hm1, hs12, by rw [hg.block g hlt (fun e => (hr g e.symm).2 rfl)]; exact hh⟩
theorem four_cells {w : World} {g T : Nat} {x0 x1 x2 x3 : Value} (h : w.heap[g]? = some (.cells #[x0, x1, x2, x3] T (0, 0))) :
 (w.cell? ⟨g, 0, none⟩ = some x0 ∧ w.cell? ⟨g, 1, none⟩ = some x1 ∧ w.cell? ⟨g, 2, none⟩ = some x2 ∧ w.cell? ⟨g, 3, none⟩ = some x3) ∧ (∀ o, w.frozen? ⟨g, o, none⟩ = false) := by
 refine ⟨⟨?_, ?_, ?_, ?_⟩, fun o => ?_⟩
 · simp [World.cell?, h]
 · simp [World.cell?, h]
 · simp [World.cell?, h]
 · simp [World.cell?, h]
 · simp [World.frozen?, h]
theorem four_set {w : World} {g T i : Nat} {x0 x1 x2 x3 : Value} (h : w.heap[g]? = some (.cells #[x0, x1, x2, x3] T (0, 0))) (v : Value) :
 (w.setCell ⟨g, i, none⟩ v).heap[g]? = some (.cells (#[x0, x1, x2, x3].setIfInBounds i v) T (0, 0)) := heap_setCell_same w g i _ T v h
end Go.Proofs.YtconcnndghmdfaaGreatDoor

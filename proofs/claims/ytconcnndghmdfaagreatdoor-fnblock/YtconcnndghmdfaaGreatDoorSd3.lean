/- Put together: ShaA, Copy, Bytes8, ShaP, ShaM, ShaD, KeyO, KeyF. -/
import Derived.Test.YtconcnndghmdfaaGreatDoorSd2
import Derived.Laws.CopyOwn
import Derived.Lib.BufferWrite
namespace Go.Proofs.YtconcnndghmdfaaGreatDoor
open Go.RowKit
theorem Tryz.infoSha8 : (Tryz.prog.info? 5).map (fun i => (i.zero, i.size, i.bytes)) = some (some (.int .u8 0), 1, 1) := by kernel_rfl
def zerosN (n : Nat) : Nat := (119 - n % 64) % 64
def lenB (n m : Nat) : UInt8 := UInt8.ofNat (8 * n / 2 ^ (56 - 8 * m) % 256)
def padded1 (t : ByteArray) : List UInt8 := t.data.toList ++ [128] ++ List.replicate (zerosN t.size) 0
def padded (t : ByteArray) : List UInt8 := padded1 t ++ (List.range 8).map (lenB t.size)
theorem lenB_eq (n m p q : Nat) (hqm : q + m = 8) (hp : p = 8 * q - 8) (_hq : 1 ≤ q) : 8 * (n : Int) / 2 ^ p % 256 = ((lenB n m).toNat : Int) := by
 have e : 56 - 8 * m = p := by omega
 unfold lenB
 rw [e, ofNat_byte _ (by omega)]
 simp
def stAt (l : List UInt8) : Nat → Nat → Nat
 | 0 => shaStart1
 | m + 1 => blockF (byteAt ⟨((l.drop (64 * m)).take 64).toArray⟩) (stAt l m)
theorem stAt_lt (l : List UInt8) : ∀ m j, stAt l m j < 4294967296
 | 0, j => start_lt j
 | _ + 1, j => lt_block _ _ j
def wordB (x : Nat) : List UInt8 := [UInt8.ofNat (x / 16777216 % 256), UInt8.ofNat (x / 65536 % 256), UInt8.ofNat (x / 256 % 256), UInt8.ofNat (x % 256)]
def outB (st : Nat → Nat) (i : Nat) : List UInt8 := (List.range i).flatMap fun j => wordB (st j)
theorem outB_succ (st : Nat → Nat) (i : Nat) : outB st i ++ wordB (st i) = outB st (i + 1) := by
 unfold outB; rw [List.range_succ, List.flatMap_append]; simp
theorem outB_len (st : Nat → Nat) : ∀ i, (outB st i).length = 4 * i
 | 0 => rfl
 | i + 1 => by rw [← outB_succ, List.length_append, outB_len st i]; simp [wordB]; omega
def digestL (t : ByteArray) : List UInt8 := outB (stAt (padded t) ((padded t).length / 64)) 8
theorem four_bytes (w : World) (S t : Nat) (hS : S < 4294967296) : ∀ (j : Nat) (u : Value), ((wordB S).map byteV)[j]? = some u → (w.alloc (.cells #[.int .u8 ((S : Int) / 16777216), .int .u8 ((S : Int) / 65536 % 256), .int .u8 ((S : Int) / 256 % 256), .int .u8 ((S : Int) % 256)] t)).cell? ((⟨w.heap.size, 0, none⟩ : Addr).add j) = some u := by
 have e0 : byteV (UInt8.ofNat (S / 16777216 % 256)) = .int .u8 ((S : Int) / 16777216) := by unfold byteV; rw [ofNat_byte _ (by omega), Nat.mod_eq_of_lt (by omega)]; simp
 have e1 : byteV (UInt8.ofNat (S / 65536 % 256)) = .int .u8 ((S : Int) / 65536 % 256) := by unfold byteV; rw [ofNat_byte _ (by omega)]; simp
 have e2 : byteV (UInt8.ofNat (S / 256 % 256)) = .int .u8 ((S : Int) / 256 % 256) := by unfold byteV; rw [ofNat_byte _ (by omega)]; simp
 have e3 : byteV (UInt8.ofNat (S % 256)) = .int .u8 ((S : Int) % 256) := by unfold byteV; rw [ofNat_byte _ (by omega)]; simp
 intro j u hj
 simp only [wordB, List.map_cons, List.map_nil, e0, e1, e2, e3] at hj
 match j, hj with
 | 0, hj => simp at hj; subst hj; simp [Addr.add]
 | 1, hj => simp at hj; subst hj; simp [Addr.add]
 | 2, hj => simp at hj; subst hj; simp [Addr.add]
 | 3, hj => simp at hj; subst hj; simp [Addr.add]
def lenA : Value → Nat
 | .slice _ n _ => n
 | _ => 0
def zRow (t : ByteArray) (z : Nat) : List UInt8 := t.data.toList ++ [128] ++ List.replicate z 0
theorem zRow_len (t : ByteArray) (z : Nat) : (zRow t z).length = t.size + 1 + z := by
 have : t.data.toList.length = t.size := by simp
 unfold zRow; rw [List.length_append, List.length_append, List.length_replicate, this]; rfl
theorem padded1_len (t : ByteArray) : (padded1 t).length = t.size + 1 + zerosN t.size := zRow_len t (zerosN t.size)
theorem padded_len (t : ByteArray) : (padded t).length = t.size + 1 + zerosN t.size + 8 := by
 unfold padded; rw [List.length_append, padded1_len, List.length_map, List.length_range]
theorem zRow_succ (t : ByteArray) (z : Nat) : zRow t z ++ [0] = zRow t (z + 1) := by
 unfold zRow; rw [List.replicate_succ', ← List.append_assoc]
set_option maxRecDepth 100000 in
set_option maxHeartbeats 1600000 in
theorem spec_all (t : ByteArray) (w : World) (ht : t.size ≤ 4194304) :
 Calls Tryz.prog 60 #[.string t] w fun e w' => e = .returned (.string ⟨(digestL t).toArray⟩) ∧ Below w.heap.size w w' := by
 obtain ⟨i0, hi, hz0, hz1, hz2⟩ := info_parts Tryz.infoSha8
 have hcv := fun (w : World) => run_bytes_of_string (P := Tryz.prog) w 9 22 5 t Tryz.underlying9 Tryz.underlying22 Tryz.underlying5
 have hl : t.data.toList.length = t.size := by simp
 have hcap := grownCap_ge w t.size 0 5
 have hrow0 := hide (hasRow.of_text w.drew w.heap.size 5 (grownCap w t.size 0 5) t hcap (Nat.le_refl _))
 have hbl0 := hide ((Below.refl w.heap.size w).drew.alloc (Nat.le_refl _) (.cells (bytesRow t (grownCap w t.size 0 5)) 5 ((bytesRow t (grownCap w t.size 0 5)).size, (bytesRow t (grownCap w t.size 0 5)).size + 1)))
 go_enter Tryz.func60, Tryz.ntmps60
 go_wp2_with (at_builtin; refine wpList_append_row rfl _ _ 22 rfl 5 i0 Tryz.underlying22 hi hz0 hz1 hz2 w.heap.size _ t.data.toList rfl ((hrow0.out.alloc _)) ⟨w.heap.size + 1, 0, none⟩ 1 [128] (by simp) rfl (one_byte 128 5 _ ?c1 rfl) ?c2 ?c3 ?_)
 case c1 => simp
 case c2 => rw [hl]; simp; omega
 case c3 => simp; omega
 intro v1 w1 hr1 hb1
 have hb := (hbl0.out.alloc hbl0.out.size _).trans hb1
 clear hrow0 hbl0 hb1 hcv hcap
 go_wp2_with fail
 go_loopw [3] (fun v wx => ∃ z, z ≤ zerosN t.size ∧ hasRow wx w.heap.size v (zRow t z) ∧ Below w.heap.size w wx) (fun v _ => zerosN t.size + t.size + 1 - lenA v)
 case atStart => exact ⟨0, Nat.zero_le _, by simpa [zRow] using hr1, hb⟩
 case round =>
  clear hr1 hb
  obtain ⟨z, hz, hr, hbl⟩ := hrel
  have HR := hide hr
  obtain ⟨g, cap, rfl, hg1, hg2⟩ := hr.form
  have hlen := zRow_len t z
  have hzz := hide (show z ≤ (119 - t.size % 64) % 64 from hz)
  obtain ⟨L, hL⟩ : ∃ L, L = (zRow t z).length := ⟨_, rfl⟩
  rw [← hL] at HR hlen ⊢
  have HL := hide hL
  have HL2 := hide hlen
  have hLb : L ≤ 4194400 := by have := hzz.out; omega
  have hsz := hbl.size
  clear hL hr hlen
  by_cases hq : L % 64 = 56
  · have hq' : (L : Int) % 64 = 56 := by omega
    have hzE : z = zerosN t.size := by
     have h1 := hzz.out
     have h2 := HL2.out
     unfold zerosN; omega
    have hr3 : hasRow wr w.heap.size (.slice (some ⟨g, 0, none⟩) L cap) (padded1 t ++ (List.range 0).map (lenB t.size)) := by
     have := HR.out; rw [hzE] at this; simpa [padded1, zRow] using this
    have HR3 := hide hr3
    clear hzE hr3 HR HL HL2 hzz hz
    go_wp2_with fail
    clear hq hq'
    go_loopw [3, 5] (fun v i wx => ∃ q m : Nat, q + m = 8 ∧ i = .int .i64 (8 * (q : Int) - 8) ∧ hasRow wx w.heap.size v (padded1 t ++ (List.range m).map (lenB t.size)) ∧ Below w.heap.size w wx) (fun _ i _ => (intOf i + 8).toNat)
    case atStart => exact ⟨8, 0, by omega, rfl, HR3.out, hbl⟩
    case round =>
     clear HR3 hbl hsz hg2
     obtain ⟨q, m, hqm, rfl, hr, hbl⟩ := hrel
     by_cases hq1 : 1 ≤ q
     · obtain ⟨p, hp⟩ : ∃ p : Nat, p = 8 * q - 8 := ⟨_, rfl⟩
       have hpi : 8 * (q : Int) - 8 = (p : Int) := by omega
       have hp56 : (p : Int) ≤ 56 := by omega
       have HP := hide hp
       have HX := hide (lenB_eq t.size m p q hqm hp hq1)
       have hlp : (padded1 t ++ (List.range m).map (lenB t.size)).length ≤ 4194500 := by
        rw [List.length_append, padded1_len, List.length_map, List.length_range]; unfold zerosN; omega
       have HLP := hide hlp
       have hsz := hbl.size
       rw [hpi]
       clear hp hpi hlp
       go_wp2_with (at_builtin; refine wpList_append_row rfl _ _ 22 rfl 5 i0 Tryz.underlying22 hi hz0 hz1 hz2 w.heap.size _ (padded1 t ++ (List.range m).map (lenB t.size)) rfl (hr.alloc _) ⟨wr.heap.size, 0, none⟩ 1 [lenB t.size m] (by simp) rfl (one_byte (lenB t.size m) 5 _ rfl HX.out) ?e2 ?e3 ?_)
       case e2 => have := HLP.out; simp only [List.length_singleton]; omega
       case e3 => simp; omega
       intro v2 w2 hr2 hb2
       have hr3 : hasRow w2 w.heap.size v2 (padded1 t ++ (List.range (m + 1)).map (lenB t.size)) := by
        rw [List.range_succ, List.map_append]; simpa using hr2
       have hb3 := (hbl.alloc hbl.size _).trans hb2
       clear hr hr2 hb2 HX HLP
       go_wp2_with fail
       have hpe := HP.out
       go_roundw
       case rel => exact ⟨q - 1, m + 1, by omega, int_eq (by omega), hr3, hb3⟩
       case measure => simp [intOf]; omega
     · have hm8 : m = 8 := by omega
       have hr8 : hasRow wr w.heap.size u3 (padded t) := by rw [hm8] at hr; exact hr
       have hq0 : 8 * (q : Int) - 8 < 0 := by omega
       clear hr hm8
       go_wp2_with fail
       --BLOCKS
       refine (spec_start _).mono ?_
       rintro e w1 ⟨rfl, hst, hb1⟩
       have hbl1 : Below w.heap.size w w1 := hbl.trans (hb1.mono hbl.size)
       have hr1 : hasRow w1 w.heap.size u3 (padded t) := hr8.below hb1
       have hc1 : ∀ j, j < 8 → w1.cell? ⟨wr.heap.size, j, none⟩ = some (.int .i64 (stAt (padded t) 0 j : Nat)) := fun j hj => hst.cell hj
       have hg1' := hst.lt
       have hsz := hbl.size
       obtain ⟨g3, hg3⟩ : ∃ x, x = wr.heap.size := ⟨_, rfl⟩
       rw [← hg3] at hc1 hg1' hsz ⊢
       clear hst hb1 hr8 hg3
       have HC1 := hide hc1
       obtain ⟨g4, cap4, rfl, hg41, hg42⟩ := hr1.form
       have hPl := padded_len t
       obtain ⟨PL, hPL⟩ : ∃ x, x = (padded t).length := ⟨_, rfl⟩
       obtain ⟨nb, hnb⟩ : ∃ x, x = PL / 64 := ⟨_, rfl⟩
       have hPLb : PL ≤ 4194600 := by rw [hPL, hPl]; unfold zerosN; omega
       have hcap4 : PL ≤ cap4 := by obtain ⟨_, _, e, _, _, h, _⟩ := hr1; cases e; rw [hPL]; exact h
       have HPL := hide (show PL = 64 * nb by rw [hPL] at hnb; rw [hPL, hnb, hPl]; unfold zerosN; omega)
       rw [← hPL] at hr1 ⊢
       have HR1 := hide hr1
       have HQ := hide hPL
       clear hPL hPl hnb hc1 hr1
       go_wp2_with fail
       go_loopw [6, 7] (fun s i wx => ∃ (m p g c : Nat), m ≤ nb ∧ Hid (p = 64 * m) ∧ i = .int .i64 p ∧ s = .slice (some ⟨g, 0, none⟩) 8 c ∧ w.heap.size ≤ g ∧ g < wx.heap.size ∧ Hid (∀ j, j < 8 → wx.cell? ⟨g, j, none⟩ = some (.int .i64 (stAt (padded t) m j : Nat))) ∧ Hid (hasRow wx w.heap.size (.slice (some ⟨g4, 0, none⟩) PL cap4) (padded t)) ∧ Below w.heap.size w wx) (fun _ i _ => PL - (intOf i).toNat)
       case atStart => exact ⟨0, 0, g3, 8, Nat.zero_le _, rfl, rfl, rfl, hsz, hg1', HC1.out, HR1.out, hbl1⟩
       case round =>
        clear HC1 HR1 hbl1 hg1' hbl
        obtain ⟨m, p, g5, c5, hm, hp, rfl, rfl, hg51, hg52, hc5, hr5, hbl5⟩ := hrel
        by_cases hlt : p < PL
        · have hp64 : p + 64 ≤ PL := by have h1 := hp.out; have h2 := HPL.out; omega
          have hlt' : (p : Int) < (PL : Int) := by omega
          have hcv := row_conv (P := Tryz.prog) (c := cap4 - p) hr5.out (show p + 64 ≤ (padded t).length by rw [← HQ.out]; exact hp64) Tryz.underlying22 Tryz.underlying5 Tryz.underlying9
          obtain ⟨B, hB⟩ : ∃ x : ByteArray, x = ⟨(((padded t).drop p).take 64).toArray⟩ := ⟨_, rfl⟩
          rw [← hB] at hcv
          have hBs : B.size = 64 := by
           rw [hB, size_mk, List.length_take, List.length_drop, ← HQ.out]; omega
          have HB := hide hB
          clear hB
          go_wp2_with fail
          refine (spec_block g5 c5 (stAt (padded t) m) B wr (stAt_lt _ m) hBs hg52 hc5.out).mono ?_
          rintro e w2 ⟨g6, c6, rfl, hg61, hg62, hc6, hb6⟩
          have hbl6 : Below w.heap.size w w2 := hbl5.trans (hb6.mono hbl5.size)
          have hr6 := hide (hr5.out.below hb6)
          have hc6' := hide (show ∀ j, j < 8 → w2.cell? ⟨g6, j, none⟩ = some (.int .i64 (stAt (padded t) (m + 1) j : Nat)) by
           intro j hj
           rw [hc6 j hj, HB.out, hp.out]; rfl)
          have hsz5 := hbl5.size
          clear hcv hc6 hb6 hr5 hc5 HB
          go_wp2_with fail
          go_roundw
          case rel => exact ⟨m + 1, p + 64, g6, c6, by have h1 := hp.out; have h2 := HPL.out; omega, by have h1 := hp.out; show p + 64 = 64 * (m + 1); omega, by go_num, rfl, by omega, hg62, hc6', hr6, hbl6⟩
          case measure => simp [intOf]; omega
        · have hmn : m = (padded t).length / 64 := by
           have h1 := hp.out
           have h2 := HPL.out
           rw [← HQ.out]; omega
          have HM := hide hmn
          have hszO := hbl5.size
          clear hmn
          go_wp2_with fail
          obtain ⟨ST, hST⟩ : ∃ f, f = stAt (padded t) m := ⟨_, rfl⟩
          have hSTb : ∀ j, ST j < 4294967296 := by rw [hST]; exact stAt_lt _ m
          rw [← hST] at hc5
          have HST := hide hST
          clear hST hr5
          go_loopw [8, 9] (fun v i wx => ∃ k : Nat, k ≤ 8 ∧ i = .int .i64 k ∧ hasRow wx (g5 + 1) v (outB ST k) ∧ Below (g5 + 1) wr wx) (fun _ i _ => 8 - (intOf i).toNat)
          case atStart => exact ⟨0, by omega, rfl, hasRow.made wr (g5 + 1) _ _ (by omega) rfl, (Below.refl _ _).alloc (by omega) _⟩
          case round =>
           obtain ⟨k, hk, rfl, hr, hb4⟩ := hrel
           have hs4 := hb4.size
           by_cases hlt : k < 8
           · have c : wr.cell? ⟨g5, k, none⟩ = some (.int .i64 (ST k : Nat)) := (hb4.cell (p := ⟨g5, k, none⟩) (Nat.lt_succ_self g5)).trans (hc5.out k hlt)
             have hSb := hSTb k
             obtain ⟨S, hS⟩ : ∃ x, x = ST k := ⟨_, rfl⟩
             rw [← hS] at c hSb
             have hSb' : (S : Int) ≤ 4294967295 := by omega
             have HS := hide hS
             clear hS
             go_wp2_with (at_builtin; refine wpList_append_row rfl _ _ 22 rfl 5 i0 Tryz.underlying22 hi hz0 hz1 hz2 (g5 + 1) _ (outB ST k) rfl (hr.alloc _) ⟨wr.heap.size, 0, none⟩ 4 (wordB S) (by simp [wordB]) rfl (four_bytes wr S 5 hSb) ?f2 ?f3 ?_)
             case f2 => rw [outB_len]; simp [wordB]; omega
             case f3 => simp; omega
             intro v2 w2 hr2 hb2
             have hr3 : hasRow w2 (g5 + 1) v2 (outB ST (k + 1)) := by rw [← outB_succ, ← HS.out]; exact hr2
             have hb3 := (hb4.alloc (by omega) _).trans hb2
             clear hr hr2 hb2 c
             go_wp2_with fail
             go_roundw
             case rel => exact ⟨k + 1, by omega, by go_num, hr3, hb3⟩
             case measure => simp [intOf]; omega
           · have hcv := row_conv0 (P := Tryz.prog) hr Tryz.underlying22 Tryz.underlying5 Tryz.underlying9
             have hE : outB ST k = digestL t := by
              rw [show k = 8 by omega, HST.out, HM.out]; rfl
             rw [hE] at hcv
             clear hE hr
             go_wp2_with fail
             go_ret
             exact ⟨rfl, hbl5.trans (hb4.mono (by omega))⟩
  · have hq' : ¬ (L : Int) % 64 = 56 := by omega
    go_wp2_with (at_builtin; refine wpList_append_row rfl _ _ 22 rfl 5 i0 Tryz.underlying22 hi hz0 hz1 hz2 w.heap.size _ (zRow t z) rfl ((HR.out.alloc _)) ⟨wr.heap.size, 0, none⟩ 1 [0] (by simp) rfl (one_byte 0 5 _ rfl rfl) ?d2 ?d3 ?_)
    case d2 => rw [← HL.out]; have := hzz.out; simp; omega
    case d3 => simp; omega
    intro v2 w2 hr2 hb2
    rw [zRow_succ] at hr2
    have hb3 := (hbl.alloc hbl.size _).trans hb2
    obtain ⟨g2, cap2, e2, _⟩ := hr2.form
    have hl2 := zRow_len t (z + 1)
    clear HR hb2
    go_wp2_with fail
    go_roundw
    case rel => exact ⟨z + 1, by have h1 := hzz.out; have h2 := HL2.out; unfold zerosN; omega, hr2, hb3⟩
    case measure =>
     have h1 := hzz.out
     have h2 := HL2.out
     rw [hl2] at e2
     subst e2
     simp only [lenA]
     unfold zerosN
     omega
end Go.Proofs.YtconcnndghmdfaaGreatDoor
namespace Go.Proofs.YtconcnndghmdfaaGreatDoor
open Go.RowKit Go Go.Lib
theorem wpList_copy_str {P : Program} {w : World} {ops : Array Oper} {rest : List Oper} {o : Oper} {a : Act} {Q : Exit → Act → World → Prop} (hgd : o.guard = none) (d s : Operand) (dT sT : TypeId)
 (ho : o.op = .call { callee := .builtin .copy, args := #[d, s], argTypes := #[dT, sT] }) (elem : TypeId) (hu : P.underlying dT = some (.slice elem)) (hsz : (P.info? elem).map (·.size) = some 1)
 (dp : Option Addr) (dLen dCap : Nat) (hd : a.eval d = .slice dp dLen dCap) (t : ByteArray) (hs : a.eval s = .string t)
 (g off : Nat) (cur : List Value) (ty : TypeId) (hg : w.heap[g]? = some (.cells cur.toArray ty (0, 0))) (hle : t.size ≤ dLen) (hpos : 0 < t.size → dp = some ⟨g, off, none⟩)
 (hfit : off + t.size ≤ cur.length) (B : Nat) (w0 : World) (hb : Below B w0 w) (hBg : B ≤ g)
 (h : ∀ w', Hid (w'.heap[g]? = some (.cells (splice cur off (t.data.toList.map byteV)).toArray ty (0, 0))) → Below B w0 w' → wpList P ops Q rest (a.put o.dst (goInt t.size)) w') :
 wpList P ops Q (o :: rest) a w := by
 have hsz' : ((P.info? elem).map (·.size)).isSome = true := by rw [hsz]; rfl
 have hsize : t.data.toList.length = t.size := by simp
 refine wpList_plain hgd fun K hK => ?_
 by_cases h0 : t.size = 0
 · have hrun := run_copy_empty_string (P := P) w dT sT o.type elem dp dLen dCap t hu hsz' h0
   have hnil : t.data.toList = [] := List.eq_nil_of_length_eq_zero (by rw [hsize]; exact h0)
   unfold Oper.wp
   simp [execOp, ho, resolve, invoke, builtin, hd, hs, hrun, Result.andThen]
   refine hK _ _ ?_
   have := h w (show _ = _ by rw [hnil]; simpa [splice] using hg) hb
   rw [h0] at this; exact this
 · obtain rfl := hpos (by omega)
   have hrun := run_copy_row_string (P := P) w dT sT o.type elem g off dLen dCap t cur.toArray ty hu hsz hg hle (by simpa using hfit)
   unfold Oper.wp
   simp [execOp, ho, resolve, invoke, builtin, hd, hs, hrun, Result.andThen]
   refine hK _ _ (h _ (show _ = _ from ?_) (below_setRow hb hBg _))
   have hrow := setRow_heap w g _ (cur.toArray.toList.take off ++ byteCells t.data.toList ++ cur.toArray.toList.drop (off + t.size)).toArray ty _ hg
   have e : (splice cur off (t.data.toList.map byteV)).toArray = (cur.toArray.toList.take off ++ byteCells t.data.toList ++ cur.toArray.toList.drop (off + t.size)).toArray := by
    unfold splice
    rw [List.length_map, hsize, List.append_assoc]
    rfl
   rw [e]
   simpa using hrow
end Go.Proofs.YtconcnndghmdfaaGreatDoor
namespace Go.Proofs.YtconcnndghmdfaaGreatDoor
open Go Go.RowKit
def u8V (f : Nat → UInt8) (j : Nat) : Value := .int .u8 ((f j).toNat : Int)
theorem r_xor8 (a b : UInt8) : bits .xor .u8 (a.toNat : Int) (b.toNat : Int) = (((a ^^^ b).toNat : Nat) : Int) := by
 have hx : a.toNat ^^^ b.toNat < 2 ^ 8 := Nat.xor_lt_two_pow a.toNat_lt b.toNat_lt
 have ha := a.toNat_lt
 have hb := b.toNat_lt
 show IntKind.u8.wrap ((BitVec.ofInt 8 (a.toNat : Int) ^^^ BitVec.ofInt 8 (b.toNat : Int)).toNat : Int) = _
 rw [BitVec.toNat_xor, BitVec.ofInt_natCast, BitVec.ofInt_natCast, BitVec.toNat_ofNat, BitVec.toNat_ofNat, IntKind.wrap_u8, UInt8.toNat_xor, Nat.mod_eq_of_lt ha, Nat.mod_eq_of_lt hb]
 omega
theorem set_byte {wr : World} {g t n k : Nat} {f : Nat → UInt8} {X : Nat} {Y : UInt8} (h : wr.rowIs g t n (u8V f)) (hX : X = Y.toNat) : (wr.setCell ⟨g, k, none⟩ (.int .u8 (X : Int))).rowIs g t n (u8V fun j => if j = k then Y else f j) := by
 subst hX
 refine (h.set k _).congr ?_
 intro i _
 simp only [u8V]
 split <;> rfl
theorem zeros8_row (n : Nat) (w : World) (c : Array Value) (t : Nat) (hc : c = (List.replicate n (Value.int .u8 0)).toArray) : (w.alloc (.cells c t)).rowIs w.heap.size t n (u8V fun _ => 0) := by
 subst hc
 have h := World.rowIs_alloc w (List.replicate n (Value.int .u8 0)).toArray t (u8V fun _ => 0) (by
  intro i hi
  have : i < n := by simpa using hi
  rw [List.getElem?_toArray, List.getElem?_replicate, if_pos this]; rfl)
 simpa using h
theorem conv_row {P : Program} {w : World} {g e src dst cap T n : Nat} {f : Nat → UInt8} {l : List UInt8} (h : w.rowIs g T n (u8V f)) (hl : ∀ j, j < n → l[j]? = some (f j)) (hn : l.length = n) (hs : P.underlying src = some (.slice e)) (he : P.underlying e = some (.int .u8)) (hd : P.underlying dst = some .string) :
 (convert src dst (.slice (some ⟨g, 0, none⟩) n cap)).run P w = .ok (.string ⟨l.toArray⟩) w := by
 have hr := run_convert_bytes_back (P := P) w src dst e ⟨g, 0, none⟩ cap l hs he hd (fun j hj => by
  have hc := h.cell (i := j) (by omega)
  have ea : (⟨g, 0, none⟩ : Addr).add j = ⟨g, j, none⟩ := by by_cases hz : j = 0 <;> simp [Addr.add, hz]
  have e2 := hl j (by omega)
  rw [List.getElem?_eq_getElem hj] at e2
  rw [ea, hc, Option.some.inj e2]
  rfl)
 rw [hn] at hr
 exact hr
end Go.Proofs.YtconcnndghmdfaaGreatDoor
namespace Go.Proofs.YtconcnndghmdfaaGreatDoor
open Go.RowKit
theorem Tryz.infoP8 : (Tryz.prog.info? 5).map (fun i => (i.zero, i.size, i.bytes)) = some (some (.int .u8 0), 1, 1) := by kernel_rfl
theorem Tryz.sizeP8 : (Tryz.prog.info? 5).map (·.size) = some 1 := by kernel_rfl
def keyAt (key : ByteArray) (j : Nat) : UInt8 := key.data.toList.getD j 0
def padL (key : ByteArray) (m : UInt8) : List UInt8 := (List.range 64).map fun j => keyAt key j ^^^ m
theorem splice_get (n : Nat) (l : List UInt8) (i : Nat) (hi : i < n) : (Go.splice (List.replicate n (Value.int .u8 0)) 0 (l.map byteV))[i]? = some (.int .u8 ((l.getD i 0).toNat : Int)) := by
 unfold Go.splice
 rw [List.take_zero, List.nil_append, Nat.zero_add, List.length_map]
 by_cases h : i < l.length
 · rw [List.getElem?_append_left (by simpa using h)]; simp [h, byteV]
 · rw [List.getElem?_append_right (by simpa using h), List.getElem?_drop, List.length_map, List.getElem?_replicate, if_pos (by omega), List.getD_eq_getElem?_getD, List.getElem?_eq_none (by omega)]; rfl
theorem row_copied (w : World) (g t : Nat) (key : ByteArray) (hk : key.size ≤ 64) (h : w.heap[g]? = some (.cells (Go.splice (List.replicate 64 (.int .u8 0)) 0 (key.data.toList.map byteV)).toArray t (0, 0))) : w.rowIs g t 64 (u8V (keyAt key)) := by
 have hl : key.data.toList.length = key.size := by simp
 refine ⟨_, h, ?_, fun i hi => ?_⟩
 · rw [List.size_toArray, Go.length_splice _ _ _ (by rw [List.length_map, hl, List.length_replicate]; omega), List.length_replicate]
 · rw [List.getElem?_toArray]
   exact splice_get 64 _ i hi
theorem xor_step {key : ByteArray} {m : UInt8} {f : Nat → UInt8} {k : Nat} (h : ∀ j, f j = if j < k then keyAt key j ^^^ m else keyAt key j) : ∀ j, (if j = k then f k ^^^ m else f j) = if j < k + 1 then keyAt key j ^^^ m else keyAt key j := by
 intro j
 by_cases e : j = k
 · subst e; rw [if_pos rfl, if_pos (by omega), h j, if_neg (by omega)]
 · rw [if_neg e, h j]
   by_cases e2 : j < k
   · rw [if_pos e2, if_pos (by omega)]
   · rw [if_neg e2, if_neg (by omega)]
theorem pad_list {key : ByteArray} {m : UInt8} {f : Nat → UInt8} {k : Nat} (h : ∀ j, f j = if j < k then keyAt key j ^^^ m else keyAt key j) (hk : 64 ≤ k) : ∀ j, j < 64 → (padL key m)[j]? = some (f j) := by
 intro j hj
 rw [h j, if_pos (by omega)]
 simp [padL, hj]
theorem pad_conv {P : Program} {w : World} {g e src dst cap : Nat} {f : Nat → UInt8} {l : List UInt8} (h : w.rowIs g e 64 (u8V f)) (hl : ∀ j, j < 64 → l[j]? = some (f j)) (hn : l.length = 64) (hs : P.underlying src = some (.slice e)) (he : P.underlying e = some (.int .u8)) (hd : P.underlying dst = some .string) :
 (convert src dst (.slice (some ⟨g, 0, none⟩) 64 cap)).run P w = .ok (.string ⟨l.toArray⟩) w := by
 have hr := run_convert_bytes_back (P := P) w src dst e ⟨g, 0, none⟩ cap l hs he hd (fun j hj => by
  have hc := h.cell (i := j) (by omega)
  have ea : (⟨g, 0, none⟩ : Addr).add j = ⟨g, j, none⟩ := by by_cases hz : j = 0 <;> simp [Addr.add, hz]
  have e2 := hl j (by omega)
  rw [List.getElem?_eq_getElem hj] at e2
  rw [ea, hc, Option.some.inj e2]
  rfl)
 rw [hn] at hr
 exact hr
theorem padL_length (key : ByteArray) (m : UInt8) : (padL key m).length = 64 := by simp [padL]
set_option maxRecDepth 100000 in
set_option maxHeartbeats 1600000 in
theorem spec_pad (key : ByteArray) (m : UInt8) (w : World) (hk : key.size ≤ 64) :
 Calls Tryz.prog 61 #[.string key, .int .u8 (m.toNat : Int)] w fun e w' => e = .returned (.string ⟨(padL key m).toArray⟩) ∧ Below w.heap.size w w' := by
 have hmk : ∀ w : World, (Instr.makeSlice 22 (.int .i64 64) (.int .i64 64)).run Tryz.prog w = .ok (.slice (some ⟨w.heap.size, 0, none⟩) 64 64) (w.alloc (.cells (madeCells #[.int .u8 0] 64) 5)) := run_make_row' (P := Tryz.prog) 22 5 (.int .u8 0) 1 (by kernel_rfl) Tryz.infoP8 rfl .i64 .i64 64 (by omega) (by omega)
 have hmade : madeCells #[Value.int .u8 0] 64 = (List.replicate 64 (Value.int .u8 0)).toArray := by
  apply Array.toList_inj.1; rw [toList_madeCells_one]
 obtain ⟨cur, hcur⟩ : ∃ l : List Value, l = List.replicate 64 (Value.int .u8 0) := ⟨_, rfl⟩
 rw [hmade, ← hcur] at hmk
 have hcl : cur.length = 64 := by rw [hcur]; simp
 have HC := hide hcur
 clear hcur hmade
 have hm : (m.toNat : Int) ≤ 255 := by have := m.toNat_lt; omega
 go_enter Tryz.func61, Tryz.ntmps61
 go_wp2_with (refine wpList_copy_str rfl _ _ 22 9 rfl 5 Tryz.underlying22 Tryz.sizeP8 _ _ _ rfl key rfl w.heap.size 0 cur 5 (heap_alloc_new w _) hk (fun _ => rfl) (by omega) w.heap.size w ((Below.refl _ _).alloc (Nat.le_refl _) _) (Nat.le_refl _) ?_)
 intro w1 hrow hb1
 have hr1 := row_copied w1 w.heap.size 5 key hk (by rw [← HC.out]; exact hrow.out)
 clear hrow hmk HC hcl
 go_wp2_with fail
 go_loopw [6] (fun i wx => ∃ (k : Nat) (f : Nat → UInt8), k ≤ 64 ∧ i = .int .i64 k ∧ Hid (∀ j, f j = if j < k then keyAt key j ^^^ m else keyAt key j) ∧ wx.rowIs w.heap.size 5 64 (u8V f) ∧ Below w.heap.size w wx) (fun i _ => 64 - (intOf i).toNat)
 case atStart => exact ⟨0, keyAt key, by omega, rfl, fun j => by simp, hr1, hb1⟩
 case round =>
  clear hr1 hb1
  obtain ⟨k, f, hk64, rfl, hf, hr, hbl⟩ := hrel
  by_cases hlt : k < 64
  · have c : wr.cell? ⟨w.heap.size, k, none⟩ = some (.int .u8 ((f k).toNat : Int)) := hr.cell hlt
    have fz := hr.frozen k
    have hx := r_xor8 (f k) m
    have hf2 := hide (xor_step hf.out)
    go_wp2_with fail
    refine ⟨?rel, ?measure⟩
    case rel => exact ⟨k + 1, fun j => if j = k then f k ^^^ m else f j, by omega, by go_num, hf2, set_byte hr (by rw [UInt8.toNat_xor]), hbl.setCell (Nat.le_refl _) _⟩
    case measure => simp [intOf]; omega
  · have hcv := pad_conv (P := Tryz.prog) (cap := 64) hr (pad_list hf.out (by omega)) (padL_length key m) Tryz.underlying22 Tryz.underlying5 Tryz.underlying9
    go_wp2_with fail
    go_ret
    exact ⟨rfl, hbl⟩
def digestT (t : ByteArray) : ByteArray := ⟨(digestL t).toArray⟩
def padT (key : ByteArray) (m : UInt8) : ByteArray := ⟨(padL key m).toArray⟩
def keyT (key : ByteArray) : ByteArray := if key.size ≤ 64 then key else digestT key
def macT (key text : ByteArray) : ByteArray := digestT (padT (keyT key) 92 ++ digestT (padT (keyT key) 54 ++ text))
theorem digestT_size (t : ByteArray) : (digestT t).size = 32 := by rw [digestT, size_mk, digestL, outB_len]
theorem padT_size (key : ByteArray) (m : UInt8) : (padT key m).size = 64 := by rw [padT, size_mk, padL_length]
theorem macT_size (key text : ByteArray) : (macT key text).size = 32 := digestT_size _
def stretchT (pass : ByteArray) : Nat → ByteArray
 | 0 => ⟨#[115, 97, 108, 116]⟩
 | n + 1 => macT pass (stretchT pass n)
theorem stretchT_size (pass : ByteArray) : ∀ n, (stretchT pass n).size ≤ 32
 | 0 => by show (4 : Nat) ≤ 32; omega
 | n + 1 => by rw [stretchT, macT_size]; exact Nat.le_refl _
theorem spec_allT (t : ByteArray) (w : World) (ht : t.size ≤ 4194304) :
 Calls Tryz.prog 60 #[.string t] w fun e w' => e = .returned (.string (digestT t)) ∧ Below w.heap.size w w' := spec_all t w ht
theorem spec_padT (key : ByteArray) (m : UInt8) (M : Int) (hM : M = (m.toNat : Int)) (w : World) (hk : key.size ≤ 64) :
 Calls Tryz.prog 61 #[.string key, .int .u8 M] w fun e w' => e = .returned (.string (padT key m)) ∧ Below w.heap.size w w' := by
 subst hM; exact spec_pad key m w hk
theorem below3 {w w1 w2 : World} (h : Below w.heap.size w w1) (h2 : Below w1.heap.size w1 w2) : Below w.heap.size w w2 := h.trans (h2.mono h.size)
set_option maxRecDepth 100000 in
set_option maxHeartbeats 1600000 in
theorem spec_mac (key text : ByteArray) (w : World) (hk : key.size ≤ 20000) (ht : text.size ≤ 20000) :
 Calls Tryz.prog 34 #[.string key, .string text] w fun e w' => e = .returned (.string (macT key text)) ∧ Below w.heap.size w w' := by
 have hin : ∀ (K : ByteArray) (wx : World), K.size ≤ 64 → (padT K 54 ++ text).size ≤ 4194304 ∧ (padT K 92 ++ digestT (padT K 54 ++ text)).size ≤ 4194304 := by
  intro K _ _
  rw [ByteArray.size_append, ByteArray.size_append, padT_size, padT_size, digestT_size]; omega
 by_cases h64 : key.size ≤ 64
 · have hK : keyT key = key := if_pos h64
   have hlt : ¬ (64 : Int) < key.size := by omega
   have hE := hide (show macT key text = digestT (padT key 92 ++ digestT (padT key 54 ++ text)) by rw [macT, hK])
   obtain ⟨hs1, hs2⟩ := hin key w h64
   have z1 := padT_size key 54
   have z2 := padT_size key 92
   have z3 := digestT_size (padT key 54 ++ text)
   clear hK hin
   go_enter Tryz.func34, Tryz.ntmps34
   go_wp2_with fail
   refine (spec_padT key 92 92 rfl _ h64).mono ?_
   rintro e w1 ⟨rfl, hb1⟩
   go_wp2_with fail
   refine (spec_padT key 54 54 rfl _ h64).mono ?_
   rintro e w2 ⟨rfl, hb2⟩
   go_wp2_with fail
   refine (spec_allT (padT key 54 ++ text) _ hs1).mono ?_
   rintro e w3 ⟨rfl, hb3⟩
   go_wp2_with fail
   refine (spec_allT (padT key 92 ++ digestT (padT key 54 ++ text)) _ hs2).mono ?_
   rintro e w4 ⟨rfl, hb4⟩
   go_wp2_with fail
   go_ret
   exact ⟨by rw [hE.out]; rfl, below3 (below3 (below3 hb1 hb2) hb3) hb4⟩
 · have hK : keyT key = digestT key := if_neg h64
   have hlt : (64 : Int) < key.size := by omega
   have hE := hide (show macT key text = digestT (padT (digestT key) 92 ++ digestT (padT (digestT key) 54 ++ text)) by rw [macT, hK])
   have hd := digestT_size key
   obtain ⟨hs1, hs2⟩ := hin (digestT key) w (by omega)
   have z1 := padT_size (digestT key) 54
   have z2 := padT_size (digestT key) 92
   have z3 := digestT_size (padT (digestT key) 54 ++ text)
   clear hK hin
   go_enter Tryz.func34, Tryz.ntmps34
   go_wp2_with fail
   refine (spec_allT key _ (by omega)).mono ?_
   rintro e w0 ⟨rfl, hb0⟩
   go_wp2_with fail
   refine (spec_padT (digestT key) 92 92 rfl _ (by omega)).mono ?_
   rintro e w1 ⟨rfl, hb1⟩
   go_wp2_with fail
   refine (spec_padT (digestT key) 54 54 rfl _ (by omega)).mono ?_
   rintro e w2 ⟨rfl, hb2⟩
   go_wp2_with fail
   refine (spec_allT (padT (digestT key) 54 ++ text) _ hs1).mono ?_
   rintro e w3 ⟨rfl, hb3⟩
   go_wp2_with fail
   refine (spec_allT (padT (digestT key) 92 ++ digestT (padT (digestT key) 54 ++ text)) _ hs2).mono ?_
   rintro e w4 ⟨rfl, hb4⟩
   go_wp2_with fail
   go_ret
   exact ⟨by rw [hE.out]; rfl, below3 (below3 (below3 (below3 hb0 hb1) hb2) hb3) hb4⟩
def macS (key text : ByteArray) : ByteArray := if key.size ≤ 20000 ∧ text.size ≤ 20000 then macT key text else ⟨#[]⟩
def stretchS (pass : ByteArray) (n : Int) : ByteArray := if pass.size ≤ 20000 ∧ 1 ≤ n ∧ n ≤ 100 then stretchT pass n.toNat else ⟨#[]⟩
def keysV (k : ByteArray × ByteArray) : Value := .agg #[.string k.1, .string k.2]
def keysOk (k : ByteArray × ByteArray) : Bool := decide (k.1.size = 16) && decide (k.2.size = 32)
def idOk (id : Int) : Bool := decide (0 ≤ id) && decide (id ≤ 2000000)
theorem keys_cells {n g T : Nat} {W w1 : World} {x0 x1 : Value} (hb : Below n W w1) (hg : g < n) (hW : W.heap[g]? = some (.cells #[x0, x1] T (0, 0))) :
 w1.cell? ⟨g, 0, none⟩ = some x0 ∧ w1.cell? ⟨g, 1, none⟩ = some x1 ∧ (∀ o, w1.frozen? ⟨g, o, none⟩ = false) ∧ w1.heap[g]? = some (.cells #[x0, x1] T (0, 0)) := by
 have h := (hb.block g hg).trans hW
 refine ⟨by simp [World.cell?, h], by simp [World.cell?, h], fun o => by simp [World.frozen?, h], h⟩
theorem keys_set {w1 : World} {g T : Nat} {x0 x1 a b : Value} (h : w1.heap[g]? = some (.cells #[x0, x1] T (0, 0))) :
 ((w1.setCell ⟨g, 0, none⟩ a).setCell ⟨g, 1, none⟩ b).heap[g]? = some (.cells #[a, b] T (0, 0)) := by simp [World.setCell, Array.getElem?_modify, h]
theorem keys_below {w w1 : World} {o : Obj} {a b : Value} (hb : Below (w.heap.size + 1) (w.alloc o) w1) :
 Below w.heap.size w ((w1.setCell ⟨w.heap.size, 0, none⟩ a).setCell ⟨w.heap.size, 1, none⟩ b) :=
 ((((Below.refl _ _).alloc (Nat.le_refl _) o).trans (hb.mono (Nat.le_succ _))).setCell (Nat.le_refl _) _).setCell (Nat.le_refl _) _
theorem run_front {P : Program} (w : World) (t : TypeId) (s : ByteArray) (A : Nat) (h : P.underlying t = some .string) (hS : A ≤ s.size) :
 (Instr.slice t (.string s) none (some (.int .i64 (A : Int))) none).run P w = .ok (.string (s.extract 0 A)) w := by
 rw [run_slice_string_to_if w t s .i64 _ h, if_pos (by omega), Int.toNat_natCast]
theorem run_back {P : Program} (w : World) (t : TypeId) (s : ByteArray) (A : Nat) (h : P.underlying t = some .string) (hS : A ≤ s.size) :
 (Instr.slice t (.string s) (some (.int .i64 (A : Int))) none none).run P w = .ok (.string (s.extract A s.size)) w := by
 rw [run_slice_string_from_if w t s .i64 _ h, if_pos (by omega), Int.toNat_natCast]
def hideW : ByteArray := ⟨#[104, 105, 100, 101]⟩
def markW : ByteArray := ⟨#[109, 97, 114, 107]⟩
def take16 (t : ByteArray) : ByteArray := t.extract 0 16
theorem take16_size (t : ByteArray) (h : 16 ≤ t.size) : (take16 t).size = 16 := by
 unfold take16; rw [ByteArray.size_extract]; omega
def keysT (pass : ByteArray) : ByteArray × ByteArray := (take16 (macT (stretchS pass 3) hideW), macT (stretchS pass 3) markW)
def keysS (pass : ByteArray) : ByteArray × ByteArray := if pass.size ≤ 20000 then keysT pass else (⟨#[]⟩, ⟨#[]⟩)
theorem stretchS_size (pass : ByteArray) (n : Int) : (stretchS pass n).size ≤ 32 := by
 unfold stretchS
 split
 · exact stretchT_size _ _
 · exact Nat.zero_le _
theorem keysT_ok (pass : ByteArray) : keysOk (keysT pass) = true := by
 have h1 : (keysT pass).1.size = 16 := take16_size _ (by rw [macT_size]; decide)
 have h2 : (keysT pass).2.size = 32 := macT_size _ _
 unfold keysOk
 rw [h1, h2]
 rfl
end Go.Proofs.YtconcnndghmdfaaGreatDoor

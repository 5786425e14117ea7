/- The walk over the law FnRange. -/
import Derived.Test.YtdoodkabmeojmaaRngO
import Derived.Test.YtdoodkabmeojmaaRngD
import Derived.Test.YtdoodkabmeojmaaDrawRng
import Derived.Test.YtdoodkabmeojmaaFnRangeM
import Derived.BigRegion
import Derived.BigQuiet
import Derived.Deep.QuietTactic
import Derived.Test.YtdoodkabmeojmaaLwV
namespace Go.Proofs.Ytdoodkabmeojmaa
open Go.RowKit
set_option maxRecDepth 100000 in
set_option maxHeartbeats 3200000 in
theorem fnRange_main (a0 : Option Addr) (len0 cap0 : Nat) (a1 : Option Addr) (len1 cap1 : Nat) (w : World) (hl0 : len0 ≤ 1048576) (hl1 : len1 ≤ 1048576) (hc1 : len1 ≤ cap1) (hb0 : BytesIn w w.heap.size a0 len0) (hb1 : BytesIn w w.heap.size a1 len1) :
    Calls Try.prog 3 #[.slice a0 len0 cap0, .slice a1 len1 cap1] w fun e w' => e = .returned (.bool true) ∧ Below w.heap.size w w' := by
  obtain ⟨i0, hi, hz0, hz1, hz2⟩ := info_parts Try.infoI64r
  have h0' : ¬ (1048576 : Int) < (len0 : Int) := by omega
  have h0d : decide ((1048576 : Int) < (len0 : Int)) = false := decide_eq_false h0'
  have h1' : ¬ (1048576 : Int) < (len1 : Int) := by omega
  have HB0 := hide hb0
  have HB1 := hide hb1
  clear hb0 hb1
  go_enter Try.func3, Try.ntmps3
  go_wp2_with fail
  refine (drawRangeEncode_any _ a0 len0 cap0 hl0 HB0.out).mono ?_
  rintro e w1 ⟨v, l, rfl, hl, hbI, hg1⟩
  have B1 := hide (grownBy_toBelow hg1)
  have HBI := hide hbI
  obtain ⟨va, vcap, hv, hvc, _⟩ := hbI
  rw [hv] at HBI ⊢
  have hvc' : (l.length : Int) ≤ (vcap : Int) := by omega
  clear HB0 hg1 hv
  have SI := hide (imp_rangeEncode _ l w1 (by omega) HBI.out)
  go_wp2_with fail
  refine SI.out.mono ?_
  rintro e w2 ⟨rfl, hb2⟩
  have B2 := hide (B1.out.trans (hb2.mono B1.out.size))
  have HBI2 := hide ((HBI.out.below hb2).wide hb2.size)
  have SS := hide (spec_rangeEncode _ l w2 (by omega) HBI2.out)
  obtain ⟨t, ht⟩ : ∃ t, t = encS l := ⟨_, rfl⟩
  rw [← ht] at SS ⊢
  have HT := hide ht
  have st : (t.toList == t.toList) = true := str_eq rfl
  clear B1 hb2 HBI SI ht
  go_wp2_with fail
  refine SS.out.mono ?_
  rintro e w3 ⟨rfl, hb3⟩
  have B3 := hide (B2.out.trans (hb3.mono B2.out.size))
  have HBI3 := hide ((HBI2.out.below hb3).wide hb3.size)
  clear B2 hb3 HBI2 SS
  rcases encS_cases l with hE | ⟨hE, hall, hcode⟩
  · rw [← HT.out] at hE
    subst hE
    go_wp2_with fail
    go_ret
    exact ⟨rfl, B3.out⟩
  · rw [← HT.out] at hE hcode
    have hne : (t.toList == []) = false := by have h := str_ne hE; rwa [empty_list] at h
    have hts := encS_size l
    rw [← HT.out] at hts
    have HALL := hide hall
    have HCODE := hide hcode
    clear hE hall hcode
    go_wp2_with fail
    have hown0 := (show (w3.alloc (.cells #[] 2)).ownsRow w3.heap.size 2 1 (.slice (some ⟨w3.heap.size, 0, none⟩) 0 0) 0 [] by
      have h := World.ownsRow_made (e := 2) (size := 1) (base := w3.heap.size) w3 #[] 0 (Nat.le_refl _) (by decide) (by simp)
      simpa using h)
    have hb0 := hide ((Below.refl w3.heap.size w3).alloc (Nat.le_refl _) (.cells #[] 2))
    generalize w3.alloc (.cells #[] 2) = W0 at *
    go_loopw [7, 8] (fun cv i wx => ∃ k : Nat, k ≤ l.length ∧ i = .int .i64 k ∧ wx.ownsRow w3.heap.size 2 1 cv k (fstC (l.take k)) ∧ Hid (Below w3.heap.size w3 wx)) (fun _ i _ => l.length - (intOf i).toNat)
    case atStart => exact ⟨0, by omega, rfl, hown0, hb0⟩
    case round =>
      clear hown0 hb0
      obtain ⟨k, hk, rfl, hown, hbl⟩ := hrel
      by_cases hlt : k < l.length
      · have hlt' : (k : Int) < (l.length : Int) := by omega
        obtain ⟨x, hx⟩ : ∃ x, l[k]? = some x := ⟨_, List.getElem?_eq_getElem hlt⟩
        obtain ⟨va2, vcap2, e2, _, h0 | ⟨r, o, rfl, hr, hcells⟩⟩ := HBI3.out
        · rw [h0] at hlt; simp at hlt
        cases e2
        obtain ⟨x1, x2⟩ := hcells k x hx
        obtain ⟨q, hq⟩ : ∃ q, q = o + 2 * k := ⟨_, rfl⟩
        rw [← hq] at x1
        have y1 := (hbl.out.cell (p := ⟨r, q, none⟩) hr).trans x1
        have n1 : o + 2 * k = q := hq.symm
        have n2 : o + k * 2 = q := by omega
        have htk := hide (show fstC (l.take (k + 1)) = fstC (l.take k) ++ [.int .i64 x.1] by
          unfold fstC
          rw [List.take_succ_eq_append_getElem hlt, List.map_append]
          rw [List.getElem?_eq_getElem hlt] at hx
          rw [Option.some.inj hx]; rfl)
        obtain ⟨c, b⟩ := x
        simp only at y1 htk
        have hbs := hbl.out.size
        clear hcells hx x1 x2 hq
        go_wp2_with (at_builtin; refine wpList_append_lies _ rfl _ _ 26 rfl w3.heap.size 2 i0 (.int .i64 0) 1 8 Try.underlying26 hi hz0 hz1 hz2 rfl (by omega) u7 k _ rfl (hown.alloc _) ⟨wr.heap.size, 0, none⟩ 1 1 [.int .i64 c] rfl rfl (one_cell wr _ _) (one_oneCell .i64 _) (by omega) (by unfold maxLen; omega) (by omega) (by simp; omega) (wr.heap.size + 1) (by simp) ?_)
        intro g' cap' w4 hown' hg' hat' hlt3
        have R1 : w4.ownsRow w3.heap.size 2 1 (.slice (some ⟨g', 0, none⟩) (k + 1) cap') (k + 1) (fstC (l.take (k + 1))) := by
          rw [htk.out]; exact hown'
        have R5 := hide ((hbl.out.alloc hbs _).grown hg' (by simp; omega) (fun x hx => (hown.lt x hx).1))
        clear hown' hg' hat' hlt3 hown hbl htk y1 n1 n2
        go_wp2_with fail
        go_roundw
        case rel => exact ⟨k + 1, by omega, by go_num, R1, R5⟩
        case measure => simp [intOf]; omega
      · have hlt' : ¬ (k : Int) < (l.length : Int) := by omega
        rw [List.take_of_length_le (by omega)] at hown
        have ek : k = l.length := by omega
        have HC := hide (show CtxAt wr wr.heap.size u7 (l.map (·.1)) from own_ctx (by rw [ek] at hown; exact hown))
        have B4 := hide (B3.out.trans (hbl.out.mono B3.out.size))
        have HBI4 := hide ((HBI3.out.below hbl.out).wide hbl.out.size)
        have HBY := hide (HB1.out.below B4.out (Nat.le_refl _))
        clear hown ek hbl B3 HBI3
        obtain ⟨m, hm⟩ : ∃ m, m = min len1 20 := ⟨_, rfl⟩
        obtain ⟨b, hbs, hcv⟩ := bytes_conv (P := Try.prog) (cap := cap1) (HBY.out.less (show m ≤ len1 by omega)) Try.underlying22 Try.underlying5 Try.underlying9
        have hb20 : b.size ≤ 20 := by omega
        have DB := dec_back l b hl hb20 HALL.out
        rw [← HCODE.out] at DB
        have SD := hide (imp_rangeDecode (t ++ b) _ (l.map (·.1)) wr (by rw [ByteArray.size_append]; omega) (by rw [List.length_map]; omega) HC.out)
        rw [DB] at SD
        have ht300 : t.size ≤ 300 := by omega
        have hlen2 := hide (show (l.map (·.2)).length = l.length by rw [List.length_map])
        rw [hlen2.out] at SD
        clear DB HALL HCODE hts HT
        by_cases h20 : 20 < len1
        · have h20' : (20 : Int) < (len1 : Int) := by omega
          have hm20 : m = 20 := by omega
          clear hm
          subst hm20
          clear hbs
          have hc20 : (20 : Int) ≤ (cap1 : Int) := by omega
          go_wp2_with fail
          refine SD.out.mono ?_
          rintro e w5 ⟨ob, rfl, own5, hb5⟩
          have B5 := hide (B4.out.trans (hb5.mono B4.out.size))
          have HBI5 := hide ((HBI4.out.below hb5).wide hb5.size)
          obtain ⟨ao, ocap, rfl, hoc, hcell⟩ := valV.of_own (f := fun j => .bool ((l.map (·.2)).getD j false)) own5 (fun j hj => by rw [List.getElem?_map, List.getD_eq_getElem?_getD, List.getElem?_eq_getElem (by rw [List.length_map]; exact hj)]; rfl)
          have HCELL := hide hcell
          have hoc' : (l.length : Int) ≤ (ocap : Int) := by omega
          clear hb5 HBI4 B4 SD own5 hcell hcv HC HBY
          go_wp2_with fail
          go_loopw [11] (fun i wx => ∃ k : Nat, k ≤ l.length ∧ i = .int .i64 k ∧ Hid (Below w5.heap.size w5 wx)) (fun i _ => l.length - (intOf i).toNat)
          case atStart => exact ⟨0, by omega, rfl, Below.refl _ _⟩
          case round =>
            obtain ⟨k, hk, rfl, hbl⟩ := hrel
            by_cases hlt : k < l.length
            · have hlt' : (k : Int) < (l.length : Int) := by omega
              obtain ⟨x, hx⟩ : ∃ x, l[k]? = some x := ⟨_, List.getElem?_eq_getElem hlt⟩
              obtain ⟨va2, vcap2, e2, _, h0 | ⟨r, o, rfl, hr, hcells⟩⟩ := HBI5.out
              · rw [h0] at hlt; simp at hlt
              cases e2
              obtain h0 | ⟨go, rfl, hgo, hcs⟩ := HCELL.out
              · omega
              obtain ⟨x1, x2⟩ := hcells k x hx
              obtain ⟨q, hq⟩ : ∃ q, q = o + 2 * k := ⟨_, rfl⟩
              rw [← hq] at x2
              have y2 := (hbl.out.cell (p := ⟨r, q + 1, none⟩) hr).trans x2
              have y3 : wr.cell? ⟨go, k, none⟩ = some (.bool x.2) := by
                refine (hbl.out.cell (p := ⟨go, k, none⟩) hgo).trans ((hcs k hlt).1.trans ?_)
                rw [List.getD_eq_getElem?_getD, List.getElem?_map, hx]; rfl
              have n1 : o + 2 * k = q := hq.symm
              have n2 : o + k * 2 = q := by omega
              obtain ⟨c, bb⟩ := x
              simp only at y2 y3
              clear hcells hcs hx x1 x2 hq HCELL HBI5
              go_wp2_with fail
              go_quiet (fail)
              have B6 := hide (show Below w5.heap.size w5 (wr.drewN nq) from hbl.out.trans ⟨rfl, rfl, rfl, Nat.le_refl _, fun _ _ => rfl⟩)
              clear hbl
              go_wp2_with fail
              go_roundw
              case rel => exact ⟨k + 1, by omega, by go_num, B6⟩
              case measure => simp [intOf]; omega
            · have hlt' : ¬ (k : Int) < (l.length : Int) := by omega
              have B6 := hide (B5.out.trans (hbl.out.mono B5.out.size))
              clear hbl B5 HBI5 HCELL
              go_wp2_with fail
              refine (drawRangeDecode_any _ a1 _ cap1 hl1 ((HB1.out.below B6.out (Nat.le_refl _)).wide B6.out.size)).mono ?_
              rintro e w7 ⟨u, dv, c, rfl, hu, hc, hctx, hg7⟩
              have B7 := hide (B6.out.trans ((grownBy_toBelow hg7).mono B6.out.size))
              have HX := hide hctx
              clear B6 hg7 hctx
              go_wp2_with fail
              refine (imp_rangeDecode u dv c w7 (by omega) (by omega) HX.out).mono ?_
              rintro e w8 ⟨o1, rfl, own8, hb8⟩
              have B8 := hide (B7.out.trans (hb8.mono B7.out.size))
              have HX8 := hide ((HX.out.below hb8).wide hb8.size)
              obtain ⟨p1, c1, e1⟩ : ∃ p1 c1, o1 = .slice p1 (decS u c).length c1 := by obtain ⟨p1, c1, e, _⟩ := valV.of_own (f := fun j => ((decS u c).map Value.bool).getD j (.bool false)) own8 (fun j hj => by rw [List.getD_eq_getElem?_getD, List.getElem?_eq_getElem (by rw [List.length_map]; exact hj)]; rfl); exact ⟨p1, c1, e⟩
              rw [e1]
              clear B7 hb8 HX own8 e1
              go_wp2_with fail
              refine (spec_rangeDecode u dv c w8 (by omega) (by omega) HX8.out).mono ?_
              rintro e w9 ⟨o2, rfl, own9, hb9⟩
              have B9 := hide (B8.out.trans (hb9.mono B8.out.size))
              obtain ⟨p2, c2, e2⟩ : ∃ p1 c1, o2 = .slice p1 (decS u c).length c1 := by obtain ⟨p1, c1, e, _⟩ := valV.of_own (f := fun j => ((decS u c).map Value.bool).getD j (.bool false)) own9 (fun j hj => by rw [List.getD_eq_getElem?_getD, List.getElem?_eq_getElem (by rw [List.length_map]; exact hj)]; rfl); exact ⟨p1, c1, e⟩
              rw [e2]
              clear B8 hb9 HX8 own9 e2
              go_wp2_with fail
              go_ret
              exact ⟨ret_bool (by simp), B9.out⟩
        · have h20' : ¬ (20 : Int) < (len1 : Int) := by omega
          have hm20 : m = len1 := by omega
          clear hm
          subst hm20
          clear hbs
          go_wp2_with fail
          refine SD.out.mono ?_
          rintro e w5 ⟨ob, rfl, own5, hb5⟩
          have B5 := hide (B4.out.trans (hb5.mono B4.out.size))
          have HBI5 := hide ((HBI4.out.below hb5).wide hb5.size)
          obtain ⟨ao, ocap, rfl, hoc, hcell⟩ := valV.of_own (f := fun j => .bool ((l.map (·.2)).getD j false)) own5 (fun j hj => by rw [List.getElem?_map, List.getD_eq_getElem?_getD, List.getElem?_eq_getElem (by rw [List.length_map]; exact hj)]; rfl)
          have HCELL := hide hcell
          have hoc' : (l.length : Int) ≤ (ocap : Int) := by omega
          clear hb5 HBI4 B4 SD own5 hcell hcv HC HBY
          go_wp2_with fail
          go_loopw [11] (fun i wx => ∃ k : Nat, k ≤ l.length ∧ i = .int .i64 k ∧ Hid (Below w5.heap.size w5 wx)) (fun i _ => l.length - (intOf i).toNat)
          case atStart => exact ⟨0, by omega, rfl, Below.refl _ _⟩
          case round =>
            obtain ⟨k, hk, rfl, hbl⟩ := hrel
            by_cases hlt : k < l.length
            · have hlt' : (k : Int) < (l.length : Int) := by omega
              obtain ⟨x, hx⟩ : ∃ x, l[k]? = some x := ⟨_, List.getElem?_eq_getElem hlt⟩
              obtain ⟨va2, vcap2, e2, _, h0 | ⟨r, o, rfl, hr, hcells⟩⟩ := HBI5.out
              · rw [h0] at hlt; simp at hlt
              cases e2
              obtain h0 | ⟨go, rfl, hgo, hcs⟩ := HCELL.out
              · omega
              obtain ⟨x1, x2⟩ := hcells k x hx
              obtain ⟨q, hq⟩ : ∃ q, q = o + 2 * k := ⟨_, rfl⟩
              rw [← hq] at x2
              have y2 := (hbl.out.cell (p := ⟨r, q + 1, none⟩) hr).trans x2
              have y3 : wr.cell? ⟨go, k, none⟩ = some (.bool x.2) := by
                refine (hbl.out.cell (p := ⟨go, k, none⟩) hgo).trans ((hcs k hlt).1.trans ?_)
                rw [List.getD_eq_getElem?_getD, List.getElem?_map, hx]; rfl
              have n1 : o + 2 * k = q := hq.symm
              have n2 : o + k * 2 = q := by omega
              obtain ⟨c, bb⟩ := x
              simp only at y2 y3
              clear hcells hcs hx x1 x2 hq HCELL HBI5
              go_wp2_with fail
              go_quiet (fail)
              have B6 := hide (show Below w5.heap.size w5 (wr.drewN nq) from hbl.out.trans ⟨rfl, rfl, rfl, Nat.le_refl _, fun _ _ => rfl⟩)
              clear hbl
              go_wp2_with fail
              go_roundw
              case rel => exact ⟨k + 1, by omega, by go_num, B6⟩
              case measure => simp [intOf]; omega
            · have hlt' : ¬ (k : Int) < (l.length : Int) := by omega
              have B6 := hide (B5.out.trans (hbl.out.mono B5.out.size))
              clear hbl B5 HBI5 HCELL
              go_wp2_with fail
              refine (drawRangeDecode_any _ a1 _ cap1 hl1 ((HB1.out.below B6.out (Nat.le_refl _)).wide B6.out.size)).mono ?_
              rintro e w7 ⟨u, dv, c, rfl, hu, hc, hctx, hg7⟩
              have B7 := hide (B6.out.trans ((grownBy_toBelow hg7).mono B6.out.size))
              have HX := hide hctx
              clear B6 hg7 hctx
              go_wp2_with fail
              refine (imp_rangeDecode u dv c w7 (by omega) (by omega) HX.out).mono ?_
              rintro e w8 ⟨o1, rfl, own8, hb8⟩
              have B8 := hide (B7.out.trans (hb8.mono B7.out.size))
              have HX8 := hide ((HX.out.below hb8).wide hb8.size)
              obtain ⟨p1, c1, e1⟩ : ∃ p1 c1, o1 = .slice p1 (decS u c).length c1 := by obtain ⟨p1, c1, e, _⟩ := valV.of_own (f := fun j => ((decS u c).map Value.bool).getD j (.bool false)) own8 (fun j hj => by rw [List.getD_eq_getElem?_getD, List.getElem?_eq_getElem (by rw [List.length_map]; exact hj)]; rfl); exact ⟨p1, c1, e⟩
              rw [e1]
              clear B7 hb8 HX own8 e1
              go_wp2_with fail
              refine (spec_rangeDecode u dv c w8 (by omega) (by omega) HX8.out).mono ?_
              rintro e w9 ⟨o2, rfl, own9, hb9⟩
              have B9 := hide (B8.out.trans (hb9.mono B8.out.size))
              obtain ⟨p2, c2, e2⟩ : ∃ p1 c1, o2 = .slice p1 (decS u c).length c1 := by obtain ⟨p1, c1, e, _⟩ := valV.of_own (f := fun j => ((decS u c).map Value.bool).getD j (.bool false)) own9 (fun j hj => by rw [List.getD_eq_getElem?_getD, List.getElem?_eq_getElem (by rw [List.length_map]; exact hj)]; rfl); exact ⟨p1, c1, e⟩
              rw [e2]
              clear B8 hb9 HX8 own9 e2
              go_wp2_with fail
              go_ret
              exact ⟨ret_bool (by simp), B9.out⟩
set_option maxRecDepth 100000 in
set_option maxHeartbeats 800000 in
theorem fnRange_walk (a0 : Option Addr) (len0 cap0 : Nat) (z0 : List Int) (a1 : Option Addr) (len1 cap1 : Nat) (z1 : List Int) (w : World) (w0 : IsRow .u8 w a0 len0 cap0 z0) (w1 : IsRow .u8 w a1 len1 cap1 z1) :
    Calls Try.prog 3 #[.slice a0 len0 cap0, .slice a1 len1 cap1] w fun e w' => e = .returned (.bool true) ∧ Below w.heap.size w w' := by
  have hb0 := bytesIn_of_row w0
  have hb1 := bytesIn_of_row w1
  have hm0 : len0 ≤ 9223372036854775807 := by
    rcases w0 with ⟨_, h, _⟩ | ⟨x, _, h, h2, _⟩
    · omega
    · unfold maxLen at h2; omega
  have hm1 : len1 ≤ 9223372036854775807 ∧ len1 ≤ cap1 := by
    rcases w1 with ⟨_, h, h2, _⟩ | ⟨x, _, h, h2, _⟩
    · omega
    · unfold maxLen at h2; omega
  clear w0 w1
  by_cases h0 : 1048576 < len0
  · have h0' : (1048576 : Int) < (len0 : Int) := by omega
    have h0d : decide ((1048576 : Int) < (len0 : Int)) = true := decide_eq_true h0'
    clear hb0 hb1
    go_enter Try.func3, Try.ntmps3
    go_wp2_with fail
    go_ret
    exact ⟨rfl, Below.refl _ _⟩
  · by_cases h1 : 1048576 < len1
    · have h0' : ¬ (1048576 : Int) < (len0 : Int) := by omega
      have h0d : decide ((1048576 : Int) < (len0 : Int)) = false := decide_eq_false h0'
      have h1' : (1048576 : Int) < (len1 : Int) := by omega
      clear hb0 hb1
      go_enter Try.func3, Try.ntmps3
      go_wp2_with fail
      go_ret
      exact ⟨rfl, Below.refl _ _⟩
    · exact fnRange_main a0 len0 cap0 a1 len1 cap1 w (by omega) (by omega) hm1.2 hb0 hb1
end Go.Proofs.Ytdoodkabmeojmaa

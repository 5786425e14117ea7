/- The walk over the law FnMatch. (It rests on ImpMat: imp_tokenRight, imp_parse, imp_expand.) -/
import Derived.Test.YtdoodkabmeojmaaImpPar
import Derived.Test.YtdoodkabmeojmaaImpExp
import Derived.Test.YtdoodkabmeojmaaMatchH
import Derived.Test.YtdoodkabmeojmaaMatchE
import Derived.Test.YtdoodkabmeojmaaDrawExp
import Derived.BigRegion
namespace Go.Proofs.Ytdoodkabmeojmaa
open Go.RowKit
theorem BytesIn.wideM {w : World} {B B' : Nat} {a : Option Addr} {len : Nat} (h : BytesIn w B a len) (hB : B ≤ B') : BytesIn w B' a len := by
  rcases h with h | ⟨b, off, rfl, hb, hc⟩
  · exact .inl h
  · exact .inr ⟨b, off, rfl, Nat.lt_of_lt_of_le hb hB, hc⟩
theorem upto_self (t : ByteArray) : (⟨(upto (bF t) t.size).toArray⟩ : ByteArray) = t := by
  apply ByteArray.ext
  rw [← Array.toList_inj]
  show (upto (bF t) t.size).toArray.toList = _
  rw [List.toList_toArray]
  apply List.ext_getElem?
  intro j
  by_cases hj : j < t.size
  · rw [bF_at t t.size rfl j hj]; simp [upto, hj]
  · have e : t.data.toList.length = t.size := rfl
    rw [List.getElem?_eq_none (by rw [upto_len]; omega), List.getElem?_eq_none (by omega)]
theorem exp_par (t : ByteArray) (h : t.size ≤ 4000) : expS (parS t) = t := by
  have hl := (parS_len t).1
  unfold expS
  rw [if_pos (by omega)]
  have hp : parS t = parseL (bF t) t.size := if_pos h
  rw [hp, parse_all]
  show (if (upto (bF t) t.size).length ≤ 20000 then (⟨(upto (bF t) t.size).toArray⟩ : ByteArray) else ⟨#[]⟩) = t
  rw [upto_len, if_pos (by omega), upto_self]
theorem par_ok (t : ByteArray) : ∀ x ∈ parS t, tokOk x = true := by
  intro x hx
  unfold parS at hx
  split at hx
  · exact parseG_ok _ _ _ _ x hx
  · cases hx
set_option maxRecDepth 100000 in
set_option maxHeartbeats 3200000 in
theorem fnMatch_main (a0 : Option Addr) (len0 cap0 : Nat) (a1 : Option Addr) (len1 cap1 : Nat) (w : World) (hl0 : len0 ≤ 1048576) (hl1 : len1 ≤ 1048576) (hb0 : BytesIn w w.heap.size a0 len0) (hb1 : BytesIn w w.heap.size a1 len1) :
    Calls Try.prog 4 #[.slice a0 len0 cap0, .slice a1 len1 cap1] w fun e w' => e = .returned (.bool true) ∧ Below w.heap.size w w' := by
  have h0' : ¬ (1048576 : Int) < (len0 : Int) := by omega
  have h0d : decide ((1048576 : Int) < (len0 : Int)) = false := decide_eq_false h0'
  have h1' : ¬ (1048576 : Int) < (len1 : Int) := by omega
  have HB0 := hide hb0
  have HB1 := hide hb1
  clear hb0 hb1
  go_enter Try.func4, Try.ntmps4
  go_wp2_with fail
  refine (drawParse_any _ a0 len0 cap0 hl0 HB0.out).mono ?_
  rintro e w1 ⟨t, rfl, ht, hg1⟩
  have B1 := hide (grownBy_toBelow hg1)
  have SP := hide (And.intro (fun w => imp_parse t w (by omega)) (fun w => spec_parse t w (by omega)))
  have hpl := parS_len t
  have HOK := hide (par_ok t)
  have HEP := hide (exp_par t)
  generalize parS t = l at *
  clear HB0 hg1
  go_wp2_with fail
  refine (SP.out.1 _).mono ?_
  rintro e w2 ⟨v, rfl, own2, hb2⟩
  have B2 := hide (B1.out.trans (hb2.mono B1.out.size))
  have T2 := hide (own_toks own2)
  obtain ⟨va, vcap, hv, hvc, _⟩ := T2.out
  rw [hv] at T2 ⊢
  have hvc' : (l.length : Int) ≤ (vcap : Int) := by omega
  clear hb2 B1 own2 hv
  go_wp2_with fail
  refine (SP.out.2 _).mono ?_
  rintro e w3 ⟨v3, rfl, own3, hb3⟩
  have B3 := hide (B2.out.trans (hb3.mono B2.out.size))
  have T3 := hide ((T2.out.below hb3).wide hb3.size)
  obtain ⟨va3, vcap3, hv3⟩ : ∃ a c, v3 = .slice a l.length c := by
    obtain ⟨_, ⟨e, e0⟩ | ⟨g, cap, cur, e, _⟩⟩ := own3
    · exact ⟨none, 0, by rw [e, e0]⟩
    · exact ⟨_, cap, e⟩
  rw [hv3]
  have hlt' : ¬ (t.size : Int) < (l.length : Int) := by omega
  clear hb3 B2 T2 own3 hv3 SP
  have dN : decide (t.size < l.length) = false := decide_eq_false (by omega)
  by_cases h4 : t.size ≤ 4000
  · have h4' : (t.size : Int) ≤ 4000 := by omega
    have d4 : decide ((t.size : Int) ≤ 4000) = true := decide_eq_true h4'
    have hE := HEP.out h4
    have SE := hide (imp_expand _ l w3 (by omega) T3.out)
    rw [hE] at SE
    have st : (t.toList == t.toList) = true := str_eq rfl
    clear hE HEP
    go_wp2_with fail
    refine SE.out.mono ?_
    rintro e w4 ⟨rfl, hb4⟩
    have B4 := hide (B3.out.trans (hb4.mono B3.out.size))
    have T4 := hide ((T3.out.below hb4).wide hb4.size)
    clear hb4 B3 T3 SE
    go_wp2_with fail
    go_loopw [7] (fun i wx => ∃ k : Nat, k ≤ l.length ∧ i = .int .i64 k ∧ Hid (Below w4.heap.size w4 wx)) (fun i _ => l.length - (intOf i).toNat)
    case atStart => exact ⟨0, by omega, rfl, Below.refl _ _⟩
    case round =>
      obtain ⟨k, hk, rfl, hbl⟩ := hrel
      by_cases hlt : k < l.length
      · have hlt2 : (k : Int) < (l.length : Int) := by omega
        obtain ⟨x, hx⟩ : ∃ x, l[k]? = some x := ⟨_, List.getElem?_eq_getElem hlt⟩
        obtain ⟨va2, vcap2, e2, _, h0 | ⟨r, o, rfl, hr, hcells⟩⟩ := T4.out
        · rw [h0] at hlt; simp at hlt
        cases e2
        obtain ⟨x1, x2, x3⟩ := hcells k x hx
        obtain ⟨q, hq⟩ : ∃ q, q = o + 3 * k := ⟨_, rfl⟩
        rw [← hq] at x1 x2 x3
        have hok := HOK.out x (List.mem_of_getElem? hx)
        have y1 := (hbl.out.cell (p := ⟨r, q, none⟩) hr).trans x1
        have y2 := (hbl.out.cell (p := ⟨r, q + 1, none⟩) hr).trans x2
        have y3 := (hbl.out.cell (p := ⟨r, q + 2, none⟩) hr).trans x3
        have y3' : wr.cell? ⟨r, q + 1 + 1, none⟩ = some (.int .i64 x.f) := y3
        have n1 : o + 3 * k = q := hq.symm
        have n2 : o + k * 3 = q := by omega
        obtain ⟨xb, xm, xf⟩ := x
        simp only at y1 y2 y3 y3'
        have SR := hide (And.intro (fun w => spec_tokenRight xb xm xf w) (fun w => imp_tokenRight xb xm xf w))
        rw [hok] at SR
        have hws := hbl.out.size
        clear hcells hx x1 x2 x3 hq hok
        go_wp2_with fail
        refine (SR.out.1 _).mono ?_
        rintro e w5 ⟨rfl, hb5⟩
        have B5 := hide (hbl.out.trans (hb5.mono hws))
        have z1 := (B5.out.cell (p := ⟨r, q, none⟩) hr).trans ((hbl.out.cell (p := ⟨r, q, none⟩) hr).symm.trans y1)
        have z2 := (B5.out.cell (p := ⟨r, q + 1, none⟩) hr).trans ((hbl.out.cell (p := ⟨r, q + 1, none⟩) hr).symm.trans y2)
        have z3 := (B5.out.cell (p := ⟨r, q + 2, none⟩) hr).trans ((hbl.out.cell (p := ⟨r, q + 2, none⟩) hr).symm.trans y3)
        have z3' : w5.cell? ⟨r, q + 1 + 1, none⟩ = some (.int .i64 xf) := z3
        clear hb5 hbl y1 y2 y3 y3'
        go_wp2_with fail
        refine (SR.out.2 _).mono ?_
        rintro e w6 ⟨rfl, hb6⟩
        have B6 := hide (B5.out.trans (hb6.mono B5.out.size))
        clear hb6 B5 z1 z2 z3 z3' SR n1 n2
        go_wp2_with fail
        go_roundw
        case rel => exact ⟨k + 1, by omega, by go_num, B6⟩
        case measure => simp [intOf]; omega
      · have hlt2 : ¬ (k : Int) < (l.length : Int) := by omega
        have B6 := hide (B4.out.trans (hbl.out.mono B4.out.size))
        clear hbl B4 T4 HOK
        go_wp2_with fail
        refine (drawExpand_any _ a1 len1 cap1 hl1 ((HB1.out.below B6.out (Nat.le_refl _)).wideM B6.out.size)).mono ?_
        rintro e w7 ⟨v7, l7, rfl, hl7, T7, hg7⟩
        have B7 := hide (B6.out.trans ((grownBy_toBelow hg7).mono B6.out.size))
        have HT7 := hide T7
        clear B6 hg7 T7
        obtain ⟨X, hX⟩ : ∃ X, X = expS l7 := ⟨_, rfl⟩
        have sX : (X.toList == X.toList) = true := str_eq rfl
        have S7 := hide (imp_expand v7 l7 w7 (by omega) HT7.out)
        rw [← hX] at S7
        go_wp2_with fail
        refine S7.out.mono ?_
        rintro e w8 ⟨rfl, hb8⟩
        have B8 := hide (B7.out.trans (hb8.mono B7.out.size))
        have S8 := hide (spec_expand v7 l7 w8 (by omega) ((HT7.out.below hb8).wide hb8.size))
        rw [← hX] at S8
        clear B7 hb8 HT7 S7 hX
        go_wp2_with fail
        refine S8.out.mono ?_
        rintro e w9 ⟨rfl, hb9⟩
        have B9 := hide (B8.out.trans (hb9.mono B8.out.size))
        clear B8 hb9 S8
        go_wp2_with fail
        go_ret
        exact ⟨rfl, B9.out⟩
  · have h4' : ¬ (t.size : Int) ≤ 4000 := by omega
    have d4 : decide ((t.size : Int) ≤ 4000) = false := decide_eq_false h4'
    clear HEP
    go_wp2_with fail
    go_loopw [7] (fun i wx => ∃ k : Nat, k ≤ l.length ∧ i = .int .i64 k ∧ Hid (Below w3.heap.size w3 wx)) (fun i _ => l.length - (intOf i).toNat)
    case atStart => exact ⟨0, by omega, rfl, Below.refl _ _⟩
    case round =>
      obtain ⟨k, hk, rfl, hbl⟩ := hrel
      by_cases hlt : k < l.length
      · have hlt2 : (k : Int) < (l.length : Int) := by omega
        obtain ⟨x, hx⟩ : ∃ x, l[k]? = some x := ⟨_, List.getElem?_eq_getElem hlt⟩
        obtain ⟨va2, vcap2, e2, _, h0 | ⟨r, o, rfl, hr, hcells⟩⟩ := T3.out
        · rw [h0] at hlt; simp at hlt
        cases e2
        obtain ⟨x1, x2, x3⟩ := hcells k x hx
        obtain ⟨q, hq⟩ : ∃ q, q = o + 3 * k := ⟨_, rfl⟩
        rw [← hq] at x1 x2 x3
        have hok := HOK.out x (List.mem_of_getElem? hx)
        have y1 := (hbl.out.cell (p := ⟨r, q, none⟩) hr).trans x1
        have y2 := (hbl.out.cell (p := ⟨r, q + 1, none⟩) hr).trans x2
        have y3 := (hbl.out.cell (p := ⟨r, q + 2, none⟩) hr).trans x3
        have y3' : wr.cell? ⟨r, q + 1 + 1, none⟩ = some (.int .i64 x.f) := y3
        have n1 : o + 3 * k = q := hq.symm
        have n2 : o + k * 3 = q := by omega
        obtain ⟨xb, xm, xf⟩ := x
        simp only at y1 y2 y3 y3'
        have SR := hide (And.intro (fun w => spec_tokenRight xb xm xf w) (fun w => imp_tokenRight xb xm xf w))
        rw [hok] at SR
        have hws := hbl.out.size
        clear hcells hx x1 x2 x3 hq hok
        go_wp2_with fail
        refine (SR.out.1 _).mono ?_
        rintro e w5 ⟨rfl, hb5⟩
        have B5 := hide (hbl.out.trans (hb5.mono hws))
        have z1 := (B5.out.cell (p := ⟨r, q, none⟩) hr).trans ((hbl.out.cell (p := ⟨r, q, none⟩) hr).symm.trans y1)
        have z2 := (B5.out.cell (p := ⟨r, q + 1, none⟩) hr).trans ((hbl.out.cell (p := ⟨r, q + 1, none⟩) hr).symm.trans y2)
        have z3 := (B5.out.cell (p := ⟨r, q + 2, none⟩) hr).trans ((hbl.out.cell (p := ⟨r, q + 2, none⟩) hr).symm.trans y3)
        have z3' : w5.cell? ⟨r, q + 1 + 1, none⟩ = some (.int .i64 xf) := z3
        clear hb5 hbl y1 y2 y3 y3'
        go_wp2_with fail
        refine (SR.out.2 _).mono ?_
        rintro e w6 ⟨rfl, hb6⟩
        have B6 := hide (B5.out.trans (hb6.mono B5.out.size))
        clear hb6 B5 z1 z2 z3 z3' SR n1 n2
        go_wp2_with fail
        go_roundw
        case rel => exact ⟨k + 1, by omega, by go_num, B6⟩
        case measure => simp [intOf]; omega
      · have hlt2 : ¬ (k : Int) < (l.length : Int) := by omega
        have B6 := hide (B3.out.trans (hbl.out.mono B3.out.size))
        clear hbl B3 T3 HOK
        go_wp2_with fail
        refine (drawExpand_any _ a1 len1 cap1 hl1 ((HB1.out.below B6.out (Nat.le_refl _)).wideM B6.out.size)).mono ?_
        rintro e w7 ⟨v7, l7, rfl, hl7, T7, hg7⟩
        have B7 := hide (B6.out.trans ((grownBy_toBelow hg7).mono B6.out.size))
        have HT7 := hide T7
        clear B6 hg7 T7
        obtain ⟨X, hX⟩ : ∃ X, X = expS l7 := ⟨_, rfl⟩
        have sX : (X.toList == X.toList) = true := str_eq rfl
        have S7 := hide (imp_expand v7 l7 w7 (by omega) HT7.out)
        rw [← hX] at S7
        go_wp2_with fail
        refine S7.out.mono ?_
        rintro e w8 ⟨rfl, hb8⟩
        have B8 := hide (B7.out.trans (hb8.mono B7.out.size))
        have S8 := hide (spec_expand v7 l7 w8 (by omega) ((HT7.out.below hb8).wide hb8.size))
        rw [← hX] at S8
        clear B7 hb8 HT7 S7 hX
        go_wp2_with fail
        refine S8.out.mono ?_
        rintro e w9 ⟨rfl, hb9⟩
        have B9 := hide (B8.out.trans (hb9.mono B8.out.size))
        clear B8 hb9 S8
        go_wp2_with fail
        go_ret
        exact ⟨rfl, B9.out⟩
set_option maxRecDepth 100000 in
set_option maxHeartbeats 800000 in
theorem fnMatch_walk (a0 : Option Addr) (len0 cap0 : Nat) (z0 : List Int) (a1 : Option Addr) (len1 cap1 : Nat) (z1 : List Int) (w : World) (w0 : IsRow .u8 w a0 len0 cap0 z0) (w1 : IsRow .u8 w a1 len1 cap1 z1) :
    Calls Try.prog 4 #[.slice a0 len0 cap0, .slice a1 len1 cap1] w fun e w' => e = .returned (.bool true) ∧ Below w.heap.size w w' := by
  have hb0 := bytesIn_of_row w0
  have hb1 := bytesIn_of_row w1
  have hm0 : len0 ≤ 9223372036854775807 := by
    rcases w0 with ⟨_, h, _⟩ | ⟨x, _, h, h2, _⟩
    · omega
    · unfold maxLen at h2; omega
  have hm1 : len1 ≤ 9223372036854775807 := by
    rcases w1 with ⟨_, h, h2, _⟩ | ⟨x, _, h, h2, _⟩
    · omega
    · unfold maxLen at h2; omega
  clear w0 w1
  by_cases h0 : 1048576 < len0
  · have h0' : (1048576 : Int) < (len0 : Int) := by omega
    have h0d : decide ((1048576 : Int) < (len0 : Int)) = true := decide_eq_true h0'
    clear hb0 hb1
    go_enter Try.func4, Try.ntmps4
    go_wp2_with fail
    go_ret
    exact ⟨rfl, Below.refl _ _⟩
  · by_cases h1 : 1048576 < len1
    · have h0' : ¬ (1048576 : Int) < (len0 : Int) := by omega
      have h0d : decide ((1048576 : Int) < (len0 : Int)) = false := decide_eq_false h0'
      have h1' : (1048576 : Int) < (len1 : Int) := by omega
      clear hb0 hb1
      go_enter Try.func4, Try.ntmps4
      go_wp2_with fail
      go_ret
      exact ⟨rfl, Below.refl _ _⟩
    · exact fnMatch_main a0 len0 cap0 a1 len1 cap1 w (by omega) (by omega) hb0 hb1
end Go.Proofs.Ytdoodkabmeojmaa

/- The draws of chapter 6: DrawRangeEncode, DrawRangeDecode. -/
import Derived.Test.YtdoodkabmeojmaaDrawBits2
import Derived.Test.YtdoodkabmeojmaaRangeDec
import Derived.Test.YtdoodkabmeojmaaImpRow
import Derived.Test.YtdoodkabmeojmaaLwV
namespace Go.Proofs.Ytdoodkabmeojmaa
open Go.RowKit
theorem encS_size (l : List (Int × Bool)) : (encS l).size ≤ l.length + 4 := by
  unfold encS
  split
  · rw [size_mk, codeOf, bytesOf_len]
    have h := run_n_le (bitsN l) rc0
    have h2 : rc0.n = 0 := rfl
    have h3 : (bitsN l).length = l.length := by simp [bitsN]
    omega
  · show 0 ≤ _; omega
def fstC (l : List (Int × Bool)) : List Value := l.map fun x => .int .i64 x.1
theorem own_ctx {w : World} {base e : Nat} {v : Value} {l : List (Int × Bool)} (h : w.ownsRow base e 1 v l.length (fstC l)) : CtxAt w w.heap.size v (l.map (·.1)) := by
  have h0 := h
  obtain ⟨_, ⟨rfl, hn⟩ | ⟨g, cap, cur, rfl, hg, hb, hc, _⟩⟩ := h
  · exact ⟨none, 0, by rw [List.length_map, hn], by rw [List.length_map, hn]; omega, .inl (by rw [List.length_eq_zero_iff.1 hn]; rfl)⟩
  · refine ⟨_, cap, by rw [List.length_map], by rw [List.length_map]; exact hc, .inr ⟨g, 0, rfl, (h0.lt g rfl).2, fun j x hx => ?_⟩⟩
    rw [List.getElem?_map] at hx
    obtain ⟨y, hy, rfl⟩ := Option.map_eq_some_iff.1 hx
    have hj := (List.getElem?_eq_some_iff.1 hy).1
    rw [Nat.zero_add, h0.cellAt j (by omega), fstC, List.getElem?_map, hy]; rfl
theorem orow_conv {P : Program} {w : World} {base hb src dst e : Nat} {v : Value} {l : List UInt8} (h : oRow w base hb v l) (hne : l ≠ []) (hs : P.underlying src = some (.slice e)) (he : P.underlying e = some (.int .u8)) (hd : P.underlying dst = some .string) :
    (convert src dst v).run P w = .ok (.string ⟨l.toArray⟩) w := by
  rcases h with ⟨_, h⟩ | ⟨g, o, cap, rfl, _, _, _, _, _, hl⟩
  · exact absurd h hne
  · exact run_convert_bytes_back (P := P) w src dst e ⟨g, o, none⟩ cap l hs he hd (fun j hj => by
      have e3 : (⟨g, o, none⟩ : Addr).add j = ⟨g, o + j, none⟩ := by by_cases hz : j = 0 <;> simp [Addr.add, hz]
      rw [e3, hl j l[j] (List.getElem?_eq_getElem hj)]; rfl)
theorem four_orow (w : World) (hb : Nat) (h : hb < w.heap.size) : oRow (w.alloc (.cells #[.int .u8 255, .int .u8 255, .int .u8 255, .int .u8 255] 5)) w.heap.size hb (.slice (some ⟨w.heap.size, 0, none⟩) 4 4) [255, 255, 255, 255] := by
  have hh := heap_alloc_new w (.cells #[.int .u8 255, .int .u8 255, .int .u8 255, .int .u8 255] 5)
  refine .inr ⟨w.heap.size, 0, 4, rfl, Nat.le_refl _, by omega, by simp, Nat.le_refl _, fun j hj => ⟨?_, ?_⟩, fun j u hu => ?_⟩
  · rw [Nat.zero_add, cell_of_row _ _ _ _ _ _ hh]
    match j, hj with
    | 0, _ => rfl
    | 1, _ => rfl
    | 2, _ => rfl
    | 3, _ => rfl
  · unfold World.frozen?
    rw [hh]; simp
  · rw [Nat.zero_add, cell_of_row _ _ _ _ _ _ hh]
    match j, hu with
    | 0, hu => cases hu; rfl
    | 1, hu => cases hu; rfl
    | 2, hu => cases hu; rfl
    | 3, hu => cases hu; rfl
theorem Try.infoI64r : (Try.prog.info? 2).map (fun i => (i.zero, i.size, i.bytes)) = some (some (.int .i64 0), 1, 8) := by kernel_rfl
set_option maxRecDepth 100000 in
set_option maxHeartbeats 800000 in
theorem drawRangeEncode_any (w : World) (a : Option Addr) (len cap : Nat) (hl : len ≤ 1048576) (hby : BytesIn w w.heap.size a len) :
    Calls Try.prog 8 #[.slice a len cap] w fun e w' => ∃ v l, e = .returned v ∧ l.length ≤ 260 ∧ BitsI w' w'.heap.size v l ∧ w.grownBy w' none := by
  have HB := hide hby
  clear hby
  go_enter Try.func8, Try.ntmps8
  go_wp2_with fail
  refine (source_any _ a len cap hl HB.out).mono ?_
  rintro e w1 ⟨rfl, hs1, hg1⟩
  have H1 := hide hs1
  clear hs1
  go_wp2_with fail
  refine (src_bits _ _ _ a len cap H1.out hg1.size).mono ?_
  rintro e w2 ⟨v, l, rfl, hl2, _, own2, hs2, hg2⟩
  have hG2 := grownBy_new hg1 hg2 (Nat.le_refl _)
  have hB2 := hide (own_bits own2)
  clear hs2 hg1 hg2 H1 own2
  go_wp2_with fail
  go_ret
  exact ⟨v, l, rfl, hl2, hB2.out, hG2⟩
set_option maxRecDepth 100000 in
set_option maxHeartbeats 1600000 in
theorem drawRangeDecode_any (w : World) (a : Option Addr) (len cap : Nat) (hl : len ≤ 1048576) (hby : BytesIn w w.heap.size a len) :
    Calls Try.prog 12 #[.slice a len cap] w fun e w' => ∃ (t : ByteArray) (v : Value) (c : List Int), e = .returned (.tuple #[.string t, v]) ∧ t.size ≤ 300 ∧ c.length ≤ 260 ∧ CtxAt w' w'.heap.size v c ∧ w.grownBy w' none := by
  obtain ⟨i0, hi, hz0, hz1, hz2⟩ := info_parts Try.infoI64r
  have HB := hide hby
  clear hby
  go_enter Try.func12, Try.ntmps12
  go_wp2_with fail
  refine (source_any _ a len cap hl HB.out).mono ?_
  rintro e w1 ⟨rfl, hs1, hg1⟩
  have H1 := hide hs1
  clear hs1
  go_wp2_with fail
  refine (src_bits _ _ _ a len cap H1.out hg1.size).mono ?_
  rintro e w2 ⟨v, l, rfl, hl2, _, own2, hs2, hg2⟩
  have hG2 := grownBy_new hg1 hg2 (Nat.le_refl _)
  have hBI := hide (own_bits own2)
  have H2 := hide hs2
  obtain ⟨va, vcap, hv, _, _⟩ := hBI.out
  have hz2s := hG2.size
  clear hs2 hg1 hg2 H1 own2
  rw [hv] at hBI ⊢
  go_wp2_with fail
  have hown0 := (show (w2.alloc (.cells #[] 2)).ownsRow w2.heap.size 2 1 (.slice (some ⟨w2.heap.size, 0, none⟩) 0 0) 0 [] by
    have h := World.ownsRow_made (e := 2) (size := 1) (base := w2.heap.size) w2 #[] 0 (Nat.le_refl _) (by decide) (by simp)
    simpa using h)
  have hb0 := hide ((Below.refl w2.heap.size w2).alloc (Nat.le_refl _) (.cells #[] 2))
  generalize w2.alloc (.cells #[] 2) = W0 at *
  have hvc : l.length ≤ vcap := by obtain ⟨_, _, e, h, _⟩ := hBI.out; cases e; exact h
  have hvc' : (l.length : Int) ≤ (vcap : Int) := by omega
  go_loopw [6, 7] (fun cv i wx => ∃ k : Nat, k ≤ l.length ∧ i = .int .i64 k ∧ wx.ownsRow w2.heap.size 2 1 cv k (fstC (l.take k)) ∧ Hid (Below w2.heap.size w2 wx)) (fun _ i _ => l.length - (intOf i).toNat)
  case atStart => exact ⟨0, by omega, rfl, hown0, hb0⟩
  case round =>
    clear hown0 hb0
    obtain ⟨k, hk, rfl, hown, hbl⟩ := hrel
    by_cases hlt : k < l.length
    · have hlt' : (k : Int) < (l.length : Int) := by omega
      obtain ⟨x, hx⟩ : ∃ x, l[k]? = some x := ⟨_, List.getElem?_eq_getElem hlt⟩
      obtain ⟨va2, vcap2, e2, _, h0 | ⟨r, o, rfl, hr, hcells⟩⟩ := hBI.out
      · rw [h0] at hlt; simp at hlt
      cases e2
      obtain ⟨x1, x2⟩ := hcells k x hx
      obtain ⟨q, hq⟩ : ∃ q, q = o + 2 * k := ⟨_, rfl⟩
      rw [← hq] at x1
      have y1 := (hbl.out.cell (p := ⟨r, q, none⟩) hr).trans x1
      have n1 : o + 2 * k = q := hq.symm
      have n2 : o + k * 2 = q := by omega
      have htk := hide (show fstC (l.take (k + 1)) = fstC (l.take k) ++ [.int .i64 x.1] by
        unfold fstC
        rw [List.take_succ_eq_append_getElem hlt, List.map_append]
        rw [List.getElem?_eq_getElem hlt] at hx
        rw [Option.some.inj hx]; rfl)
      obtain ⟨c, b⟩ := x
      simp only at y1 htk
      have hbs := hbl.out.size
      clear hcells hx x1 x2 hq
      go_wp2_with (at_builtin; refine wpList_append_lies _ rfl _ _ 26 rfl w2.heap.size 2 i0 (.int .i64 0) 1 8 Try.underlying26 hi hz0 hz1 hz2 rfl (by omega) u6 k _ rfl (hown.alloc _) ⟨wr.heap.size, 0, none⟩ 1 1 [.int .i64 c] rfl rfl (one_cell wr _ _) (one_oneCell .i64 _) (by omega) (by unfold maxLen; omega) (by omega) (by simp; omega) (wr.heap.size + 1) (by simp) ?_)
      intro g' cap' w3 hown' hg' hat' hlt3
      have R1 : w3.ownsRow w2.heap.size 2 1 (.slice (some ⟨g', 0, none⟩) (k + 1) cap') (k + 1) (fstC (l.take (k + 1))) := by
        rw [htk.out]; exact hown'
      have R5 := hide ((hbl.out.alloc hbs _).grown hg' (by simp; omega) (fun x hx => (hown.lt x hx).1))
      clear hown' hg' hat' hlt3 hown hbl htk y1 n1 n2
      go_wp2_with fail
      go_roundw
      case rel => exact ⟨k + 1, by omega, by go_num, R1, R5⟩
      case measure => simp [intOf]; omega
    · have hlt' : ¬ (k : Int) < (l.length : Int) := by omega
      rw [List.take_of_length_le (by omega)] at hown
      have ek : k = l.length := by omega
      have HO := hide (show wr.ownsRow w2.heap.size 2 1 u6 l.length (fstC l) by rw [ek] at hown; exact hown)
      have HS := hide (H2.out.kept (below_grownBy hbl.out) (fun k hk => by cases hk) hz2s)
      have SE := hide (spec_rangeEncode _ l wr (by omega) ((hBI.out.below hbl.out).wide hbl.out.size))
      have hsz := encS_size l
      obtain ⟨t, ht⟩ : ∃ t, t = encS l := ⟨_, rfl⟩
      rw [← ht] at SE hsz
      have hG3 := hide (grownBy_trans hG2 (below_grownBy hbl.out))
      have hgl : w.heap.size < w2.heap.size := by have := H2.out.lt; exact this
      clear hown ht hbl H2 hBI ek hG2
      go_wp2_with fail
      refine SE.out.mono ?_
      rintro e w4 ⟨rfl, hb4⟩
      have HO4 := hide (HO.out.kept (below_grownBy hb4) (Classical.em _))
      have HS4 := hide (HS.out.kept (below_grownBy hb4) (fun k hk => by cases hk) hG3.out.size)
      have hG4 := hide (grownBy_trans hG3.out (below_grownBy hb4))
      clear HO HS hG3 hb4 SE
      go_wp2_with fail
      refine (src_n _ _ _ a len cap 4 (by omega) HS4.out).mono ?_
      rintro e w5 ⟨x, rfl, x0, _, hs5, hg5⟩
      have HO5 := hide (HO4.out.kept hg5 (.inr (fun e => by have := (HO4.out.lt _ e).1; omega)))
      have HS5 := hide hs5
      have hG5 := hide (grownBy_new hG4.out hg5 (Nat.le_refl _))
      clear HO4 HS4 hG4 hs5 hg5
      by_cases hx0 : x = 0
      · have hx0' : (x == 0) = true := by rw [hx0]; rfl
        clear hx0
        go_wp2_with fail
        refine (src_n _ _ _ a len cap 20 (by omega) HS5.out).mono ?_
        rintro e w6 ⟨y, rfl, y0, y1, hs6, hg6⟩
        have HO6 := hide (HO5.out.kept hg6 (.inr (fun e => by have := (HO5.out.lt _ e).1; omega)))
        have HS6 := hide hs6
        have hG6 := hide (grownBy_new hG5.out hg6 (Nat.le_refl _))
        obtain ⟨k2, rfl⟩ := Int.eq_ofNat_of_zero_le y0
        have hk2 : k2 < 20 := by omega
        clear HO5 HS5 hG5 hs6 hg6 y1
        go_wp2_with fail
        refine (src_bytes _ _ _ a len cap k2 (by omega) HS6.out).mono ?_
        rintro e w7 ⟨t2, rfl, ht2, hs7, hg7⟩
        have HO7 := hide (own_ctx (HO6.out.kept hg7 (.inr (fun e => by have := (HO6.out.lt _ e).1; omega))))
        have hG7 := hide (grownBy_new hG6.out hg7 (Nat.le_refl _))
        clear HO6 HS6 hG6 hs7 hg7
        go_wp2_with fail
        go_ret2
        exact ⟨t2, u6, l.map (·.1), rfl, by omega, by rw [List.length_map]; exact hl2, HO7.out, hG7.out⟩
      · have hx0' : (x == 0) = false := by rw [beq_eq_false_iff_ne]; exact hx0
        by_cases hx1 : x = 1
        · have hx1' : (x == 1) = true := by rw [hx1]; rfl
          clear hx0 hx1
          have hrow := hide (four_orow w5 w.heap.size (by have := hG5.out.size; have := HS5.out.lt; omega))
          obtain ⟨j0, hj, hj0, hj1, hj2⟩ := info_parts Try.infoB8r
          have hB6 := hide ((Below.refl w5.heap.size w5).alloc (Nat.le_refl _) (.cells #[.int .u8 255, .int .u8 255, .int .u8 255, .int .u8 255] 5))
          go_wp2_with (refine wpList_append_orow rfl _ _ 22 9 rfl 5 j0 Try.underlying22 Try.underlying9 hj hj0 hj1 hj2 w5.heap.size w.heap.size (.slice (some ⟨w5.heap.size, 0, none⟩) 4 4) [255, 255, 255, 255] rfl hrow.out t rfl (by simp; omega) (by simp) (by have := HS5.out.lt; simp; omega) ?_)
          intro v7 w7 hor7 hb7 _
          have hcv := orow_conv (P := Try.prog) hor7 (by simp) Try.underlying22 Try.underlying5 Try.underlying9
          have hB7 := hide (hB6.out.trans hb7)
          obtain ⟨t2, ht2⟩ : ∃ t2 : ByteArray, t2 = ⟨(255 :: 255 :: 255 :: 255 :: t.data.toList).toArray⟩ := ⟨_, rfl⟩
          have hs2 : t2.size ≤ 300 := by
            rw [ht2, size_mk]
            have e : t.data.toList.length = t.size := rfl
            simp only [List.length_cons]
            omega
          rw [← ht2] at hcv
          have HO7 := hide (own_ctx (HO5.out.kept (below_grownBy hB7.out) (Classical.em _)))
          have hG7 := hide (grownBy_trans hG5.out (below_grownBy hB7.out))
          clear ht2 hor7 hb7 HO5 HS5 hG5 hrow hB6
          go_wp2_with fail
          go_ret2
          exact ⟨t2, u6, l.map (·.1), rfl, hs2, by rw [List.length_map]; exact hl2, HO7.out, hG7.out⟩
        · have hx1' : (x == 1) = false := by rw [beq_eq_false_iff_ne]; exact hx1
          have HO7 := hide (own_ctx HO5.out)
          clear hx0 hx1 HO5
          go_wp2_with fail
          go_ret2
          exact ⟨t, u6, l.map (·.1), rfl, by omega, by rw [List.length_map]; exact hl2, HO7.out, hG5.out⟩
end Go.Proofs.Ytdoodkabmeojmaa

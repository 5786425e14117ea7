/- The walk over the program's Expand. -/
import Derived.Test.YtdoodkabmeojmaaImpGrow
namespace Go.Proofs.Ytdoodkabmeojmaa
open Go.RowKit
theorem tok_size_byte {x : Tok} {b : List UInt8} (h : x.f = 0) : (exp1 b x).length = b.length + 1 := by
  unfold exp1; rw [if_pos h, List.length_append]; rfl
theorem tok_size_match {x : Tok} {b : List UInt8} (h : x.f ≠ 0) : (exp1 b x).length = b.length + x.m.toNat := by
  unfold exp1; rw [if_neg h, copyN_len]
set_option maxRecDepth 100000 in
set_option maxHeartbeats 1600000 in
theorem imp_expand (v : Value) (l : List Tok) (w : World) (hlen : l.length ≤ 9223372036854775807) (hb : TokI w w.heap.size v l) :
    Calls Try.prog 17 #[v] w fun e w' => e = .returned (.string (expS l)) ∧ Below w.heap.size w w' := by
  obtain ⟨a, cap, rfl, hcap, htoks⟩ := hb
  have HT := hide htoks
  clear htoks
  by_cases h20 : l.length ≤ 20000
  · have h20' : ¬ (20000 : Int) < (l.length : Int) := by omega
    go_enter Try.func17, Try.ntmps17
    go_wp2_with fail
    go_loopw [3, 12] (fun bv i wx => ∃ (k : Nat) (b : List UInt8), k ≤ l.length ∧ i = .int .i64 (k : Int) ∧ wx.ownsRow w.heap.size 5 1 bv b.length (b.map byteV) ∧ b.length ≤ 20000 ∧ Hid (expandG [] (l.take k) = some b) ∧ Hid (Below w.heap.size w wx)) (fun _ i _ => l.length - (intOf i).toNat)
    case atStart => exact ⟨0, [], by omega, rfl, World.ownsRow_nil w _ _ _, by simp, rfl, Below.refl _ _⟩
    case round =>
      obtain ⟨k, b, hk, rfl, hown, hb66, hex, hbl⟩ := hrel
      by_cases hlt : k < l.length
      · have hlt' : (k : Int) < (l.length : Int) := by omega
        obtain ⟨x, hx⟩ : ∃ x, l[k]? = some x := ⟨l[k], List.getElem?_eq_getElem hlt⟩
        rcases HT.out with h | ⟨r, o, rfl, hr, hcells⟩
        · exfalso; rw [h] at hlt; exact absurd hlt (Nat.not_lt_zero _)
        obtain ⟨x1, x2, x3⟩ := hcells k x hx
        obtain ⟨q, hq⟩ : ∃ q, q = o + 3 * k := ⟨_, rfl⟩
        rw [← hq] at x1 x2 x3
        have y1 := (hbl.out.cell (p := ⟨r, q, none⟩) hr).trans x1
        have y2 := (hbl.out.cell (p := ⟨r, q + 1, none⟩) hr).trans x2
        have y3 := (hbl.out.cell (p := ⟨r, q + 2, none⟩) hr).trans x3
        have n1 : o + 3 * k = q := hq.symm
        have n2 : o + k * 3 = q := by omega
        have y3' : wr.cell? ⟨r, q + 1 + 1, none⟩ = some (.int .i64 x.f) := y3
        have HSP := hide (split_at l k x hx)
        have HTK := hide (take_snoc l k x hx)
        have hws := hbl.out.size
        clear hcells hx x1 x2 x3 hq
        obtain ⟨xb, hxb⟩ : ∃ xb, xb = x.b := ⟨_, rfl⟩
        obtain ⟨xm, hxm⟩ : ∃ xm, xm = x.m := ⟨_, rfl⟩
        obtain ⟨xf, hxf⟩ : ∃ xf, xf = x.f := ⟨_, rfl⟩
        rw [← hxb] at y1
        rw [← hxm] at y2
        rw [← hxf] at y3 y3'
        have hxe : x = ⟨xb, xm, xf⟩ := by rw [hxb, hxm, hxf]
        clear hxb hxm hxf
        have SR := hide (fun w => imp_tokenRight xb xm xf w)
        rw [← hxe] at SR
        have SS := hide (fun w => imp_size xb xm xf w)
        have HXE := hide hxe
        have HOWN := hide hown
        obtain ⟨ba, bcap, hbv, hbc⟩ : ∃ a cap, u3 = .slice a b.length cap ∧ b.length ≤ cap := by
          obtain ⟨_, ⟨e, e0⟩ | ⟨g, cap, cur, e, _, _, h, _⟩⟩ := hown
          · exact ⟨none, 0, by rw [e, e0], by omega⟩
          · exact ⟨_, cap, e, h⟩
        subst hbv
        clear hown
        cases hok : tokOk x with
        | false =>
          have HE := hide (show expS l = ⟨#[]⟩ by rw [HSP.out]; exact expS_wrong hex.out (fun h => by rw [hok] at h; cases h.1))
          rw [hok] at SR
          clear hok HSP HTK hex
          go_wp2_with fail
          refine (SR.out _).mono ?_
          rintro e w2 ⟨rfl, hb2⟩
          have B2 := hide ((hbl.out.alloc hws (.cells #[.int .i64 xb, .int .i64 xm, .int .i64 xf] 40)).trans (hb2.mono (by simp; omega)))
          clear hb2
          go_wp2_with fail
          go_ret
          exact ⟨by rw [HE.out]; rfl, B2.out⟩
        | true =>
          rw [hok] at SR
          obtain ⟨sz, hsz⟩ : ∃ sz : Int, sz = tokSize xm := ⟨_, rfl⟩
          rw [← hsz] at SS
          have hcs := tokOk_cases x hok
          rw [HXE.out] at hcs
          obtain ⟨n, hn, hn1, hn66, hnl⟩ : ∃ n : Nat, sz = (n : Int) ∧ 1 ≤ n ∧ n ≤ 66 ∧ (exp1 b x).length = b.length + n := by
            rcases hcs with ⟨hf0, hm0, _, _⟩ | ⟨hf0, hm3, hm66, _, _⟩
            · exact ⟨1, by rw [hsz]; exact if_pos hm0, by omega, by omega, tok_size_byte (by rw [HXE.out]; exact hf0)⟩
            · have hm3' : (3 : Int) ≤ xm := hm3
              have hm66' : xm ≤ (66 : Int) := hm66
              refine ⟨xm.toNat, ?_, by omega, by omega, ?_⟩
              · rw [hsz]; unfold tokSize; rw [if_neg (by omega)]; omega
              · rw [tok_size_match (by rw [HXE.out]; exact hf0)]; rw [HXE.out]
          rw [hn] at SS
          have HNL := hide hnl
          clear hn hsz hnl
          have hw1 : IntKind.i64.wrap ((b.length : Int) + (n : Int)) = (b.length : Int) + (n : Int) := by simp only [IntKind.wrap_i64]; omega
          go_wp2_with fail
          refine (SR.out _).mono ?_
          rintro e w2 ⟨rfl, hb2⟩
          have c0 := (hb2.cell (p := ⟨wr.heap.size, 0, none⟩) (by simp)).trans (show (wr.alloc (.cells #[.int .i64 xb, .int .i64 xm, .int .i64 xf] 40)).cell? ⟨wr.heap.size, 0, none⟩ = some (.int .i64 xb) by simp)
          have c1 := (hb2.cell (p := ⟨wr.heap.size, 1, none⟩) (by simp)).trans (show (wr.alloc (.cells #[.int .i64 xb, .int .i64 xm, .int .i64 xf] 40)).cell? ⟨wr.heap.size, 1, none⟩ = some (.int .i64 xm) by simp)
          have c2 := (hb2.cell (p := ⟨wr.heap.size, 2, none⟩) (by simp)).trans (show (wr.alloc (.cells #[.int .i64 xb, .int .i64 xm, .int .i64 xf] 40)).cell? ⟨wr.heap.size, 2, none⟩ = some (.int .i64 xf) by simp)
          have HO2 := hide ((HOWN.out.alloc (.cells #[.int .i64 xb, .int .i64 xm, .int .i64 xf] 40)).kept (below_grownBy hb2) (Classical.em _))
          have B2 := hide ((hbl.out.alloc hws (.cells #[.int .i64 xb, .int .i64 xm, .int .i64 xf] 40)).trans (hb2.mono (by simp; omega)))
          have hzlt : wr.heap.size < w2.heap.size := by have := hb2.size; simp at this; omega
          obtain ⟨z, hz⟩ : ∃ z, z = wr.heap.size := ⟨_, rfl⟩
          rw [← hz] at c0 c1 c2 hzlt ⊢
          clear hb2 HOWN hbl SR y1 y2 y3 y3' n1 n2 hz hws
          go_wp2_with fail
          refine (SS.out _).mono ?_
          rintro e w3 ⟨rfl, hb3⟩
          have d0 := (hb3.cell (p := ⟨z, 0, none⟩) hzlt).trans c0
          have d1 := (hb3.cell (p := ⟨z, 1, none⟩) hzlt).trans c1
          have d2 := (hb3.cell (p := ⟨z, 2, none⟩) hzlt).trans c2
          have HO3 := hide (HO2.out.kept (below_grownBy hb3) (Classical.em _))
          have B3 := hide (B2.out.trans (hb3.mono B2.out.size))
          clear hb3 HO2 B2 c0 c1 c2 SS
          by_cases hbig : b.length + n ≤ 20000
          · have hbig' : ¬ (20000 : Int) < (b.length : Int) + (n : Int) := by omega
            rcases hcs with ⟨hf0, hm0, hb0, hb1⟩ | ⟨hf0, hm3, hm66, hf1, hf1024⟩
            · obtain rfl : xf = 0 := hf0
              obtain rfl : xm = 0 := hm0
              obtain ⟨y, rfl⟩ := Int.eq_ofNat_of_zero_le (show (0 : Int) ≤ xb from hb0)
              have hy : y < 256 := by have h : (y : Int) ≤ 255 := hb1; omega
              have HEX := hide (show expandG [] (l.take (k + 1)) = some (b ++ [UInt8.ofNat y]) by
                rw [HTK.out, expandG_snoc, hex.out]
                show (if tokOk x = true ∧ x.f ≤ b.length then some (exp1 b x) else none) = _
                rw [if_pos ⟨hok, by rw [HXE.out]; show (0 : Int) ≤ _; omega⟩]
                unfold exp1
                rw [HXE.out]
                rfl)
              have SG := hide (imp_grown_byte _ b w.heap.size y w3 B3.out.size HO3.out hb66 hy)
              clear hok HSP HTK hex HXE hb0 hb1 HO3
              go_wp2_with fail
              refine (SG.out).mono ?_
              rintro e w4 ⟨v', rfl, hown4, hb4⟩
              have B4 := hide (B3.out.trans hb4)
              have HO4 := hide hown4
              have hl4 := hide (show (b ++ [UInt8.ofNat y]).length ≤ 20000 by rw [List.length_append]; show b.length + 1 ≤ _; omega)
              clear hb4 B3 d0 d1 d2 SG hown4
              go_wp2_with fail
              go_roundw
              case rel => exact ⟨k + 1, b ++ [UInt8.ofNat y], by omega, by go_num, HO4.out, hl4.out, HEX, B4⟩
              case measure => simp [intOf]; omega
            · obtain rfl : xb = 0 := by
                have h := hok
                unfold tokOk at h
                rw [HXE.out] at h
                rw [if_neg (fun e => hf0 e.2)] at h
                exact (of_decide_eq_true h).1
              obtain ⟨F, rfl⟩ := Int.eq_ofNat_of_zero_le (show (0 : Int) ≤ xf by have h : (1 : Int) ≤ xf := hf1; omega)
              obtain ⟨M, rfl⟩ := Int.eq_ofNat_of_zero_le (show (0 : Int) ≤ xm by have h : (3 : Int) ≤ xm := hm3; omega)
              have hF1 : 1 ≤ F := by have h : (1 : Int) ≤ (F : Int) := hf1; omega
              have hF2 : F ≤ 1024 := by have h : (F : Int) ≤ 1024 := hf1024; omega
              have hM3 : 3 ≤ M := by have h : (3 : Int) ≤ (M : Int) := hm3; omega
              have hM : M ≤ 66 := by have h : (M : Int) ≤ 66 := hm66; omega
              by_cases hFb : F ≤ b.length
              · have HEX := hide (show expandG [] (l.take (k + 1)) = some (copyN F M b) by
                  rw [HTK.out, expandG_snoc, hex.out]
                  show (if tokOk x = true ∧ x.f ≤ b.length then some (exp1 b x) else none) = _
                  rw [if_pos ⟨hok, by rw [HXE.out]; show (F : Int) ≤ _; omega⟩]
                  unfold exp1
                  rw [HXE.out, if_neg (show ¬ (F : Int) = 0 from hf0)]
                  rfl)
                have hl4 := hide (show (copyN F M b).length ≤ 20000 by
                  have e : exp1 b x = copyN F M b := by
                    unfold exp1
                    rw [HXE.out, if_neg (show ¬ (F : Int) = 0 from hf0)]
                    rfl
                  rw [← e, HNL.out]; exact hbig)
                have SG := hide (imp_grown_match _ b w.heap.size M F w3 B3.out.size HO3.out hb66 hM3 hM hF1 hF2 hFb)
                clear hok HSP HTK hex HXE hf0 hm3 hm66 hf1 hf1024 HO3
                go_wp2_with fail
                refine (SG.out).mono ?_
                rintro e w4 ⟨v', rfl, hown4, hb4⟩
                have B4 := hide (B3.out.trans hb4)
                have HO4 := hide hown4
                clear hb4 B3 d0 d1 d2 SG hown4
                go_wp2_with fail
                go_roundw
                case rel => exact ⟨k + 1, copyN F M b, by omega, by go_num, HO4.out, hl4.out, HEX, B4⟩
                case measure => simp [intOf]; omega
              · have HE := hide (show expS l = ⟨#[]⟩ by rw [HSP.out]; exact expS_wrong hex.out (fun h => hFb (by have := h.2; rw [HXE.out] at this; have h2 : (F : Int) ≤ (b.length : Int) := this; omega)))
                have SG := hide (imp_grown_no _ b w.heap.size M F w3 B3.out.size HO3.out hb66 hM3 hM hF2 (by omega))
                clear hok HSP HTK hex HXE hf0 hm3 hm66 hf1 hf1024 HO3
                go_wp2_with fail
                refine (SG.out).mono ?_
                rintro e w4 ⟨rfl, hb4⟩
                have B4 := hide (B3.out.trans hb4)
                clear hb4 B3 d0 d1 d2 SG
                go_wp2_with fail
                go_ret
                exact ⟨by rw [HE.out]; rfl, B4.out⟩
          · have hbig' : (20000 : Int) < (b.length : Int) + (n : Int) := by omega
            have HE := hide (show expS l = ⟨#[]⟩ by
              by_cases hf : x.f ≤ (b.length : Int)
              · rw [← List.take_append_drop (k + 1) l]
                refine expS_long (b := exp1 b x) ?_ (by rw [HNL.out]; omega)
                rw [HTK.out, expandG_snoc, hex.out]
                show (if tokOk x = true ∧ x.f ≤ b.length then some (exp1 b x) else none) = _
                rw [if_pos ⟨hok, hf⟩]
              · rw [HSP.out]; exact expS_wrong hex.out (fun h => hf h.2))
            clear hok HSP HTK hex HXE hcs HO3
            go_wp2_with fail
            go_ret
            exact ⟨by rw [HE.out]; rfl, B3.out⟩
      · have hlt' : ¬ (k : Int) < (l.length : Int) := by omega
        have hex2 := hex.out
        rw [List.take_of_length_le (by omega)] at hex2
        obtain ⟨ba, bcap, hbv, hbc⟩ : ∃ a cap, u3 = .slice a b.length cap ∧ b.length ≤ cap := by
          obtain ⟨_, ⟨e, e0⟩ | ⟨g, cap, cur, e, _, _, h, _⟩⟩ := hown
          · exact ⟨none, 0, by rw [e, e0], by omega⟩
          · exact ⟨_, cap, e, h⟩
        have hcv := own_conv (P := Try.prog) hown Try.underlying22 Try.underlying5 Try.underlying9
        obtain ⟨X, hX⟩ : ∃ X : ByteArray, X = ⟨b.toArray⟩ := ⟨_, rfl⟩
        have HE := hide (show expS l = X by
          unfold expS
          rw [if_pos h20, hex2, hX]
          show (if b.length ≤ 20000 then (⟨b.toArray⟩ : ByteArray) else ⟨#[]⟩) = _
          rw [if_pos hb66])
        rw [← hX] at hcv
        clear hX hex hex2 hown
        rw [hbv] at hcv
        subst hbv
        go_wp2_with fail
        go_ret
        exact ⟨by rw [HE.out]; rfl, hbl.out⟩
  · have h20' : (20000 : Int) < (l.length : Int) := by omega
    have hE : expS l = ⟨#[]⟩ := if_neg h20
    rw [hE]
    clear hE HT
    go_enter Try.func17, Try.ntmps17
    go_wp2_with fail
    go_ret
    exact ⟨rfl, Below.refl _ _⟩
end Go.Proofs.Ytdoodkabmeojmaa

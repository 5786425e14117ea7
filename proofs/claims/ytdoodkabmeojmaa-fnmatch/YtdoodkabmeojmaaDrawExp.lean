/- The draws of chapter 7: DrawParse, DrawExpand. -/
import Derived.Test.YtdoodkabmeojmaaDrawTok
import Derived.Test.YtdoodkabmeojmaaMatchH
import Derived.Laws.AppendOwnNone
namespace Go.Proofs.Ytdoodkabmeojmaa
open Go.RowKit
theorem own_base {w : World} {base base' e size n : Nat} {v : Value} {xs : List Value} (h : w.ownsRow base e size v n xs) (hb : base' ≤ base) : w.ownsRow base' e size v n xs := by
  obtain ⟨a, h1 | ⟨g, cap, cur, e1, h2, h3⟩⟩ := h
  · exact ⟨a, .inl h1⟩
  · exact ⟨a, .inr ⟨g, cap, cur, e1, by omega, h3⟩⟩
theorem tokC_one (l : List Tok) : ∀ u ∈ tokC l, u.oneCell' = true := by
  intro u hu
  obtain ⟨x, _, hx⟩ := List.mem_flatMap.1 hu
  simp at hx
  rcases hx with rfl | rfl | rfl <;> rfl
theorem tokC_cons (x : Tok) (l : List Tok) : tokC (x :: l) = [.int .i64 x.b, .int .i64 x.m, .int .i64 x.f] ++ tokC l := rfl
set_option maxRecDepth 100000 in
set_option maxHeartbeats 400000 in
theorem drawParse_any (w : World) (a : Option Addr) (len cap : Nat) (hl : len ≤ 1048576) (hby : BytesIn w w.heap.size a len) :
    Calls Try.prog 14 #[.slice a len cap] w fun e w' => ∃ t : ByteArray, e = .returned (.string t) ∧ t.size ≤ 4001 ∧ w.grownBy w' none := by
  have HB := hide hby
  clear hby
  go_enter Try.func14, Try.ntmps14
  go_wp2_with fail
  refine (source_any _ a len cap hl HB.out).mono ?_
  rintro e w1 ⟨rfl, hs1, hg1⟩
  have H1 := hide hs1
  clear hs1
  go_wp2_with fail
  refine (src_text _ _ _ a len cap H1.out hg1.size).mono ?_
  rintro e w2 ⟨t, rfl, ht, hs2, hg2⟩
  have hG2 := grownBy_new hg1 hg2 (Nat.le_refl _)
  clear hs2 hg1 hg2 H1
  go_wp2_with fail
  go_ret
  exact ⟨t, rfl, ht, hG2⟩
set_option maxRecDepth 100000 in
set_option maxHeartbeats 1600000 in
theorem drawExpand_any (w : World) (a : Option Addr) (len cap : Nat) (hl : len ≤ 1048576) (hby : BytesIn w w.heap.size a len) :
    Calls Try.prog 20 #[.slice a len cap] w fun e w' => ∃ v l, e = .returned v ∧ l.length ≤ 4010 ∧ TokI w' w'.heap.size v l ∧ w.grownBy w' none := by
  obtain ⟨i0, hi, hz0, hz1, hz2⟩ := info_parts Try.infoTok
  have HB := hide hby
  clear hby
  go_enter Try.func20, Try.ntmps20
  go_wp2_with fail
  refine (source_any _ a len cap hl HB.out).mono ?_
  rintro e w1 ⟨rfl, hs1, hg1⟩
  have H1 := hide hs1
  have hgz : w.heap.size < w1.heap.size := hs1.lt
  clear hs1
  go_wp2_with fail
  refine (src_text _ _ _ a len cap H1.out hg1.size).mono ?_
  rintro e w2 ⟨t, rfl, ht, hs2, hg2⟩
  have H2 := hide hs2
  have G2 := hide (grownBy_new hg1 hg2 (Nat.le_refl _))
  have hz2' := hg2.size
  clear hs2 hg1 hg2 H1
  go_wp2_with fail
  refine (spec_parse t _ (by omega)).mono ?_
  rintro e w3 ⟨v3, rfl, own3, hb3⟩
  have O3 := own_base own3 hz2'
  have H3 := hide (H2.out.kept (below_grownBy hb3) (fun k hk => by cases hk) G2.out.size)
  have G3 := hide (grownBy_trans G2.out (below_grownBy hb3))
  have hl3 := (parS_len t).1
  generalize parS t = l3 at *
  have O3' := hide O3
  have z3 := hb3.size
  clear own3 hb3 H2 G2 O3 ht
  go_wp2_with fail
  refine (src_n _ _ _ a len cap 4 (by omega) H3.out).mono ?_
  rintro e w4 ⟨y, rfl, y0, y1, hs4, hg4⟩
  obtain ⟨k4, rfl⟩ := Int.eq_ofNat_of_zero_le y0
  have hk4 : k4 < 4 := by omega
  have O4 := O3'.out.kept hg4 (.inr (fun e => by have := (O3'.out.lt _ e).1; omega))
  have H4 := hide hs4
  have G4 := hide (grownBy_new G3.out hg4 (Nat.le_refl _))
  have z4 := hg4.size
  clear hs4 hg4 H3 G3 O3' y1
  go_wp2_with fail
  go_loopw [4, 5] (fun lv i wx => ∃ (l : List Tok) (k : Nat), k ≤ 4 ∧ l.length + k ≤ 4004 ∧ i = .int .i64 k ∧ wx.ownsRow w1.heap.size 40 3 lv l.length (tokC l) ∧ Hid (Src 84 w.heap.size wx w.heap.size a len cap) ∧ Hid (w.grownBy wx none) ∧ w1.heap.size ≤ wx.heap.size) (fun _ i _ => (intOf i).toNat)
  case atStart => exact ⟨l3, k4, by omega, by omega, rfl, O4, H4, G4, by omega⟩
  case round =>
    clear O4 H4 G4
    obtain ⟨l, k, hk, hlk, rfl, hown, hs, hg, hws⟩ := hrel
    by_cases hk0 : 0 < k
    · have hk0' : (0 : Int) < (k : Int) := by omega
      have hkb : (k : Int) ≤ 4 := by omega
      have HO := hide hown
      clear hown
      go_wp2_with fail
      refine (src_token _ _ _ a len cap hs.out hg.out.size).mono ?_
      rintro e w5 ⟨x, rfl, hs5, hg5⟩
      obtain ⟨xb, xm, xf⟩ := x
      have O5 := HO.out.kept hg5 (.inr (fun e => by have := (HO.out.lt _ e).1; omega))
      have H5 := hide hs5
      have G5 := hide (grownBy_new hg.out hg5 (Nat.le_refl _))
      have z5 := hg5.size
      clear hs5 hg5 hs hg HO
      go_wp2_with (at_builtin; refine wpList_append_lies _ rfl _ _ 35 rfl w1.heap.size 40 i0 (.agg #[.int .i64 0, .int .i64 0, .int .i64 0]) 3 24 Try.underlying35 hi hz0 hz1 hz2 rfl (by omega) u4 l.length (tokC l) rfl (O5.alloc _) ⟨w5.heap.size, 0, none⟩ 1 1 [.int .i64 xb, .int .i64 xm, .int .i64 xf] rfl rfl (tri_cells _ _ _ _ _ _ rfl) (tri_one _ _ _) (by omega) (by unfold maxLen; omega) (by omega) (by simp; omega) (w5.heap.size + 1) (by simp) ?_)
      intro g' cap' w9 hown' hg' _ _
      have R1 : w9.ownsRow w1.heap.size 40 3 (.slice (some ⟨g', 0, none⟩) (l.length + 1) cap') (l ++ [(⟨xb, xm, xf⟩ : Tok)]).length (tokC (l ++ [(⟨xb, xm, xf⟩ : Tok)])) := by
        rw [tokC_snoc, List.length_append]; exact hown'
      have R2 := hide (show Src 84 w.heap.size w9 w.heap.size a len cap from (H5.out.kept (grownBy_alloc (World.grownBy.refl w5 none) _) (fun k hk => by cases hk) G5.out.size).kept hg' (fun k hk => by have := (O5.lt k hk).1; exact ⟨by omega, by omega⟩) (by simp; have := G5.out.size; omega))
      have R3 := hide (below_grownBy (((grownBy_toBelow G5.out).alloc G5.out.size _).grown hg' (by simp; have := G5.out.size; omega) (fun x hx => by have := (O5.lt x hx).1; omega)))
      have R4 : w1.heap.size ≤ w9.heap.size := by have := hg'.size; simp at this; omega
      clear hown' hg' H5 G5 O5
      go_wp2_with fail
      go_roundw
      case rel => exact ⟨l ++ [(⟨xb, xm, xf⟩ : Tok)], k - 1, by omega, by simp; omega, congrArg _ (by omega), R1, R2, R3, R4⟩
      case measure => simp [intOf]; omega
    · have hk0' : ¬ (0 : Int) < (k : Int) := by omega
      have HO := hide hown
      clear hown
      go_wp2_with fail
      refine (src_one _ _ _ a len cap 6 (by omega) hs.out).mono ?_
      rintro e w5 ⟨r, rfl, hs5, hg5⟩
      have O5 := hide (HO.out.kept hg5 (.inr (fun e => by have := (HO.out.lt _ e).1; omega)))
      have H5 := hide hs5
      have G5 := hide (grownBy_new hg.out hg5 (Nat.le_refl _))
      clear hs5 hg5 hs hg HO
      cases r with
      | false =>
        go_wp2_with fail
        go_ret
        exact ⟨u4, l, rfl, by omega, own_toks O5.out, G5.out⟩
      | true =>
        go_wp2_with fail
        refine (src_token _ _ _ a len cap H5.out G5.out.size).mono ?_
        rintro e w6 ⟨x, rfl, hs6, hg6⟩
        obtain ⟨xb, xm, xf⟩ := x
        have O6 := hide (O5.out.kept hg6 (.inr (fun e => by have := (O5.out.lt _ e).1; omega)))
        have G6 := hide (grownBy_new G5.out hg6 (Nat.le_refl _))
        clear hs6 hg6 O5 H5 G5
        have OA := hide (O6.out.alloc (.cells #[.int .i64 xb, .int .i64 xm, .int .i64 xf] 40))
        have BA := hide ((grownBy_toBelow G6.out).alloc G6.out.size (.cells #[.int .i64 xb, .int .i64 xm, .int .i64 xf] 40))
        have OS := hide (World.ownsRow_lit (e := 40) (size := 3) (base := w6.heap.size) w6 #[.int .i64 xb, .int .i64 xm, .int .i64 xf] 1 (Nat.le_refl _) (by decide) rfl)
        have hsz6 : (w6.alloc (.cells #[.int .i64 xb, .int .i64 xm, .int .i64 xf] 40)).heap.size = w6.heap.size + 1 := by simp
        have HSZ := hide hsz6
        clear hsz6
        have hcs : (u4 = .slice none 0 0 ∧ l = []) ∨ ∃ g4 c4, u4 = .slice (some ⟨g4, 0, none⟩) l.length c4 := by
          obtain ⟨_, ⟨e, e0⟩ | ⟨g4, c4, cur, e, _⟩⟩ := O6.out
          · exact .inl ⟨e, List.length_eq_zero_iff.1 e0⟩
          · exact .inr ⟨g4, c4, e⟩
        rcases hcs with ⟨hv, hl0⟩ | ⟨g4, c4, hv⟩
        · subst hv
          go_wp2_with (at_builtin; refine wpList_append_own_none rfl _ _ 35 rfl w6.heap.size 40 i0 3 Try.underlying35 hi (.slice (some ⟨w6.heap.size, 0, none⟩) 1 1) 1 _ rfl OS.out rfl ?_)
          have R1 : (w6.alloc (.cells #[.int .i64 xb, .int .i64 xm, .int .i64 xf] 40)).ownsRow w6.heap.size 40 3 (.slice (some ⟨w6.heap.size, 0, none⟩) 1 1) [(⟨xb, xm, xf⟩ : Tok)].length (tokC [(⟨xb, xm, xf⟩ : Tok)]) := OS.out
          have HR := hide (own_toks R1)
          clear R1 OS OA
          go_wp2_with fail
          go_ret
          exact ⟨_, [(⟨xb, xm, xf⟩ : Tok)], rfl, by show 1 ≤ 4010; omega, HR.out, below_grownBy BA.out⟩
        · subst hv
          have hnews := hide (show ∀ j u, (tokC l)[j]? = some u → (w6.alloc (.cells #[.int .i64 xb, .int .i64 xm, .int .i64 xf] 40)).cell? ((⟨g4, 0, none⟩ : Addr).add j) = some u from fun j u hu => by
            have e3 : (⟨g4, 0, none⟩ : Addr).add j = ⟨g4, j, none⟩ := by by_cases hz : j = 0 <;> simp [Addr.add, hz]
            have hj : j < l.length * 3 := by have := (List.getElem?_eq_some_iff.1 hu).1; rw [tokC_len] at this; exact this
            rw [e3, OA.out.cellAt j hj, hu])
          have hlt4 := hide (fun k hk => (O6.out.lt k hk).2)
          go_wp2_with (at_builtin; refine wpList_append_own _ rfl _ _ 35 rfl w6.heap.size 40 i0 (.agg #[.int .i64 0, .int .i64 0, .int .i64 0]) 3 24 Try.underlying35 hi hz0 hz1 hz2 rfl (by omega) (.slice (some ⟨w6.heap.size, 0, none⟩) 1 1) 1 _ rfl OS.out ⟨g4, 0, none⟩ l.length c4 (tokC l) rfl (tokC_len l) hnews.out (tokC_one l) (by unfold maxLen; omega) (by omega) (by simp) ?_)
          intro v9 w9 hown' hg' _
          have R1 : w9.ownsRow w6.heap.size 40 3 v9 ((⟨xb, xm, xf⟩ : Tok) :: l).length (tokC ((⟨xb, xm, xf⟩ : Tok) :: l)) := by
            rw [tokC_cons, List.length_cons, Nat.add_comm l.length 1]; exact hown'
          have HR := hide (own_toks R1)
          have hR3 : ∀ x, (Value.slice (some ⟨w6.heap.size, 0, none⟩) 1 1).ownBlock = some x → w.heap.size ≤ x := by
            intro x hx
            have hx' : w6.heap.size = x := by simpa [Value.ownBlock] using hx
            have := G6.out.size
            omega
          have R3 := hide (below_grownBy (BA.out.grown hg' BA.out.size hR3))
          clear R1 OS OA hown' hg' hnews hlt4
          go_wp2_with fail
          go_ret
          exact ⟨v9, (⟨xb, xm, xf⟩ : Tok) :: l, rfl, by rw [List.length_cons]; omega, HR.out, R3.out⟩
end Go.Proofs.Ytdoodkabmeojmaa

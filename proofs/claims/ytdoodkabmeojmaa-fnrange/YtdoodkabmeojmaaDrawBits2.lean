/- The walk over the model's l05Bits. -/
import Derived.Test.YtdoodkabmeojmaaDrawBits
namespace Go.Proofs.Ytdoodkabmeojmaa
open Go.RowKit
theorem Src.size {T B : Nat} {w : World} {g : Nat} {a : Option Addr} {len cap : Nat} (h : Src T B w g a len cap) : ∃ sz : Int, 0 ≤ sz ∧ sz ≤ 12 ∧ w.cell? ⟨g, 3, none⟩ = some (.int .i64 sz) := by
  obtain ⟨_, _, _, p, mix, sz, _, _, _, hs, hh⟩ := h
  exact ⟨sz, hs.1, hs.2, (four_cells hh).1.2.2.2⟩
theorem Try.infoBit : (Try.prog.info? 28).map (fun i => (i.zero, i.size, i.bytes)) = some (some (.agg #[.int .i64 0, .bool false]), 2, 16) := by kernel_rfl
theorem own_ne {wx : World} {base e size n g : Nat} {v : Value} {xs : List Value} (h : wx.ownsRow base e size v n xs) (hg : g < base) : v.ownBlock ≠ some g := fun e => by have := (h.lt g e).1; omega
theorem two_cells (w : World) (x y : Value) (t n : Nat) (hn : w.heap.size = n) : ∀ (j : Nat) (u : Value), [x, y][j]? = some u → (w.alloc (.cells #[x, y] t)).cell? ((⟨n, 0, none⟩ : Addr).add j) = some u := by
  subst hn; exact World.news_of_block (heap_alloc_new w (.cells #[x, y] t))
theorem two_one (x : Int) (y : Bool) : ∀ u ∈ [Value.int .i64 x, Value.bool y], u.oneCell' = true := by intro u hu; simp at hu; rcases hu with rfl | rfl <;> rfl
theorem all_snoc {l : List (Int × Bool)} {c : Int} {o : Bool} (h : ∀ x ∈ l, -9223372036854775808 ≤ x.1 ∧ x.1 ≤ 9223372036854775807) (c0 : 0 ≤ c) (c1 : c ≤ 100) : ∀ x ∈ l ++ [(c, o)], -9223372036854775808 ≤ x.1 ∧ x.1 ≤ 9223372036854775807 := by
  intro x hx
  rcases List.mem_append.1 hx with hx | hx
  · exact h x hx
  · have e : x = (c, o) := by simpa using hx
    subst e
    exact ⟨by show _ ≤ c; omega, by show c ≤ _; omega⟩
theorem own_len {wx : World} {base e size n : Nat} {v : Value} {xs : List Value} (h : wx.ownsRow base e size v n xs) : ∃ a cap, v = .slice a n cap ∧ n ≤ cap ∧ (0 < n → ∃ go, a = some ⟨go, 0, none⟩) := by
  obtain ⟨_, ⟨rfl, e⟩ | ⟨go, cap, cur, rfl, _, _, hc, _⟩⟩ := h
  · exact ⟨none, 0, by rw [e], by omega, fun h => by omega⟩
  · exact ⟨_, cap, rfl, hc, fun _ => ⟨go, rfl⟩⟩
theorem bitC_set : ∀ (l : List (Int × Bool)) (j : Nat) (x : Int × Bool) (y : Int), l[j]? = some x → (bitC l).set (2 * j) (.int .i64 y) = bitC (l.set j (y, x.2))
  | [], j, x, y, h => by simp at h
  | z :: l, 0, x, y, h => by
    have e : z = x := by simpa using h
    subst e; rfl
  | z :: l, j + 1, x, y, h => by
    have h2 := bitC_set l j x y (by simpa using h)
    show (Value.int .i64 z.1 :: Value.bool z.2 :: bitC l).set (2 * (j + 1)) _ = Value.int .i64 z.1 :: Value.bool z.2 :: bitC (l.set j (y, x.2))
    rw [show 2 * (j + 1) = 2 * j + 1 + 1 by omega, List.set_cons_succ, List.set_cons_succ, h2]
theorem four_at (y : Int) (y0 : -9223372036854775808 ≤ y) (y1 : y ≤ 9223372036854775807) (k : Nat) (hk : k < 4) : ∃ x : Int, -9223372036854775808 ≤ x ∧ x ≤ 9223372036854775807 ∧ (#[.int .i64 (-1), .int .i64 1599, .int .i64 1600, .int .i64 y] : Array Value)[k]? = some (.int .i64 x) := by
  match k, hk with
  | 0, _ => exact ⟨-1, by omega, by omega, rfl⟩
  | 1, _ => exact ⟨1599, by omega, by omega, rfl⟩
  | 2, _ => exact ⟨1600, by omega, by omega, rfl⟩
  | 3, _ => exact ⟨y, y0, y1, rfl⟩
set_option maxRecDepth 100000 in
set_option maxHeartbeats 1600000 in
theorem src_bits (B : Nat) (w : World) (g : Nat) (a : Option Addr) (len cap : Nat) (hs : Src 84 B w g a len cap) (hB : B ≤ w.heap.size) :
    Calls Try.prog 31 #[.pointer (some ⟨g, 0, none⟩)] w fun e w' => ∃ v l, e = .returned v ∧ l.length ≤ 260 ∧ (∀ x ∈ l, -9223372036854775808 ≤ x.1 ∧ x.1 ≤ 9223372036854775807) ∧ w'.ownsRow w.heap.size 28 2 v l.length (bitC l) ∧ Src 84 B w' g a len cap ∧ w.grownBy w' (some g) := by
  obtain ⟨i0, hi, hz0, hz1, hz2⟩ := info_parts Try.infoBit
  have hgl := hs.lt
  have hown0 := hide (show (w.alloc (.cells #[] 28)).ownsRow w.heap.size 28 2 (.slice (some ⟨w.heap.size, 0, none⟩) 0 0) 0 [] by
    have h := World.ownsRow_made (e := 28) (size := 2) (base := w.heap.size) w #[] 0 (Nat.le_refl _) (by decide) (by simp)
    simpa using h)
  have hs0 := hide (hs.kept (grownBy_alloc (World.grownBy.refl w none) (.cells #[] 28)) (fun k hk => by cases hk) hB)
  have hg0 := hide (show w.grownBy (w.alloc (.cells #[] 28)) (some g) from grownBy_alloc (World.grownBy.refl w (some g)) _)
  have hw0 : (w.alloc (.cells #[] 28)).heap.size = w.heap.size + 1 := by simp
  clear hs
  go_enter Try.func31, Try.ntmps31
  go_wp2_with fail
  generalize w.alloc (.cells #[] 28) = W0 at *
  have HW0 := hide hw0
  clear hw0
  refine (src_one B W0 g a len cap 2 (by omega) hs0.out).mono ?_
  rintro e w1 ⟨often, rfl, hs1, hg1⟩
  have G1 := hide (grownBy_trans hg0.out hg1)
  have O1 := hide (hown0.out.kept hg1 (.inr (by simp [Value.ownBlock]; omega)))
  obtain ⟨sz, z0, z1, c3⟩ := hs1.size
  have HS1 := hide hs1
  have m20 : IntKind.i64.wrap (20 * sz) = 20 * sz := by rw [IntKind.wrap_i64]; omega
  clear hs0 hg0 hown0 hg1 hs1
  go_wp2_with fail
  refine (src_n B w1 g a len cap _ (by omega) HS1.out).mono ?_
  rintro e w2 ⟨k0, rfl, k00, k01, hs2, hg2⟩
  have G2 := hide (grownBy_trans G1.out hg2)
  have O2 := hide (O1.out.kept hg2 (.inr (by simp [Value.ownBlock]; omega)))
  have HS2 := hide hs2
  obtain ⟨kN, rfl⟩ := Int.eq_ofNat_of_zero_le k00
  have hkN : kN ≤ 260 := by omega
  clear HS1 G1 O1 hg2 hs2 c3 m20 k01
  go_wp2_with fail
  go_loopw [3, 5] (fun v i wx => ∃ (k : Nat) (l : List (Int × Bool)), k + l.length ≤ 260 ∧ i = .int .i64 k ∧ wx.ownsRow w.heap.size 28 2 v l.length (bitC l) ∧ Hid (∀ x ∈ l, -9223372036854775808 ≤ x.1 ∧ x.1 ≤ 9223372036854775807) ∧ Hid (Src 84 B wx g a len cap) ∧ Hid (w.grownBy wx (some g))) (fun _ i _ => (intOf i).toNat)
  case atStart => exact ⟨kN, [], by simpa using hkN, rfl, O2.out, fun x hx => by simp at hx, HS2, G2⟩
  case round =>
    clear O2 HS2 G2
    obtain ⟨k, l, hkl, rfl, hown, hall, hsr, hgr⟩ := hrel
    have hws := hgr.out.size
    by_cases hk : 0 < k
    · have hk' : (0 : Int) < (k : Int) := by omega
      go_wp2_with fail
      refine (src_n B wr g a len cap 3 (by omega) hsr.out).mono ?_
      rintro e w3 ⟨c, rfl, c0, c1, hs3, hg3⟩
      have G3 := hide (grownBy_trans hgr.out hg3)
      have O3 := hide (hown.kept hg3 (.inr (own_ne hown hgl)))
      have HS3 := hide hs3
      clear hgr hown hsr hs3 hg3
      go_wp2_with fail
      refine (src_one B w3 g a len cap 2 (by omega) HS3.out).mono ?_
      rintro e w4 ⟨one, rfl, hs4, hg4⟩
      have G4 := hide (grownBy_trans G3.out hg4)
      have O4 := hide (O3.out.kept hg4 (.inr (own_ne O3.out hgl)))
      have HS4 := hide hs4
      clear G3 O3 HS3 hs4 hg4
      have hws4 := G4.out.size
      cases often with
      | false =>
        have OX := hide (O4.out.alloc (.cells #[.int .i64 c, .bool one] 28))
        have SX := hide (HS4.out.kept (grownBy_alloc (World.grownBy.refl w4 none) (.cells #[.int .i64 c, .bool one] 28)) (fun k hk => by cases hk) (by omega))
        have GX := hide (grownBy_alloc G4.out (.cells #[.int .i64 c, .bool one] 28))
        clear O4 HS4 G4
        go_wp2_with (at_builtin; refine wpList_append_lies _ rfl _ _ 23 rfl w.heap.size 28 i0 (.agg #[.int .i64 0, .bool false]) 2 16 Try.underlying23 hi hz0 hz1 hz2 rfl (by omega) u3 l.length (bitC l) rfl (OX.out.alloc _) ⟨(w4.heap.size + 1), 0, none⟩ 1 1 [.int .i64 c, .bool one] rfl rfl (two_cells _ _ _ _ _ (by simp)) (two_one _ _) (by omega) (by unfold maxLen; omega) (by omega) (by have := hws4; simp; omega) ((w4.heap.size + 1) + 1) (by simp ) ?_)
        intro g' cap' w9 hown' hg' _ _
        have R1 : w9.ownsRow w.heap.size 28 2 (.slice (some ⟨g', 0, none⟩) (l.length + 1) cap') (l ++ [(c, one)]).length (bitC (l ++ [(c, one)])) := by
          rw [bitC_snoc, List.length_append]; exact hown'
        have R2 := hide (SX.out.kept (grownBy_trans (grownBy_alloc (World.grownBy.refl _ u3.ownBlock) _) hg') (fun k hk => ⟨by have := (OX.out.lt k hk).1; omega, fun e => own_ne OX.out hgl (by rw [hk, e])⟩) (by have := hws4; simp; omega))
        have R3 := hide (show w.grownBy w9 (some g) from ⟨hg'.os.trans GX.out.os, hg'.tape.trans GX.out.tape, hg'.output.trans GX.out.output, Nat.le_trans GX.out.size (Nat.le_trans (by simp) hg'.size), fun k hk hr => (hg'.block k (Nat.lt_of_lt_of_le hk (Nat.le_trans GX.out.size (by simp))) (fun e => by have := (OX.out.lt k e.symm).1; omega)).trans ((Below.heap_alloc _ _ k (Nat.lt_of_lt_of_le hk GX.out.size)).trans (GX.out.block k hk hr))⟩)
        have R4 := hide (all_snoc (o := one) hall.out c0 (by omega))
        clear hown' hg' OX SX GX hall
        go_wp2_with fail
        go_roundw
        case rel => exact ⟨k - 1, l ++ [(c, one)], by simp; omega, by go_num, R1, R4, R2, R3⟩
        case measure => simp [intOf]; omega
      | true =>
        obtain ⟨z, hz⟩ : ∃ z, z = w4.heap.size := ⟨_, rfl⟩
        have O5 := hide (O4.out.alloc (.cells #[.int .i64 c, .bool one] 28))
        have S5 := hide (HS4.out.kept (grownBy_alloc (World.grownBy.refl w4 none) (.cells #[.int .i64 c, .bool one] 28)) (fun k hk => by cases hk) (by omega))
        have G5 := hide (grownBy_alloc G4.out (.cells #[.int .i64 c, .bool one] 28))
        have hz5 := heap_alloc_new w4 (.cells #[.int .i64 c, .bool one] 28)
        have hlt4 := hide (fun k hk => (O4.out.lt k hk).2)
        clear O4 HS4 G4
        go_wp2_with fail
        rw [← hz] at hz5 hlt4 ⊢
        have hsz5 : z < (w4.alloc (.cells #[.int .i64 c, .bool one] 28)).heap.size := by rw [hz]; simp
        generalize w4.alloc (.cells #[.int .i64 c, .bool one] 28) = W5 at *
        refine (src_one B W5 g a len cap 40 (by omega) S5.out).mono ?_
        rintro e w5 ⟨x, rfl, hs5, hg5⟩
        have hzz := (hg5.block z hsz5 (fun e => by have := Option.some.inj e; omega)).trans hz5
        have d0 : w5.cell? ⟨z, 0, none⟩ = some (.int .i64 c) := by simp [World.cell?, hzz]
        have d1 : w5.cell? ⟨z, 1, none⟩ = some (.bool one) := by simp [World.cell?, hzz]
        have f1 : w5.frozen? ⟨z, 1, none⟩ = false := by simp [World.frozen?, hzz]
        have e0 : (w5.setCell ⟨z, 1, none⟩ (.bool (!x))).cell? ⟨z, 0, none⟩ = some (.int .i64 c) := by rw [World.cell?_setCell_other _ _ _ _ (by simp)]; exact d0
        have e1 : (w5.setCell ⟨z, 1, none⟩ (.bool (!x))).cell? ⟨z, 1, none⟩ = some (.bool (!x)) := World.cell?_setCell_same _ _ _ d1
        have O6 := O5.out.kept hg5 (.inr (own_ne O5.out hgl))
        have hset : w5.grownBy (w5.setCell ⟨z, 1, none⟩ (.bool (!x))) (some z) := grownBy_set (World.grownBy.refl w5 (some z)) _
        have OX := hide (O6.kept hset (.inr (fun e => by have := hlt4.out z e; omega)))
        have SX := hide (hs5.kept hset (fun k hk => by cases hk; exact ⟨by omega, by omega⟩) (by have := G5.out.size; have := hg5.size; omega))
        have G6 := grownBy_trans G5.out hg5
        have GX := hide (show w.grownBy (w5.setCell ⟨z, 1, none⟩ (.bool (!x))) (some g) from ⟨G6.os, G6.tape, G6.output, by simpa [World.setCell] using G6.size, fun k hk hr => (Below.heap_setCell _ _ _ _ (by show k ≠ z; omega)).trans (G6.block k hk hr)⟩)
        have hws4 := G6.size
        clear O5 S5 G5 hz5 hlt4 hs5 hg5 hzz O6 hset G6 hz
        go_wp2_with (at_builtin; refine wpList_append_lies _ rfl _ _ 23 rfl w.heap.size 28 i0 (.agg #[.int .i64 0, .bool false]) 2 16 Try.underlying23 hi hz0 hz1 hz2 rfl (by omega) u3 l.length (bitC l) rfl (OX.out.alloc _) ⟨w5.heap.size, 0, none⟩ 1 1 [.int .i64 c, .bool (!x)] rfl rfl (two_cells _ _ _ _ _ (by simp)) (two_one _ _) (by omega) (by unfold maxLen; omega) (by omega) (by have := hws4; simp; omega) (w5.heap.size + 1) (by simp ) ?_)
        intro g' cap' w9 hown' hg' _ _
        have R1 : w9.ownsRow w.heap.size 28 2 (.slice (some ⟨g', 0, none⟩) (l.length + 1) cap') (l ++ [(c, !x)]).length (bitC (l ++ [(c, !x)])) := by
          rw [bitC_snoc, List.length_append]; exact hown'
        have R2 := hide (SX.out.kept (grownBy_trans (grownBy_alloc (World.grownBy.refl _ u3.ownBlock) _) hg') (fun k hk => ⟨by have := (OX.out.lt k hk).1; omega, fun e => own_ne OX.out hgl (by rw [hk, e])⟩) (by have := hws4; simp; omega))
        have R3 := hide (show w.grownBy w9 (some g) from ⟨hg'.os.trans GX.out.os, hg'.tape.trans GX.out.tape, hg'.output.trans GX.out.output, Nat.le_trans GX.out.size (Nat.le_trans (by simp) hg'.size), fun k hk hr => (hg'.block k (Nat.lt_of_lt_of_le hk (Nat.le_trans GX.out.size (by simp))) (fun e => by have := (OX.out.lt k e.symm).1; omega)).trans ((Below.heap_alloc _ _ k (Nat.lt_of_lt_of_le hk GX.out.size)).trans (GX.out.block k hk hr))⟩)
        have R4 := hide (all_snoc (o := !x) hall.out c0 (by omega))
        clear hown' hg' OX SX GX hall
        go_wp2_with fail
        go_roundw
        case rel => exact ⟨k - 1, l ++ [(c, !x)], by simp; omega, by go_num, R1, R4, R2, R3⟩
        case measure => simp [intOf]; omega
    · have hk' : ¬ (0 : Int) < (k : Int) := by omega
      obtain ⟨ao, capo, rfl, hcapo, hform⟩ := own_len hown
      go_wp2_with fail
      refine (src_one B wr g a len cap 20 (by omega) hsr.out).mono ?_
      rintro e w3 ⟨x, rfl, hs3, hg3⟩
      have G3 := hide (grownBy_trans hgr.out hg3)
      have O3 := hown.kept hg3 (.inr (own_ne hown hgl))
      have HS3 := hide hs3
      clear hgr hown hsr hs3 hg3
      cases x with
      | false =>
        have OO := hide O3
        clear O3
        go_wp2_with fail
        go_ret
        exact ⟨_, l, rfl, by omega, hall.out, OO.out, HS3.out, G3.out⟩
      | true =>
        by_cases hl : 0 < l.length
        · have hl' : (0 : Int) < (l.length : Int) := by omega
          obtain ⟨go, rfl⟩ := hform hl
          have hgo := O3.lt go rfl
          have OO := hide O3
          clear O3 hform
          go_wp2_with fail
          refine (src_n B w3 g a len cap _ (by omega) HS3.out).mono ?_
          rintro e w4 ⟨i, rfl, i0', i1', hs4, hg4⟩
          obtain ⟨ix, rfl⟩ := Int.eq_ofNat_of_zero_le i0'
          have hix : ix < l.length := by omega
          have G4 := hide (grownBy_trans G3.out hg4)
          have O4 := hide (OO.out.kept hg4 (.inr (own_ne OO.out hgl)))
          have HS4 := hide hs4
          clear G3 OO HS3 hs4 hg4 i1' i0'
          go_wp2_with fail
          refine (src_edge B w4 g a len cap HS4.out).mono ?_
          rintro e w5 ⟨y, rfl, y0, y1, hs5, hg5⟩
          have G5 := hide (grownBy_trans G4.out hg5)
          have O5 := hide (O4.out.kept hg5 (.inr (own_ne O4.out hgl)))
          have w5s := G5.out.size
          have HS5 := hide (hs5.kept (grownBy_alloc (World.grownBy.refl w5 none) (.cells #[.int .i64 (-1), .int .i64 1599, .int .i64 1600, .int .i64 y] 2)) (fun k hk => by cases hk) (by omega))
          have G6 := hide (grownBy_alloc G5.out (.cells #[.int .i64 (-1), .int .i64 1599, .int .i64 1600, .int .i64 y] 2))
          have O6 := hide (O5.out.alloc (.cells #[.int .i64 (-1), .int .i64 1599, .int .i64 1600, .int .i64 y] 2))
          have hz6 := heap_alloc_new w5 (.cells #[.int .i64 (-1), .int .i64 1599, .int .i64 1600, .int .i64 y] 2)
          have hsz6 : w5.heap.size < (w5.alloc (.cells #[.int .i64 (-1), .int .i64 1599, .int .i64 1600, .int .i64 y] 2)).heap.size := by simp
          have hgo5 := (O5.out.lt go rfl).2
          clear G4 O4 HS4 hs5 hg5 G5 O5
          go_wp2_with fail
          generalize w5.alloc (.cells #[.int .i64 (-1), .int .i64 1599, .int .i64 1600, .int .i64 y] 2) = W6 at *
          refine (src_n B W6 g a len cap 4 (by omega) HS5.out).mono ?_
          rintro e w7 ⟨m, rfl, m0, m1, hs7, hg7⟩
          obtain ⟨mx, rfl⟩ := Int.eq_ofNat_of_zero_le m0
          have hmx : mx < 4 := by omega
          obtain ⟨q, q0, q1, hq⟩ := four_at y y0 y1 mx hmx
          have hzz := (hg7.block w5.heap.size hsz6 (fun e => by have := Option.some.inj e; omega)).trans hz6
          have d0 : w7.cell? ⟨w5.heap.size, mx, none⟩ = some (.int .i64 q) := by rw [cell_of_row w7 _ mx _ _ _ hzz]; exact hq
          have O7 := O6.out.kept hg7 (.inr (own_ne O6.out hgl))
          obtain ⟨lx, hlx⟩ : ∃ x, l[ix]? = some x := ⟨_, List.getElem?_eq_getElem hix⟩
          obtain ⟨i2, hi2⟩ : ∃ n, n = 2 * ix := ⟨_, rfl⟩
          have n1 : 2 * ix = i2 := hi2.symm
          have n2 : ix * 2 = i2 := by omega
          have d1 : w7.cell? ⟨go, i2, none⟩ = some (.int .i64 lx.1) := by rw [O7.cellAt i2 (by omega), hi2]; exact (bitC_at l ix lx hlx).1
          have f1 := O7.frozenAt i2
          have G7 := grownBy_trans G6.out hg7
          obtain ⟨OS, GS⟩ := O7.stored i2 (.int .i64 q)
          rw [hi2, bitC_set l ix lx q hlx, ← hi2] at OS
          have OX := hide (show (w7.setCell ⟨go, i2, none⟩ (.int .i64 q)).ownsRow w.heap.size 28 2 (.slice (some ⟨go, 0, none⟩) l.length capo) (l.set ix (q, lx.2)).length (bitC (l.set ix (q, lx.2))) by rw [List.length_set]; exact OS)
          have SX := hide (hs7.kept GS (fun k hk => by cases hk; exact ⟨by omega, by omega⟩) (by have := G7.size; omega))
          have GX := hide (show w.grownBy (w7.setCell ⟨go, i2, none⟩ (.int .i64 q)) (some g) from ⟨G7.os, G7.tape, G7.output, by simpa [World.setCell] using G7.size, fun k hk hr => (Below.heap_setCell _ _ _ _ (by show k ≠ go; omega)).trans (G7.block k hk hr)⟩)
          have AX := hide (show ∀ x ∈ l.set ix (q, lx.2), -9223372036854775808 ≤ x.1 ∧ x.1 ≤ 9223372036854775807 from fun x hx => by
            rcases List.mem_or_eq_of_mem_set hx with h | h
            · exact hall.out x h
            · subst h; exact ⟨q0, q1⟩)
          have hix' : (ix : Int) < (l.length : Int) := by omega
          have hmx' : (mx : Int) < 4 := by omega
          clear O7 OS GS G7 G6 O6 HS5 hz6 hzz hs7 hg7 hall hq hlx hi2 m1
          go_wp2_with fail
          go_ret
          exact ⟨_, l.set ix (q, lx.2), rfl, by rw [List.length_set]; omega, AX.out, OX.out, SX.out, GX.out⟩
        · have hl' : ¬ (0 : Int) < (l.length : Int) := by omega
          have OO := hide O3
          clear O3
          go_wp2_with fail
          go_ret
          exact ⟨_, l, rfl, by omega, hall.out, OO.out, HS3.out, G3.out⟩
end Go.Proofs.Ytdoodkabmeojmaa

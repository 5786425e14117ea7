/- Put together: JoinedT, ImpPack, ApartF, ImpDif, ImpApartS, ImpDifB. -/
import Derived.Test.YtconcnndghmdfaaGreatDoorSe43
import Derived.Test.YtconcnndghmdfaaGreatDoorSe36
import Derived.Test.YtconcnndghmdfaaGreatDoorSe14
import Derived.Test.YtconcnndghmdfaaGreatDoorSe12
import Derived.BigRegion
namespace Go.Proofs.YtconcnndghmdfaaGreatDoor
open Go.RowKit

theorem cat_one (s : ByteArray) : (⟨(catB [s]).toArray⟩ : ByteArray) = s := by
  apply ByteArray.ext; simp [catB]
theorem cat_two (s t : ByteArray) : (⟨(catB [s, t]).toArray⟩ : ByteArray) = s ++ t := by
  apply ByteArray.ext; simp [catB]

theorem joined_one (s : ByteArray) (w : World) (b : Nat) (hbw : b = w.heap.size) (h : s.size ≤ 1099511627776) :
    Calls Tryz.prog 47 #[.slice (some ⟨b, 0, none⟩) 1 1] (w.alloc (.cells #[.string s] 9)) fun e w' => e = .returned (.string s) ∧ Below w.heap.size w w' := by
  subst hbw
  refine (joined_any w.heap.size [s] (w.alloc (.cells #[.string s] 9)) ?_ (by simp) (by simp) (by simpa [catB] using h)).mono ?_
  · intro j hj
    match j, hj with
    | 0, _ => simp
  · rintro e w' ⟨rfl, hb⟩
    exact ⟨by rw [cat_one], ((Below.refl w.heap.size w).alloc (Nat.le_refl _) _).trans (hb.mono (by simp))⟩
theorem joined_two (s t : ByteArray) (w : World) (b : Nat) (hbw : b = w.heap.size) (h : s.size + t.size ≤ 1099511627776) :
    Calls Tryz.prog 47 #[.slice (some ⟨b, 0, none⟩) 2 2] (w.alloc (.cells #[.string s, .string t] 9)) fun e w' => e = .returned (.string (s ++ t)) ∧ Below w.heap.size w w' := by
  subst hbw
  refine (joined_any w.heap.size [s, t] (w.alloc (.cells #[.string s, .string t] 9)) ?_ (by simp) (by simp) (by simpa [catB] using h)).mono ?_
  · intro j hj
    match j, hj with
    | 0, _ => simp
    | 1, _ => simp
  · rintro e w' ⟨rfl, hb⟩
    exact ⟨by rw [cat_two], ((Below.refl w.heap.size w).alloc (Nat.le_refl _) _).trans (hb.mono (by simp))⟩
end Go.Proofs.YtconcnndghmdfaaGreatDoor
namespace Go.Proofs.YtconcnndghmdfaaGreatDoor
open Go Go.RowKit Go.Shelf
attribute [local go_sem] Oper.semAt_some
/-- What lies in memory between two rounds: the box X of the coder's pointer, the coder g. -/
def PakAt (b X g : Nat) (w : World) (M : Nat → Prop) (pre : List Tok) (W : World) : Prop :=
  Boxed W X 74 (.pointer (some ⟨g, 0, none⟩)) ∧ ¬ M X ∧ X ≠ g ∧ ¬ M g ∧ (∃ ov, W.rowIs g 112 1603 (cdF (run rc0 (toksBits pre)).size (run rc0 (toksBits pre)).ch ((run rc0 (toksBits pre)).low % 4294967296) ov) ∧ ownB W b ov (run rc0 (toksBits pre)).n (byN (run rc0 (toksBits pre)).n ((run rc0 (toksBits pre)).low / 4294967296)) ∧ ov.ownBlock ≠ some g ∧ (∀ k, ov.ownBlock = some k → ¬ M k) ∧ ov.ownBlock ≠ some X) ∧ (∀ g, M g → b ≤ g ∧ g < W.heap.size) ∧ b ≤ W.heap.size ∧ Below b w W
theorem rowIs_cells {w : World} {g t n : Nat} {f : Nat → Value} (h : w.rowIs g t n f) : ∃ c, w.heap[g]? = some (.cells c t) := by
  obtain ⟨c, hc, _⟩ := h
  exact ⟨c, hc⟩
theorem own_cellsB {w : World} {base e size n : Nat} {v : Value} {xs : List Value} (h : w.ownsRow base e size v n xs) : ∀ g, v.ownBlock = some g → ∃ c, w.heap[g]? = some (.cells c e) := by
  intro g hg
  rcases h.2 with ⟨rfl, _⟩ | ⟨g', cap, cur, rfl, _, hgb, _⟩
  · simp [Value.ownBlock] at hg
  · obtain rfl : g' = g := by simpa [Value.ownBlock] using hg
    exact ⟨cur, hgb⟩
theorem pakAt_stands {b X g B : Nat} {w : World} (hB : b ≤ B) : StandsB B (PakAt b X g w) := by
  rintro M M' pre W W' ⟨h1, h2, h3, h4, ⟨ov, r1, r2, r3, r4, r5⟩, h5, h6, h7⟩ hm hM
  have off : ∀ k, k < W.heap.size → ¬ M k → ¬ M' k := fun k hk h hh => by
    rcases hM k hh with h' | h'
    · exact h h'
    · omega
  have hrg : W'.heap[g]? = W.heap[g]? := by
    obtain ⟨c, hc⟩ := rowIs_cells r1
    rw [hc, hm.cells h4 hc]
  refine ⟨hm.cells h2 h1, off X h1.lt h2, h3, off g r1.lt h4, ⟨ov, r1.of_block hrg, own_of_block r2 (fun k hk => ?_), r3, fun k hk => off k (World.ownsRow.lt r2 k hk).2 (r4 k hk), r5⟩, fun k hk => ?_, Nat.le_trans h6 hm.size, hm.toBelow h7 h6 hB (fun g hg => (h5 g hg).1)⟩
  · obtain ⟨c, hc⟩ := own_cellsB r2 k hk
    rw [hc, hm.cells (r4 k hk) hc]
  · rcases hM k hk with h | h
    · exact ⟨(h5 k h).1, Nat.lt_of_lt_of_le (h5 k h).2 hm.size⟩
    · exact ⟨Nat.le_trans h6 h.1, h.2⟩
set_option maxRecDepth 100000 in
set_option maxHeartbeats 3200000 in
theorem imp_pack (t : ByteArray) (w : World) (hts : t.size ≤ 9223372036854775807) :
    Calls Tryz.prog 30 #[.string t] w fun e w' => e = .returned (.string (packS t)) ∧ Below w.heap.size w w' := by
  by_cases h : t.size ≤ 4000
  · have h' : ¬ (4000 : Int) < (t.size : Int) := by omega
    have hE := hide (show packS t = packB t from if_pos h)
    have hpl := parseL_len (bF t) t.size
    have hbl := toksBits_len (parseL (bF t) t.size)
    have HOK := hide (show ∀ x ∈ parseL (bF t) t.size, tokOk x = true from parseG_ok _ _ _ _)
    obtain ⟨b, hb⟩ : ∃ b, b = w.heap.size := ⟨_, rfl⟩
    refine (callsIn_wide (n := 5)).1 ?_
    refine callsIn_of_wp_marks Tryz.func30 rfl trivial ?_ rfl
    simp only [Tryz.ntmps30, List.size_toArray, List.length_cons, List.length_nil, Nat.reduceAdd, Nat.reduceSub, Array.replicate_succ, Array.replicate_zero, List.push_toArray, List.append_toArray, List.nil_append, List.cons_append]
    refine Go.wpIn_mono (Q := noPan _) ?_ (noPan_to _)
    refine wpIn_wide.2 ?_
    have HBW := hide hb
    have SN := hide (imp_newCoder w)
    rw [← hb] at SN
    clear hb
    go_wp2_with fail
    refine SN.out.mono ?_
    rintro e w1 ⟨g, rfl, hbg, hc1, hb1⟩
    obtain ⟨X, hX⟩ : ∃ X, X = w1.heap.size := ⟨_, rfl⟩
    have bX := Boxed.new w1 74 (.pointer (some ⟨g, 0, none⟩))
    have hs1 := hb1.size
    have hgl : g < w1.heap.size := by obtain ⟨_, hr, _⟩ := hc1 0 (fun _ => True); exact hr.lt
    have hal1 : Below w1.heap.size w1 (w1.alloc (.cells #[.pointer (some ⟨g, 0, none⟩)] 74)) := (Below.refl _ w1).alloc (Nat.le_refl _) _
    have s2 : (w1.alloc (.cells #[.pointer (some ⟨g, 0, none⟩)] 74)).heap.size = X + 1 := by simp [hX]
    have c2 := hide (show CodK (w1.alloc (.cells #[.pointer (some ⟨g, 0, none⟩)] 74)) b g (X + 2) (fun _ => False) rc0 from by
      have h := hc1 (X + 2) (fun _ => False)
      exact h.keep hal1.block)
    have b2 := hide (hb1.trans (hal1.mono (by have := HBW.out; omega)))
    have hB : b ≤ w1.heap.size := by have := HBW.out; omega
    have bX' : Boxed (w1.alloc (.cells #[.pointer (some ⟨g, 0, none⟩)] 74)) X 74 (.pointer (some ⟨g, 0, none⟩)) := by rw [hX]; exact bX
    rw [← hX] at hgl hB
    have HX := hide hX
    clear bX hal1 hX hb1 hc1 hs1
    go_wp2_with fail
    rw [← HX.out]
    generalize w1.alloc (.cells #[.pointer (some ⟨g, 0, none⟩)] 74) = w2 at *
    refine (imp_tokensOf t w2).mono ?_
    rintro e w3 ⟨rfl, hw3⟩
    have s3 : w3.heap.size = X + 2 := by rw [hw3]; simp [s2]
    have hal3 : Below w2.heap.size w2 w3 := by rw [hw3]; exact (Below.refl _ w2).alloc (Nat.le_refl _) _
    have t3 : w3.heap[X + 1]? = some (.cells #[.string t] 9) := by rw [hw3, ← s2]; exact World.alloc_heap_new w2 _
    have b3 : Below b w w3 := b2.out.trans (hal3.mono (by omega))
    have bX3 : Boxed w3 X 74 (.pointer (some ⟨g, 0, none⟩)) := (hal3.block X (by omega)).trans bX'
    have c3 := hide (c2.out.keep hal3.block)
    clear hw3 hal3 bX' b2 c2
    rw [s2]
    go_wp2_with fail
    refine (wpIn_wide (n := 5)).1 ?_
    refine wpIn_rangeM rfl (by omega) (gf := 80) (lb := #[.pointer (some ⟨X + 1, 0, none⟩)]) rfl trivial (enters_of Tryz.func80 (by kernel_rfl) rfl) (toks_seq 4 (X + 1) (by omega) t h w3 t3) (fun g hg => by omega) (fun _ => rfl) (PakAt b X g w) (fun _ _ _ _ => False) (pakAt_stands (by omega)) (fun _ _ _ _ _ _ h _ _ => h)
      ?h0
      (fun x a' W => ∃ p, a' = { tmps := #[.string t, undef, .string ⟨#[]⟩, .pointer (some ⟨X, 0, none⟩), .pointer (some ⟨p, 0, none⟩), .string t, .int .i64 (t.size : Int), .bool false, .pointer (some ⟨g, 0, none⟩), .string t, .func (.func 80) #[] #[.pointer (some ⟨X + 1, 0, none⟩)], tokV x, undef, undef, undef, undef, undef, undef, undef, undef, undef, undef], defers := [] } ∧ W.heap[p]? = some (.cells #[.int .i64 x.b, .int .i64 x.m, .int .i64 x.f] 80))
      ?hAx ?assign ?body ?done ?stop
    case h0 =>
      obtain ⟨ov, hr, ho, hd, hmo⟩ := c3.out
      have hno : ∀ k, ov.ownBlock ≠ some k := fun k hk => by
        have := (World.ownsRow.lt ho k hk).2
        rcases hmo k hk with h | h
        · exact h
        · omega
      exact ⟨bX3, by omega, by omega, by omega, ⟨ov, hr, ho, hd, fun k hk => absurd hk (hno k), hno X⟩, fun k hk => by omega, by omega, b3⟩
    case hAx =>
      rintro x a' _ W W' row ⟨p, e, hp⟩ hg hrow
      refine ⟨p, e, (hg.block p (Array.getElem?_eq_some_iff.1 hp).1 (fun h => ?_)).trans hp⟩
      obtain ⟨_, o, ho, hc⟩ := hrow p h.symm
      rw [hp] at ho; cases ho; cases hc
    case assign =>
      intro l M pre x W K hI hK
      obtain ⟨xb, xm, xf⟩ := x
      simp only [tokV] at hK ⊢
      gi_wp2_with fail
      refine hK _ _ (KeepsFrom.below ((Below.refl _ W).alloc (Nat.le_refl _) _)) (KeptM.below ((Below.refl _ W).alloc (Nat.le_refl _) _)) ((pakAt_stands (B := b) (Nat.le_refl _)).alloc _ hI) ⟨W.heap.size, rfl, World.alloc_heap_new W _⟩
    case body =>
      rintro l M pre ⟨xb, xm, xf⟩ a' W ⟨h1, h2, h3, h4, hcod, h5, h6, h7⟩ ⟨p, rfl, hp⟩ hpre
      simp only [tokV]
      obtain ⟨ov, r1, r2, r3, r4, r5⟩ := hcod
      have hc := h1.cell
      have e0 : W.cell? ⟨p, 0, none⟩ = some (.int .i64 xb) := by simp [World.cell?, hp]
      have e1 : W.cell? ⟨p, 1, none⟩ = some (.int .i64 xm) := by simp [World.cell?, hp]
      have e2 : W.cell? ⟨p, 2, none⟩ = some (.int .i64 xf) := by simp [World.cell?, hp]
      have hok : tokOk ⟨xb, xm, xf⟩ = true := HOK.out _ (hpre.subset (by simp))
      have hplen : pre.length + 1 ≤ t.size := by have := hpre.length_le; simp at this; omega
      have hn1 := run_n_le (toksBits pre) rc0
      have hn2 := toksBits_len pre
      have hn3 : rc0.n = 0 := rfl
      have SP := hide (imp_putToken b g W.heap.size (fun k => ov.ownBlock = some k) (run rc0 (toksBits pre)) ⟨xb, xm, xf⟩ W hok (run_ok _ _ rc0_ok) (by omega) hbg ⟨ov, r1, r2, r3, fun k hk => .inl hk⟩ (Nat.le_refl _))
      have HH := hide (And.intro h1 (And.intro h7 (And.intro r1 (And.intro r2 (And.intro r4 r5)))))
      clear h1 h7 r1 r2 r4 r5 hn1 hn2 hn3 hok hp
      gi_wp2_with fail
      refine ⟨trivial, (CallsIn.inRound l (callsIn_wide.2 SP.out)).mono ?_⟩
      rintro e W' ⟨rfl, C9, hb9, hf9⟩
      obtain ⟨h1, h7, r1, r2, r4, r5⟩ := HH.out
      have R : roundPost w3.heap.size M (PakAt b X g w) (fun _ _ _ _ => False) (pre ++ [(⟨xb, xm, xf⟩ : Tok)]) W .normal ⟨#[], []⟩ W' := by
        have same : ∀ k, k < W.heap.size → k ≠ g → ov.ownBlock ≠ some k → W'.heap[k]? = W.heap[k]? := fun k hk => hf9.2 k hk
        refine ⟨⟨hf9.1, fun k o _ hk ho => ?_⟩, ⟨hf9.1, fun k hk hm => same k hk (fun e => h4 (e ▸ hm)) (fun e => r4 k e hm)⟩, ?_⟩
        · refine (same k (Array.getElem?_eq_some_iff.1 hk).1 (fun e => ?_) (fun e => ?_)).trans hk
          · obtain ⟨c, hc⟩ := rowIs_cells r1
            rw [e, hc] at hk; cases hk; cases ho
          · obtain ⟨c, hc⟩ := own_cellsB r2 k e
            rw [hc] at hk; cases hk; cases ho
        · obtain ⟨o2, p1, p2, p3, p4⟩ := C9
          refine ⟨(same X h1.lt h3 r5).trans h1, h2, h3, h4, ⟨o2, ?_, ?_, p3, fun k hk => ?_, fun hk => ?_⟩, fun k hk => ⟨(h5 k hk).1, Nat.lt_of_lt_of_le (h5 k hk).2 hf9.1⟩, Nat.le_trans h6 hf9.1, h7.trans hb9⟩
          · rw [toksBits_snoc, run_app]; exact p1
          · rw [toksBits_snoc, run_app]; exact p2
          · rcases p4 k hk with h | h
            · exact r4 k h
            · exact fun hm => by have := (h5 k hm).2; omega
          · rcases p4 X hk with h | h
            · exact r5 h
            · have := h1.lt; omega
      have HR := hide R
      clear R C9 hb9 hf9 h1 h7 r1 r2 r4 r5 SP HH
      gi_wp2_with fail
      exact HR.out
    case done =>
      rintro D M xs W hD hxs ⟨h1, h2, h3, h4, hcod, h5, h6, h7⟩ hK
      subst hxs
      obtain ⟨ov, r1, r2, r3, r4, r5⟩ := hcod
      have hc := h1.cell
      have hn1 := run_n_le (toksBits (parseL (bF t) t.size)) rc0
      have hn3 : rc0.n = 0 := rfl
      obtain ⟨s, hs⟩ : ∃ s, s = run rc0 (toksBits (parseL (bF t) t.size)) := ⟨_, rfl⟩
      rw [← hs] at r1 r2 hn1
      have hDl := (Array.getElem?_eq_some_iff.1 hK).1
      have hXl := h1.lt
      have hgW := r1.lt
      have dg : D ≠ g := fun e => by
        obtain ⟨c, hc⟩ := rowIs_cells r1
        rw [← e, hK] at hc; cases hc
      have dov : ov.ownBlock ≠ some D := fun e => by
        obtain ⟨c, hc⟩ := own_cellsB r2 D e
        rw [hK] at hc; cases hc
      obtain ⟨C, hC⟩ : ∃ C : ByteArray, C = ⟨(bytesOf (s.n + 4) s.low).toArray⟩ := ⟨_, rfl⟩
      obtain ⟨Q, hQ⟩ : ∃ Q : ByteArray, Q = ⟨(encNum (foldNum t.size)).toArray⟩ := ⟨_, rfl⟩
      have hsz : Q.size + C.size ≤ 1099511627776 := by
        have z1 := size_mk (bytesOf (s.n + 4) s.low)
        have z2 := size_mk (encNum (foldNum t.size))
        rw [← hC, bytesOf_len] at z1
        rw [← hQ] at z2
        have := encNum_le 1 (foldNum t.size) (by unfold foldNum; rw [if_neg (by omega)]; show (2 * (t.size : Int)).toNat < 16384; omega)
        omega
      have SE := hide (show ∀ u : World, (∀ k, k < W.heap.size → u.heap[k]? = W.heap[k]?) → W.heap.size ≤ u.heap.size → Calls Tryz.prog 56 #[.pointer (some ⟨g, 0, none⟩)] u fun e w' => e = .returned (.string C) ∧ Below b u w' ∧ FrK W.heap.size g (fun k => ov.ownBlock = some k) u w' from fun u hu hus => by
        rw [hC]
        exact imp_endK b g W.heap.size (fun k => ov.ownBlock = some k) s u (by omega) hbg ⟨ov, r1.of_block (hu g hgW), own_of_block r2 (fun k hk => hu k (World.ownsRow.lt r2 k hk).2), r3, fun k hk => .inl hk⟩ hus)
      have SN := hide (show ∀ u : World, Calls Tryz.prog 28 #[.int .i64 (t.size : Int)] u fun e w' => e = .returned (.string Q) ∧ Below u.heap.size u w' from fun u => by
        rw [hQ]; exact impl_putNum (t.size : Int) u (by omega) (by omega))
      have HPB := hide (show Q ++ C = packB t from by rw [hQ, hC, hs]; rfl)
      have FIN := hide (show ∀ u1 u2 u3 : World, Below W.heap.size W u1 → Below b u1 u2 → FrK W.heap.size g (fun k => ov.ownBlock = some k) u1 u2 → Below u2.heap.size u2 u3 → u3.heap[D]? = some (.deferred (some [])) ∧ Below b w u3 from fun u1 u2 u3 a1 a2 a3 a4 =>
        ⟨(a4.block D (by have := a1.size; have := a3.1; omega)).trans ((a3.2 D hDl dg dov).trans ((a1.block D hDl).trans hK)), ((h7.trans (a1.mono h6)).trans a2).trans (a4.mono (by have := a1.size; have := a3.1; omega))⟩)
      have FIN2 := hide (show ∀ u1 u2 u3 : World, Below b W u1 → FrK W.heap.size g (fun k => ov.ownBlock = some k) W u1 → Below u1.heap.size u1 u2 → Below u2.heap.size u2 u3 → u3.heap[D]? = some (.deferred (some [])) ∧ Below b w u3 from fun u1 u2 u3 a2 a3 a1 a4 =>
        ⟨(a4.block D (by have := a1.size; have := a3.1; omega)).trans ((a1.block D (by have := a3.1; omega)).trans ((a3.2 D hDl dg dov).trans hK)), ((h7.trans a2).trans (a1.mono (by have := a3.1; omega))).trans (a4.mono (by have := a1.size; have := a3.1; omega))⟩)
      clear hQ hC hs hK h7 r1 r2 r3 r4 r5 h5 dg dov hn1
      go_wp2_with fail
      go_region_with (first
        | (go_at_call 28; refine (SN.out _).mono ?_; rintro e wN ⟨rfl, hbN⟩; try (have hcN : wN.cell? ⟨X, 0, none⟩ = some (.pointer (some ⟨g, 0, none⟩)) := Boxed.cell ((hbN.block X hXl).trans h1)))
        | (go_at_call 56; refine (SE.out _ (by first | exact fun _ _ => rfl | exact fun k hk => hbN.block k hk) (by first | exact Nat.le_refl _ | exact hbN.size)).mono ?_; rintro e wE ⟨rfl, hbE, hfE⟩)
        | (go_at_call 47; refine (joined_two Q C _ _ rfl hsz).mono ?_; rintro e wJ ⟨rfl, hbJ⟩))
      all_goals
        obtain ⟨fD, fB⟩ : wJ.heap[D]? = some (.deferred (some [])) ∧ Below b w wJ := by
          first
            | exact FIN.out wN wE wJ ⟨hbN.os, hbN.tape, hbN.output, hbN.size, hbN.block⟩ hbE hfE hbJ
            | exact FIN2.out wE wN wJ ⟨hbE.os, hbE.tape, hbE.output, hbE.size, hbE.block⟩ hfE hbN hbJ
        have fin := fB.trans (belowK_b (w := w3) (n₀ := b) (by omega) wJ D _ (.deferred none) hD fD rfl rfl)
        have HFD := hide fD
        have HFI := hide fin
        clear fD fB fin hbN hbE hfE hbJ
        go_wp2_with fail
        refine ⟨by simp, .inl ⟨D, _, rfl, run_takeDeferred HFD.out, ?_⟩⟩
        refine ⟨_, results_tmp rfl _ _ _, ?_, ?_⟩
        · show Ending.returned (.string (Q ++ C)) = _
          rw [HPB.out, hE.out]
        · rw [← HBW.out]; exact HFI.out
    case stop =>
      rintro D c M pre W _ _ h _
      exact h.elim
  · have h' : (4000 : Int) < (t.size : Int) := by omega
    have hE : packS t = ⟨#[]⟩ := if_neg h
    rw [hE]
    clear hE
    go_enter Tryz.func30, Tryz.ntmps30
    go_wp2_with fail
    go_ret
    exact ⟨rfl, Below.refl _ _⟩
end Go.Proofs.YtconcnndghmdfaaGreatDoor
namespace Go.Proofs.YtconcnndghmdfaaGreatDoor
open Go.RowKit Go
theorem Tryz.infoA8 : (Tryz.prog.info? 5).map (fun i => (i.zero, i.size, i.bytes)) = some (some (.int .u8 0), 1, 1) := by kernel_rfl
theorem Tryz.infoRing : (Tryz.prog.info? 94).map (fun i => (i.zero, i.size)) = some (some (.agg (bL 256 fun _ => 0).toArray), 256) := by kernel_rfl
theorem bF_get' (b : ByteArray) (j : Nat) (h : j < b.size) : b[j] = bF b j := by
  have e := bF_at b b.size rfl j h
  have h' : j < b.data.toList.length := h
  rw [List.getElem?_eq_getElem h'] at e
  exact Option.some.inj e
/-- What is kept of the byte at j; what it meets. -/
def keptF (M : UInt8 → UInt8 → UInt8) (T : Nat → UInt8) (far : Nat) (j : Nat) : UInt8 := M (T j) (if _h : far ≤ j ∧ 0 < far then keptF M T far (j - far) else 0)
def metF (M : UInt8 → UInt8 → UInt8) (T : Nat → UInt8) (far : Nat) (j : Nat) : UInt8 := if far ≤ j ∧ 0 < far then keptF M T far (j - far) else 0
theorem keptF_eq (M : UInt8 → UInt8 → UInt8) (T : Nat → UInt8) (far j : Nat) : keptF M T far j = M (T j) (metF M T far j) := by
  rw [keptF, metF]; split <;> rfl
/-- The ring behind n bytes. -/
def ringOk (M : UInt8 → UInt8 → UInt8) (T : Nat → UInt8) (far n : Nat) (r : Nat → UInt8) : Prop :=
  (∀ j, j < n → n ≤ j + far → r (j % far) = keptF M T far j) ∧ (∀ p, n ≤ p → p < far → r p = 0)
theorem ring_at {M : UInt8 → UInt8 → UInt8} {T : Nat → UInt8} {far n : Nat} {r : Nat → UInt8} (h : ringOk M T far n r) (hf : 0 < far) : r (n % far) = metF M T far n := by
  unfold metF
  by_cases e : far ≤ n
  · rw [if_pos ⟨e, hf⟩, ← h.1 (n - far) (by omega) (by omega)]
    congr 1
    conv => lhs; rw [show n = n - far + far by omega]
    rw [Nat.add_mod_right]
  · rw [if_neg (fun x => e x.1), Nat.mod_eq_of_lt (by omega)]
    exact h.2 n (Nat.le_refl _) (by omega)
theorem mod_apart {far a b : Nat} (h1 : a < b) (h2 : b < a + far) : a % far ≠ b % far := by
  intro e
  have h3 := Nat.sub_mod_eq_zero_of_mod_eq e.symm
  have h4 := Nat.le_of_dvd (by omega) (Nat.dvd_of_mod_eq_zero h3)
  omega
theorem ring_next {M : UInt8 → UInt8 → UInt8} {T : Nat → UInt8} {far n : Nat} {r : Nat → UInt8} {Y : UInt8} (h : ringOk M T far n r) (hY : Y = keptF M T far n) : ringOk M T far (n + 1) (fun j => if j = n % far then Y else r j) := by
  refine ⟨fun j hj hj2 => ?_, fun p hp hp2 => ?_⟩
  · show (if j % far = n % far then Y else r (j % far)) = _
    by_cases e : j = n
    · subst e; rw [if_pos rfl, hY]
    · rw [if_neg (mod_apart (by omega) (by omega))]
      exact h.1 j (by omega) (by omega)
  · show (if p = n % far then Y else r p) = _
    rw [if_neg (by rw [Nat.mod_eq_of_lt (by omega)]; omega)]
    exact h.2 p (by omega) hp2
end Go.Proofs.YtconcnndghmdfaaGreatDoor
namespace Go.Proofs.YtconcnndghmdfaaGreatDoor
open Go.RowKit Go
theorem dif_met (T : Nat → UInt8) (far j : Nat) (hf : 0 < far) : T j - metF (fun a _ => a) T far j = difF T far j := by
  unfold metF difF
  by_cases h : far ≤ j
  · rw [if_pos ⟨h, hf⟩, if_pos h, keptF_eq]
  · rw [if_neg (fun x => h x.1), if_neg h]; simp
theorem sum_kept (T : Nat → UInt8) (far : Nat) (hf : 0 < far) : ∀ j, keptF (fun a b => a + b) T far j = sumF T far j := by
  intro j
  induction j using Nat.strongRecOn with
  | _ j ih =>
    rw [keptF_eq, metF, sumF]
    by_cases h : far ≤ j
    · rw [if_pos ⟨h, hf⟩, dif_pos ⟨h, hf⟩, ih (j - far) (by omega)]
    · rw [if_neg (fun x => h x.1), dif_neg (fun x => h x.1)]; simp
set_option maxRecDepth 100000 in
set_option maxHeartbeats 800000 in
theorem apart_no (v : Value) (text : ByteArray) (far : Int) (w : World) (b : Nat) (hcell : w.cell? ⟨b, 0, none⟩ = some (.string text)) (ht : text.size ≤ 9223372036854775807) (h : ¬ farOk text far) :
    Calls Tryz.prog 46 #[.int .i64 far, v, .slice (some ⟨b, 0, none⟩) 1 1] w fun e w' => e = .returned (.string ⟨#[]⟩) ∧ Below w.heap.size w w' := by
  have hso := hide (fun w h1 h2 h3 => sizeOf_any b [text] w h1 h2 h3)
  have e1 : (catB [text]).length = text.size := by simp [catB]
  unfold farOk at h
  by_cases h1 : text.size ≤ 20000
  · have h1' : ¬ (20000 : Int) < (text.size : Int) := by omega
    by_cases h2 : 1 ≤ far
    · have h2' : ¬ far < 1 := by omega
      have h3' : (256 : Int) < far := by omega
      clear h
      go_enter Tryz.func46, Tryz.ntmps46
      go_wp2_with fail
      refine (hso.out _ (fun j hj => by match j, hj with | 0, _ => exact hcell) (by simp) (by rw [e1]; omega)).mono ?_
      rw [e1]
      rintro e w1 ⟨rfl, rfl⟩
      go_wp2_with fail
      go_ret
      exact ⟨rfl, Below.refl _ _⟩
    · have h2' : far < 1 := by omega
      clear h
      go_enter Tryz.func46, Tryz.ntmps46
      go_wp2_with fail
      refine (hso.out _ (fun j hj => by match j, hj with | 0, _ => exact hcell) (by simp) (by rw [e1]; omega)).mono ?_
      rw [e1]
      rintro e w1 ⟨rfl, rfl⟩
      go_wp2_with fail
      go_ret
      exact ⟨rfl, Below.refl _ _⟩
  · have h1' : (20000 : Int) < (text.size : Int) := by omega
    clear h
    go_enter Tryz.func46, Tryz.ntmps46
    go_wp2_with fail
    refine (hso.out _ (fun j hj => by match j, hj with | 0, _ => exact hcell) (by simp) (by rw [e1]; omega)).mono ?_
    rw [e1]
    rintro e w1 ⟨rfl, rfl⟩
    go_wp2_with fail
    go_ret
    exact ⟨rfl, Below.refl _ _⟩
theorem text_cell (w : World) (text : ByteArray) (t : Nat) : (w.alloc (.cells #[.string text] t)).cell? ⟨w.heap.size, 0, none⟩ = some (.string text) := by simp
end Go.Proofs.YtconcnndghmdfaaGreatDoor
namespace Go.Proofs.YtconcnndghmdfaaGreatDoor
open Go.RowKit Go
set_option maxRecDepth 100000 in
set_option maxHeartbeats 1600000 in
theorem apart_S (M1 M2 : UInt8 → UInt8 → UInt8) (hM : ∀ (a b : UInt8) (w : World), Calls Tryz.prog 102 #[.int .u8 (a.toNat : Int), .int .u8 (b.toNat : Int)] w fun e w' => e = .returned (.tuple #[.int .u8 ((M1 a b).toNat : Int), .int .u8 ((M2 a b).toNat : Int)]) ∧ w' = w)
    (text : ByteArray) (far : Nat) (w : World) (b : Nat) (hcell : w.cell? ⟨b, 0, none⟩ = some (.string text)) (hbw : b < w.heap.size) (ht : text.size ≤ 20000) (hf1 : 1 ≤ far) (hf2 : far ≤ 256) :
    Calls Tryz.prog 46 #[.int .i64 (far : Int), .func (.func 102) #[] #[], .slice (some ⟨b, 0, none⟩) 1 1] w fun e w' => e = .returned (.string ⟨((List.range text.size).map (fun j => M1 (bF text j) (metF M2 (bF text) far j))).toArray⟩) ∧ Below w.heap.size w w' := by
  have hmk : ∀ w : World, (Instr.makeSlice 22 (.int .i64 text.size) (.int .i64 text.size)).run Tryz.prog w = .ok (.slice (some ⟨w.heap.size, 0, none⟩) text.size text.size) (w.alloc (.cells (madeCells #[.int .u8 0] text.size) 5)) := run_make_row' (P := Tryz.prog) 22 5 (.int .u8 0) 1 (by kernel_rfl) Tryz.infoA8 rfl .i64 .i64 text.size (by omega) (by omega)
  obtain ⟨hz, hsz⟩ := zero_of_info Tryz.infoRing
  have hso := hide (fun w h1 h2 h3 => sizeOf_any b [text] w h1 h2 h3)
  have e1 : (catB [text]).length = text.size := by simp [catB]
  have f1 : ¬ (far : Int) < 1 := by omega
  have f2 : ¬ (256 : Int) < (far : Int) := by omega
  have t1 : ¬ (20000 : Int) < (text.size : Int) := by omega
  obtain ⟨T, hT⟩ : ∃ T, T = bF text := ⟨_, rfl⟩
  have HT := hide (show ∀ k (hk : k < text.size), text[k] = T k from fun k hk => (bF_get' text k hk).trans (by rw [hT]))
  rw [← hT]
  clear hT
  go_enter Tryz.func46, Tryz.ntmps46
  go_wp2_with fail
  refine (hso.out _ (fun j hj => by match j, hj with | 0, _ => exact hcell) (by simp) (by rw [e1]; omega)).mono ?_
  rw [e1]
  rintro e w1 ⟨rfl, rfl⟩
  have r0 := row_alloc w1 94 256 (fun _ => 0)
  have r1 := World.rowIs_made (w1.alloc (.cells (bL 256 fun _ => 0).toArray 94)) (.int .u8 0) text.size 5
  have rb := ((Below.refl w1.heap.size w1).alloc (Nat.le_refl _) (.cells (bL 256 fun _ => 0).toArray 94)).alloc (by simp) (.cells (madeCells #[.int .u8 0] text.size) 5)
  have r0' := r0.alloc (.cells (madeCells #[.int .u8 0] text.size) 5)
  rw [World.size_alloc] at r1
  go_wp2_with fail
  clear hmk hz hso e1 f1 f2 t1 r0
  generalize (w1.alloc (.cells (bL 256 fun _ => 0).toArray 94)).alloc (.cells (madeCells #[.int .u8 0] text.size) 5) = W1 at *
  go_loopw [10, 31] (fun a i wx => ∃ (k n : Nat) (f r : Nat → UInt8), k ≤ 1 ∧ Hid (n = k * text.size) ∧ i = .int .i64 k ∧ a = .int .i64 n ∧ Hid (∀ j, j < n → f j = M1 (T j) (metF M2 T far j)) ∧ Hid (ringOk M2 T far n r) ∧ wx.rowIs w1.heap.size 94 256 (u8V r) ∧ wx.rowIs (w1.heap.size + 1) 5 text.size (u8V f) ∧ Below w1.heap.size w1 wx) (fun _ i _ => 1 - (intOf i).toNat)
  case atStart => exact ⟨0, 0, fun _ => 0, fun _ => 0, by omega, (Nat.zero_mul _).symm, rfl, rfl, fun j hj => by omega, ⟨fun j hj => by omega, fun _ _ _ => rfl⟩, r0', r1, rb⟩
  case round =>
    clear r0' r1 rb
    obtain ⟨k, n, f, r, hk, hn, rfl, rfl, hf, hr, r0, r1, rb⟩ := hrel
    by_cases hlt : k = 0
    · obtain rfl : n = 0 := by have := hn.out; rw [hlt] at this; omega
      have hcw : wr.cell? ⟨b, k, none⟩ = some (.string text) := by rw [hlt]; exact (rb.cell (p := ⟨b, 0, none⟩) hbw).trans hcell
      have hk1 : k < 1 := by omega
      have hk2 : (k : Int) < 1 := by omega
      have HK := hide hlt
      clear hn hlt
      go_wp2_with fail
      go_loopw [10, 37] (fun a i wx => ∃ (n : Nat) (f r : Nat → UInt8), n ≤ text.size ∧ i = .int .i64 n ∧ a = .int .i64 n ∧ Hid (∀ j, j < n → f j = M1 (T j) (metF M2 T far j)) ∧ Hid (ringOk M2 T far n r) ∧ wx.rowIs w1.heap.size 94 256 (u8V r) ∧ wx.rowIs (w1.heap.size + 1) 5 text.size (u8V f) ∧ Below w1.heap.size w1 wx) (fun _ i _ => text.size - (intOf i).toNat)
      case atStart => exact ⟨0, f, r, by omega, rfl, rfl, hf, hr, r0, r1, rb⟩
      case round =>
        clear r0 r1 rb hf hr f r
        obtain ⟨n, f, r, hn, rfl, rfl, hf, hr, r0, r1, rb⟩ := hrel
        by_cases hlt : n < text.size
        · have hlt' : (n : Int) < (text.size : Int) := by omega
          obtain ⟨q, hq⟩ : ∃ q, q = n % far := ⟨_, rfl⟩
          have hq1 : q < far := by rw [hq]; exact Nat.mod_lt _ (by omega)
          have hq2 : (n : Int) % (far : Int) = (q : Int) := by rw [hq]; rfl
          have hq3 : (q : Int) < 256 := by omega
          have hf0 : ¬ (far : Int) = 0 := by omega
          have cq : wr.cell? ⟨w1.heap.size, q, none⟩ = some (.int .u8 ((r q).toNat : Int)) := r0.cell (i := q) (by omega)
          have HB := hide (HT.out n hlt)
          have HR := hide (show r q = metF M2 T far n by rw [hq]; exact ring_at hr.out (by omega))
          have HQ := hide hq
          have cB := hM text[n] (r q)
          obtain ⟨R, hR⟩ : ∃ R, R = r q := ⟨_, rfl⟩
          obtain ⟨Y, hY⟩ : ∃ Y, Y = M1 text[n] R := ⟨_, rfl⟩
          obtain ⟨Z, hZ⟩ : ∃ Z, Z = M2 text[n] R := ⟨_, rfl⟩
          rw [← hR] at cq HR cB
          rw [← hY, ← hZ] at cB
          have HY := hide (show Y = M1 (T n) (metF M2 T far n) by rw [hY, HB.out, HR.out])
          have HZ := hide (show Z = keptF M2 T far n by rw [hZ, HB.out, HR.out, keptF_eq])
          have CB := hide cB
          clear hq hR hY hZ cB HR HB
          have fq := r0.frozen q
          have cn := r1.cell (i := n) hlt
          have fn := r1.frozen n
          go_wp2_with fail
          go_region_with (go_at_call 102; refine (CB.out _).mono ?_; rintro e w2 ⟨rfl, rfl⟩)
          all_goals
            clear cq fq cn fn hq2 hf0 hcell hcw CB hM
            go_wp2_with fail
            go_roundw
            case rel =>
              refine ⟨n + 1, fun j => if j = n then Y else f j, fun j => if j = q then Z else r j, by omega, by go_num, by go_num, fun j hj => ?_, by have h := ring_next hr.out HZ.out; rw [← HQ.out] at h; exact h, ?_, ?_, ?_⟩
              · show (if j = n then Y else f j) = _
                by_cases e : j = n
                · rw [if_pos e, e, HY.out]
                · rw [if_neg e]; exact hf.out j (by omega)
              · first
                  | exact (set_byte (r0.setOther (by simp) _) rfl).drew
                  | exact ((set_byte r0 rfl).setOther (by simp) _).drew
              · first
                  | exact ((set_byte r1 rfl).setOther (by simp) _).drew
                  | exact (set_byte (r1.setOther (by simp) _) rfl).drew
              · first
                  | exact ((rb.setCell (by simp) _).setCell (by simp) _).drew
            case measure => simp [intOf]; omega
        · have hn1 : n = text.size := by omega
          subst hn1
          have hlt' : ¬ (text.size : Int) < (text.size : Int) := by omega
          clear hcw
          go_wp2_with fail
          go_roundw
          case rel => exact ⟨k + 1, text.size, f, r, by omega, by rw [HK.out]; exact (Nat.one_mul _).symm, by go_num, rfl, hf, hr, r0, r1, rb⟩
          case measure => simp [intOf]; omega
    · obtain rfl : k = 1 := by omega
      have hn1 : n = text.size := by have := hn.out; omega
      subst hn1
      have hcv := conv_row (P := Tryz.prog) (cap := text.size) (l := (List.range text.size).map (fun j => M1 (T j) (metF M2 T far j))) r1 (fun j hj => by rw [List.getElem?_map, List.getElem?_range hj, hf.out j hj]; rfl) (by simp) Tryz.underlying22 Tryz.underlying5 Tryz.underlying9
      clear hn hf
      go_wp2_with fail
      go_ret
      exact ⟨rfl, rb⟩
end Go.Proofs.YtconcnndghmdfaaGreatDoor
namespace Go.Proofs.YtconcnndghmdfaaGreatDoor
open Go.RowKit Go
set_option maxRecDepth 100000 in
theorem sum_meet (a b : UInt8) (w : World) : Calls Tryz.prog 102 #[.int .u8 (a.toNat : Int), .int .u8 (b.toNat : Int)] w fun e w' => e = .returned (.tuple #[.int .u8 ((a + b).toNat : Int), .int .u8 ((a + b).toNat : Int)]) ∧ w' = w := by
  have h := add8 a b
  obtain ⟨X, hX⟩ : ∃ X, X = a + b := ⟨_, rfl⟩
  rw [← hX] at h ⊢
  clear hX
  go_enter Tryz.func102, Tryz.ntmps102
  go_wp2_with fail
  go_ret2
  exact ⟨rfl, rfl⟩
theorem apart_sum (text : ByteArray) (far : Int) (w : World) (ht : text.size ≤ 9223372036854775807) :
    Calls Tryz.prog 46 #[.int .i64 far, .func (.func 102) #[] #[], .slice (some ⟨w.heap.size, 0, none⟩) 1 1] (w.alloc (.cells #[.string text] 9)) fun e w' => e = .returned (.string (sumS text far)) ∧ Below w.heap.size w w' := by
  have hb0 := (Below.refl w.heap.size w).alloc (Nat.le_refl _) (.cells #[.string text] 9)
  by_cases h : farOk text far
  · have hE : sumS text far = ⟨((List.range text.size).map (sumF (bF text) far.toNat)).toArray⟩ := if_pos h
    rw [hE]
    obtain ⟨h1, h2, h3⟩ := h
    obtain ⟨n, rfl⟩ := Int.eq_ofNat_of_zero_le (show 0 ≤ far by omega)
    refine (apart_S (fun a b => a + b) (fun a b => a + b) sum_meet text n _ w.heap.size (text_cell w text _) (by simp) h1 (by omega) (by omega)).mono ?_
    rintro e w' ⟨rfl, hb⟩
    refine ⟨?_, hb0.trans (hb.mono (by simp))⟩
    congr 5
    funext j; exact (keptF_eq (fun a b => a + b) (bF text) n j).symm.trans (sum_kept (bF text) n (by omega) j)
  · have hE : sumS text far = ⟨#[]⟩ := if_neg h
    rw [hE]
    refine (apart_no _ text far _ w.heap.size (text_cell w text _) ht h).mono ?_
    rintro e w' ⟨rfl, hb⟩
    exact ⟨rfl, hb0.trans (hb.mono (by simp))⟩
set_option maxRecDepth 100000 in
theorem imp_sum (text : ByteArray) (far : Int) (w : World) (ht : text.size ≤ 9223372036854775807) :
    Calls Tryz.prog 66 #[.string text, .int .i64 far] w fun e w' => e = .returned (.string (sumS text far)) ∧ Below w.heap.size w w' := by
  have S := hide (fun w => apart_sum text far w ht)
  generalize sumS text far = R at *
  go_enter Tryz.func66, Tryz.ntmps66
  go_wp2_with fail
  refine (S.out w).mono ?_
  rintro e w1 ⟨rfl, hb1⟩
  go_wp2_with fail
  go_ret
  exact ⟨rfl, hb1⟩
end Go.Proofs.YtconcnndghmdfaaGreatDoor

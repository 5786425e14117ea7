/- Put together: ImpPack, As, AsHit, AsW, CodeOf. -/
import Derived.Test.YtconcnndghmdfaaGreatDoorSb40
import Derived.Test.YtconcnndghmdfaaGreatDoorSb45
import Derived.Test.YtconcnndghmdfaaGreatDoorSb15
import Derived.Test.YtconcnndghmdfaaGreatDoorSb26
import Derived.Test.YtconcnndghmdfaaGreatDoorRows
import Derived.WalkKit
import Derived.LaidEql
import Derived.Stop.Asserts
import Derived.RowKitTokens
import Derived.Test.YtconcnndghmdfaaGreatDoorSb1
import Derived.Handy
namespace Go.Proofs.YtconcnndghmdfaaGreatDoor
open Go Go.RowKit Go.Shelf
attribute [local go_sem] Oper.semAt_some
/-- What lies in memory between two rounds: the box X of the coder's pointer, the coder g. -/
def PakAt (b X g : Nat) (w : World) (M : Nat → Prop) (pre : List Tok) (W : World) : Prop :=
  Boxed W X 74 (.pointer (some ⟨g, 0, none⟩)) ∧ ¬ M X ∧ X ≠ g ∧ ¬ M g ∧ (∃ ov, W.rowIs g 112 1603 (cdF (run rc0 (toksBits pre)).size (run rc0 (toksBits pre)).ch ((run rc0 (toksBits pre)).low % 4294967296) ov) ∧ ownB W b ov (run rc0 (toksBits pre)).n (byN (run rc0 (toksBits pre)).n ((run rc0 (toksBits pre)).low / 4294967296)) ∧ ov.ownBlock ≠ some g ∧ (∀ k, ov.ownBlock = some k → ¬ M k) ∧ ov.ownBlock ≠ some X) ∧ (∀ g, M g → b ≤ g ∧ g < W.heap.size) ∧ b ≤ W.heap.size ∧ Below b w W
theorem rowIs_cells {w : World} {g t n : Nat} {f : Nat → Value} (h : w.rowIs g t n f) : ∃ c, w.heap[g]? = some (.cells c t) := by
  obtain ⟨c, hc, _⟩ := h
  exact ⟨c, hc⟩
theorem own_cellsB {w : World} {base e size n : Nat} {v : Value} {xs : List Value} (h : w.ownsRow base e size v n xs) : ∀ g, v.ownBlock = some g → ∃ c, w.heap[g]? = some (.cells c e) := by
  intro g hg
  rcases h.2 with ⟨rfl, _⟩ | ⟨g', cap, cur, rfl, _, hgb, _⟩
  · simp [Value.ownBlock] at hg
  · obtain rfl : g' = g := by simpa [Value.ownBlock] using hg
    exact ⟨cur, hgb⟩
theorem pakAt_stands {b X g B : Nat} {w : World} (hB : b ≤ B) : StandsB B (PakAt b X g w) := by
  rintro M M' pre W W' ⟨h1, h2, h3, h4, ⟨ov, r1, r2, r3, r4, r5⟩, h5, h6, h7⟩ hm hM
  have off : ∀ k, k < W.heap.size → ¬ M k → ¬ M' k := fun k hk h hh => by
    rcases hM k hh with h' | h'
    · exact h h'
    · omega
  have hrg : W'.heap[g]? = W.heap[g]? := by
    obtain ⟨c, hc⟩ := rowIs_cells r1
    rw [hc, hm.cells h4 hc]
  refine ⟨hm.cells h2 h1, off X h1.lt h2, h3, off g r1.lt h4, ⟨ov, r1.of_block hrg, own_of_block r2 (fun k hk => ?_), r3, fun k hk => off k (World.ownsRow.lt r2 k hk).2 (r4 k hk), r5⟩, fun k hk => ?_, Nat.le_trans h6 hm.size, hm.toBelow h7 h6 hB (fun g hg => (h5 g hg).1)⟩
  · obtain ⟨c, hc⟩ := own_cellsB r2 k hk
    rw [hc, hm.cells (r4 k hk) hc]
  · rcases hM k hk with h | h
    · exact ⟨(h5 k h).1, Nat.lt_of_lt_of_le (h5 k h).2 hm.size⟩
    · exact ⟨Nat.le_trans h6 h.1, h.2⟩
set_option maxRecDepth 100000 in
set_option maxHeartbeats 3200000 in
theorem imp_pack (t : ByteArray) (w : World) (hts : t.size ≤ 9223372036854775807) :
    Calls Tryz.prog 30 #[.string t] w fun e w' => e = .returned (.string (packS t)) ∧ Below w.heap.size w w' := by
  by_cases h : t.size ≤ 4000
  · have h' : ¬ (4000 : Int) < (t.size : Int) := by omega
    have hE := hide (show packS t = packB t from if_pos h)
    have hpl := parseL_len (bF t) t.size
    have hbl := toksBits_len (parseL (bF t) t.size)
    have HOK := hide (show ∀ x ∈ parseL (bF t) t.size, tokOk x = true from parseG_ok _ _ _ _)
    obtain ⟨b, hb⟩ : ∃ b, b = w.heap.size := ⟨_, rfl⟩
    refine (callsIn_wide (n := 5)).1 ?_
    refine callsIn_of_wp_marks Tryz.func30 rfl trivial ?_ rfl
    simp only [Tryz.ntmps30, List.size_toArray, List.length_cons, List.length_nil, Nat.reduceAdd, Nat.reduceSub, Array.replicate_succ, Array.replicate_zero, List.push_toArray, List.append_toArray, List.nil_append, List.cons_append]
    refine Go.wpIn_mono (Q := noPan _) ?_ (noPan_to _)
    refine wpIn_wide.2 ?_
    have HBW := hide hb
    have SN := hide (imp_newCoder w)
    rw [← hb] at SN
    clear hb
    go_wp2_with fail
    refine SN.out.mono ?_
    rintro e w1 ⟨g, rfl, hbg, hc1, hb1⟩
    obtain ⟨X, hX⟩ : ∃ X, X = w1.heap.size := ⟨_, rfl⟩
    have bX := Boxed.new w1 74 (.pointer (some ⟨g, 0, none⟩))
    have hs1 := hb1.size
    have hgl : g < w1.heap.size := by obtain ⟨_, hr, _⟩ := hc1 0 (fun _ => True); exact hr.lt
    have hal1 : Below w1.heap.size w1 (w1.alloc (.cells #[.pointer (some ⟨g, 0, none⟩)] 74)) := (Below.refl _ w1).alloc (Nat.le_refl _) _
    have s2 : (w1.alloc (.cells #[.pointer (some ⟨g, 0, none⟩)] 74)).heap.size = X + 1 := by simp [hX]
    have c2 := hide (show CodK (w1.alloc (.cells #[.pointer (some ⟨g, 0, none⟩)] 74)) b g (X + 2) (fun _ => False) rc0 from by
      have h := hc1 (X + 2) (fun _ => False)
      exact h.keep hal1.block)
    have b2 := hide (hb1.trans (hal1.mono (by have := HBW.out; omega)))
    have hB : b ≤ w1.heap.size := by have := HBW.out; omega
    have bX' : Boxed (w1.alloc (.cells #[.pointer (some ⟨g, 0, none⟩)] 74)) X 74 (.pointer (some ⟨g, 0, none⟩)) := by rw [hX]; exact bX
    rw [← hX] at hgl hB
    have HX := hide hX
    clear bX hal1 hX hb1 hc1 hs1
    go_wp2_with fail
    rw [← HX.out]
    generalize w1.alloc (.cells #[.pointer (some ⟨g, 0, none⟩)] 74) = w2 at *
    refine (imp_tokensOf t w2).mono ?_
    rintro e w3 ⟨rfl, hw3⟩
    have s3 : w3.heap.size = X + 2 := by rw [hw3]; simp [s2]
    have hal3 : Below w2.heap.size w2 w3 := by rw [hw3]; exact (Below.refl _ w2).alloc (Nat.le_refl _) _
    have t3 : w3.heap[X + 1]? = some (.cells #[.string t] 9) := by rw [hw3, ← s2]; exact World.alloc_heap_new w2 _
    have b3 : Below b w w3 := b2.out.trans (hal3.mono (by omega))
    have bX3 : Boxed w3 X 74 (.pointer (some ⟨g, 0, none⟩)) := (hal3.block X (by omega)).trans bX'
    have c3 := hide (c2.out.keep hal3.block)
    clear hw3 hal3 bX' b2 c2
    rw [s2]
    go_wp2_with fail
    refine (wpIn_wide (n := 5)).1 ?_
    refine wpIn_rangeM rfl (by omega) (gf := 80) (lb := #[.pointer (some ⟨X + 1, 0, none⟩)]) rfl trivial (enters_of Tryz.func80 (by kernel_rfl) rfl) (toks_seq 4 (X + 1) (by omega) t h w3 t3) (fun g hg => by omega) (fun _ => rfl) (PakAt b X g w) (fun _ _ _ _ => False) (pakAt_stands (by omega)) (fun _ _ _ _ _ _ h _ _ => h)
      ?h0
      (fun x a' W => ∃ p, a' = { tmps := #[.string t, undef, .string ⟨#[]⟩, .pointer (some ⟨X, 0, none⟩), .pointer (some ⟨p, 0, none⟩), .string t, .int .i64 (t.size : Int), .bool false, .pointer (some ⟨g, 0, none⟩), .string t, .func (.func 80) #[] #[.pointer (some ⟨X + 1, 0, none⟩)], tokV x, undef, undef, undef, undef, undef, undef, undef, undef, undef, undef], defers := [] } ∧ W.heap[p]? = some (.cells #[.int .i64 x.b, .int .i64 x.m, .int .i64 x.f] 80))
      ?hAx ?assign ?body ?done ?stop
    case h0 =>
      obtain ⟨ov, hr, ho, hd, hmo⟩ := c3.out
      have hno : ∀ k, ov.ownBlock ≠ some k := fun k hk => by
        have := (World.ownsRow.lt ho k hk).2
        rcases hmo k hk with h | h
        · exact h
        · omega
      exact ⟨bX3, by omega, by omega, by omega, ⟨ov, hr, ho, hd, fun k hk => absurd hk (hno k), hno X⟩, fun k hk => by omega, by omega, b3⟩
    case hAx =>
      rintro x a' _ W W' row ⟨p, e, hp⟩ hg hrow
      refine ⟨p, e, (hg.block p (Array.getElem?_eq_some_iff.1 hp).1 (fun h => ?_)).trans hp⟩
      obtain ⟨_, o, ho, hc⟩ := hrow p h.symm
      rw [hp] at ho; cases ho; cases hc
    case assign =>
      intro l M pre x W K hI hK
      obtain ⟨xb, xm, xf⟩ := x
      simp only [tokV] at hK ⊢
      gi_wp2_with fail
      refine hK _ _ (KeepsFrom.below ((Below.refl _ W).alloc (Nat.le_refl _) _)) (KeptM.below ((Below.refl _ W).alloc (Nat.le_refl _) _)) ((pakAt_stands (B := b) (Nat.le_refl _)).alloc _ hI) ⟨W.heap.size, rfl, World.alloc_heap_new W _⟩
    case body =>
      rintro l M pre ⟨xb, xm, xf⟩ a' W ⟨h1, h2, h3, h4, hcod, h5, h6, h7⟩ ⟨p, rfl, hp⟩ hpre
      simp only [tokV]
      obtain ⟨ov, r1, r2, r3, r4, r5⟩ := hcod
      have hc := h1.cell
      have e0 : W.cell? ⟨p, 0, none⟩ = some (.int .i64 xb) := by simp [World.cell?, hp]
      have e1 : W.cell? ⟨p, 1, none⟩ = some (.int .i64 xm) := by simp [World.cell?, hp]
      have e2 : W.cell? ⟨p, 2, none⟩ = some (.int .i64 xf) := by simp [World.cell?, hp]
      have hok : tokOk ⟨xb, xm, xf⟩ = true := HOK.out _ (hpre.subset (by simp))
      have hplen : pre.length + 1 ≤ t.size := by have := hpre.length_le; simp at this; omega
      have hn1 := run_n_le (toksBits pre) rc0
      have hn2 := toksBits_len pre
      have hn3 : rc0.n = 0 := rfl
      have SP := hide (imp_putToken b g W.heap.size (fun k => ov.ownBlock = some k) (run rc0 (toksBits pre)) ⟨xb, xm, xf⟩ W hok (run_ok _ _ rc0_ok) (by omega) hbg ⟨ov, r1, r2, r3, fun k hk => .inl hk⟩ (Nat.le_refl _))
      have HH := hide (And.intro h1 (And.intro h7 (And.intro r1 (And.intro r2 (And.intro r4 r5)))))
      clear h1 h7 r1 r2 r4 r5 hn1 hn2 hn3 hok hp
      gi_wp2_with fail
      refine ⟨trivial, (CallsIn.inRound l (callsIn_wide.2 SP.out)).mono ?_⟩
      rintro e W' ⟨rfl, C9, hb9, hf9⟩
      obtain ⟨h1, h7, r1, r2, r4, r5⟩ := HH.out
      have R : roundPost w3.heap.size M (PakAt b X g w) (fun _ _ _ _ => False) (pre ++ [(⟨xb, xm, xf⟩ : Tok)]) W .normal ⟨#[], []⟩ W' := by
        have same : ∀ k, k < W.heap.size → k ≠ g → ov.ownBlock ≠ some k → W'.heap[k]? = W.heap[k]? := fun k hk => hf9.2 k hk
        refine ⟨⟨hf9.1, fun k o _ hk ho => ?_⟩, ⟨hf9.1, fun k hk hm => same k hk (fun e => h4 (e ▸ hm)) (fun e => r4 k e hm)⟩, ?_⟩
        · refine (same k (Array.getElem?_eq_some_iff.1 hk).1 (fun e => ?_) (fun e => ?_)).trans hk
          · obtain ⟨c, hc⟩ := rowIs_cells r1
            rw [e, hc] at hk; cases hk; cases ho
          · obtain ⟨c, hc⟩ := own_cellsB r2 k e
            rw [hc] at hk; cases hk; cases ho
        · obtain ⟨o2, p1, p2, p3, p4⟩ := C9
          refine ⟨(same X h1.lt h3 r5).trans h1, h2, h3, h4, ⟨o2, ?_, ?_, p3, fun k hk => ?_, fun hk => ?_⟩, fun k hk => ⟨(h5 k hk).1, Nat.lt_of_lt_of_le (h5 k hk).2 hf9.1⟩, Nat.le_trans h6 hf9.1, h7.trans hb9⟩
          · rw [toksBits_snoc, run_app]; exact p1
          · rw [toksBits_snoc, run_app]; exact p2
          · rcases p4 k hk with h | h
            · exact r4 k h
            · exact fun hm => by have := (h5 k hm).2; omega
          · rcases p4 X hk with h | h
            · exact r5 h
            · have := h1.lt; omega
      have HR := hide R
      clear R C9 hb9 hf9 h1 h7 r1 r2 r4 r5 SP HH
      gi_wp2_with fail
      exact HR.out
    case done =>
      rintro D M xs W hD hxs ⟨h1, h2, h3, h4, hcod, h5, h6, h7⟩ hK
      subst hxs
      obtain ⟨ov, r1, r2, r3, r4, r5⟩ := hcod
      have hc := h1.cell
      have hn1 := run_n_le (toksBits (parseL (bF t) t.size)) rc0
      have hn3 : rc0.n = 0 := rfl
      obtain ⟨s, hs⟩ : ∃ s, s = run rc0 (toksBits (parseL (bF t) t.size)) := ⟨_, rfl⟩
      rw [← hs] at r1 r2 hn1
      have hDl := (Array.getElem?_eq_some_iff.1 hK).1
      have hXl := h1.lt
      have hgW := r1.lt
      have dg : D ≠ g := fun e => by
        obtain ⟨c, hc⟩ := rowIs_cells r1
        rw [← e, hK] at hc; cases hc
      have dov : ov.ownBlock ≠ some D := fun e => by
        obtain ⟨c, hc⟩ := own_cellsB r2 D e
        rw [hK] at hc; cases hc
      obtain ⟨C, hC⟩ : ∃ C : ByteArray, C = ⟨(bytesOf (s.n + 4) s.low).toArray⟩ := ⟨_, rfl⟩
      obtain ⟨Q, hQ⟩ : ∃ Q : ByteArray, Q = ⟨(encNum (foldNum t.size)).toArray⟩ := ⟨_, rfl⟩
      have hsz : Q.size + C.size ≤ 1099511627776 := by
        have z1 := size_mk (bytesOf (s.n + 4) s.low)
        have z2 := size_mk (encNum (foldNum t.size))
        rw [← hC, bytesOf_len] at z1
        rw [← hQ] at z2
        have := encNum_le 1 (foldNum t.size) (by unfold foldNum; rw [if_neg (by omega)]; show (2 * (t.size : Int)).toNat < 16384; omega)
        omega
      have SE := hide (show ∀ u : World, (∀ k, k < W.heap.size → u.heap[k]? = W.heap[k]?) → W.heap.size ≤ u.heap.size → Calls Tryz.prog 56 #[.pointer (some ⟨g, 0, none⟩)] u fun e w' => e = .returned (.string C) ∧ Below b u w' ∧ FrK W.heap.size g (fun k => ov.ownBlock = some k) u w' from fun u hu hus => by
        rw [hC]
        exact imp_endK b g W.heap.size (fun k => ov.ownBlock = some k) s u (by omega) hbg ⟨ov, r1.of_block (hu g hgW), own_of_block r2 (fun k hk => hu k (World.ownsRow.lt r2 k hk).2), r3, fun k hk => .inl hk⟩ hus)
      have SN := hide (show ∀ u : World, Calls Tryz.prog 28 #[.int .i64 (t.size : Int)] u fun e w' => e = .returned (.string Q) ∧ Below u.heap.size u w' from fun u => by
        rw [hQ]; exact impl_putNum (t.size : Int) u (by omega) (by omega))
      have HPB := hide (show Q ++ C = packB t from by rw [hQ, hC, hs]; rfl)
      have FIN := hide (show ∀ u1 u2 u3 : World, Below W.heap.size W u1 → Below b u1 u2 → FrK W.heap.size g (fun k => ov.ownBlock = some k) u1 u2 → Below u2.heap.size u2 u3 → u3.heap[D]? = some (.deferred (some [])) ∧ Below b w u3 from fun u1 u2 u3 a1 a2 a3 a4 =>
        ⟨(a4.block D (by have := a1.size; have := a3.1; omega)).trans ((a3.2 D hDl dg dov).trans ((a1.block D hDl).trans hK)), ((h7.trans (a1.mono h6)).trans a2).trans (a4.mono (by have := a1.size; have := a3.1; omega))⟩)
      have FIN2 := hide (show ∀ u1 u2 u3 : World, Below b W u1 → FrK W.heap.size g (fun k => ov.ownBlock = some k) W u1 → Below u1.heap.size u1 u2 → Below u2.heap.size u2 u3 → u3.heap[D]? = some (.deferred (some [])) ∧ Below b w u3 from fun u1 u2 u3 a2 a3 a1 a4 =>
        ⟨(a4.block D (by have := a1.size; have := a3.1; omega)).trans ((a1.block D (by have := a3.1; omega)).trans ((a3.2 D hDl dg dov).trans hK)), ((h7.trans a2).trans (a1.mono (by have := a3.1; omega))).trans (a4.mono (by have := a1.size; have := a3.1; omega))⟩)
      clear hQ hC hs hK h7 r1 r2 r3 r4 r5 h5 dg dov hn1
      go_wp2_with fail
      go_region_with (first
        | (go_at_call 28; refine (SN.out _).mono ?_; rintro e wN ⟨rfl, hbN⟩; try (have hcN : wN.cell? ⟨X, 0, none⟩ = some (.pointer (some ⟨g, 0, none⟩)) := Boxed.cell ((hbN.block X hXl).trans h1)))
        | (go_at_call 56; refine (SE.out _ (by first | exact fun _ _ => rfl | exact fun k hk => hbN.block k hk) (by first | exact Nat.le_refl _ | exact hbN.size)).mono ?_; rintro e wE ⟨rfl, hbE, hfE⟩)
        | (go_at_call 47; refine (joined_two Q C _ _ rfl hsz).mono ?_; rintro e wJ ⟨rfl, hbJ⟩))
      all_goals
        obtain ⟨fD, fB⟩ : wJ.heap[D]? = some (.deferred (some [])) ∧ Below b w wJ := by
          first
            | exact FIN.out wN wE wJ ⟨hbN.os, hbN.tape, hbN.output, hbN.size, hbN.block⟩ hbE hfE hbJ
            | exact FIN2.out wE wN wJ ⟨hbE.os, hbE.tape, hbE.output, hbE.size, hbE.block⟩ hfE hbN hbJ
        have fin := fB.trans (belowK_b (w := w3) (n₀ := b) (by omega) wJ D _ (.deferred none) hD fD rfl rfl)
        have HFD := hide fD
        have HFI := hide fin
        clear fD fB fin hbN hbE hfE hbJ
        go_wp2_with fail
        refine ⟨by simp, .inl ⟨D, _, rfl, run_takeDeferred HFD.out, ?_⟩⟩
        refine ⟨_, results_tmp rfl _ _ _, ?_, ?_⟩
        · show Ending.returned (.string (Q ++ C)) = _
          rw [HPB.out, hE.out]
        · rw [← HBW.out]; exact HFI.out
    case stop =>
      rintro D c M pre W _ _ h _
      exact h.elim
  · have h' : (4000 : Int) < (t.size : Int) := by omega
    have hE : packS t = ⟨#[]⟩ := if_neg h
    rw [hE]
    clear hE
    go_enter Tryz.func30, Tryz.ntmps30
    go_wp2_with fail
    go_ret
    exact ⟨rfl, Below.refl _ _⟩
end Go.Proofs.YtconcnndghmdfaaGreatDoor
namespace Go.Proofs.YtconcnndghmdfaaGreatDoor
open Go.RowKit Go.Extern.Stop Go.Stop Go.Extern

theorem as_nil (t : Value) (w : World) :
    Calls Tryz.prog 133 #[.nilIface, t] w fun e w' => e = .returned (.bool false) ∧ w = w' := by
  go_enter Tryz.func133, Tryz.ntmps133
  go_wp2
  go_ret
  exact ⟨rfl, rfl⟩

theorem as_valueOf (t : Addr) (w : World) : (ReflectliteValue.unpack (.iface 183 (.pointer (some t)))).run Tryz.prog w
    = .ok (.agg #[.pointer (some ⟨2, 183, none⟩), .pointer (some ⟨w.heap.size, 0, none⟩), .int .u64 150]) (w.alloc (.cells #[.pointer (some t)] 183)) := by kernel_rfl
theorem as_type (a : Addr) (w : World) : (ReflectliteValue.methodAny (ReflectliteValue.valueError "reflectlite.Value.Type" 0) (fun t _ _ _ => ReflectliteType.toType t) #[.agg #[.pointer (some ⟨2, 183, none⟩), .pointer (some a), .int .u64 150]]).run Tryz.prog w
    = .ok (.iface 221 (.agg #[.pointer (some ⟨2, 183, none⟩)])) w := by kernel_rfl
theorem as_kindP (w : World) : ((ReflectliteType.abiMethod fun t => (fun a : Nat => Value.int IntKind.u8 (a : Int)) <$> Rtype.kind t) #[.pointer (some ⟨2, 183, none⟩)]).run Tryz.prog w = .ok (.int .u8 22) w := by kernel_rfl
theorem as_kindE (w : World) : ((ReflectliteType.abiMethod fun t => (fun a : Nat => Value.int IntKind.u8 (a : Int)) <$> Rtype.kind t) #[.pointer (some ⟨2, 84, none⟩)]).run Tryz.prog w = .ok (.int .u8 25) w := by kernel_rfl
theorem rlm (z : Sem Value) (f : TypeId → Addr → Nat → Nat → Sem Value) (v : Value) :
    ReflectliteValue.method z f #[v] = (do match ← ReflectliteValue.parts v with | none => z | some (t, a, fl) => f t a fl (fl % 32)) := rfl
theorem as_partsP (a : Addr) (w : World) : (ReflectliteValue.parts (.agg #[.pointer (some ⟨2, 183, none⟩), .pointer (some a), .int .u64 150])).run Tryz.prog w = .ok (some (183, a, 150)) w := by kernel_rfl
theorem as_isNil (a p : Addr) (W : World) (ha : W.cell? a = some (.pointer (some p))) :
    (ReflectliteValue.method (ReflectliteValue.valueError "reflectlite.Value.IsNil" 0) ReflectliteValue.isNil #[.agg #[.pointer (some ⟨2, 183, none⟩), .pointer (some a), .int .u64 150]]).run Tryz.prog W = .ok (.bool false) W := by
  rw [rlm]
  simp only [Sem.run_bind, as_partsP, Result.andThen]
  simp [ReflectliteValue.isNil, loadVar, isAgg, underlying, Tryz.underlying183, ha, Result.andThen]
theorem as_elem (w : World) : (ReflectliteType.method ReflectliteType.elem #[.agg #[.pointer (some ⟨2, 183, none⟩)]]).run Tryz.prog w = .ok (.iface 221 (.agg #[.pointer (some ⟨2, 84, none⟩)])) w := by kernel_rfl
theorem as_implements (w : World) : (ReflectliteType.relation "Implements" ReflectliteType.implements_ #[.agg #[.pointer (some ⟨2, 84, none⟩)], .iface 221 (.agg #[.pointer (some ⟨2, 138, none⟩)])]).run Tryz.prog w = .ok (.bool true) w := by kernel_rfl
theorem as_typeOf (v : Value) (w : World) : (ReflectliteType.typeOf #[.iface 84 v]).run Tryz.prog w = .ok (.iface 221 (.agg #[.pointer (some ⟨2, 84, none⟩)])) w := by kernel_rfl
theorem as_assignable (w : World) : (ReflectliteType.relation "AssignableTo" ReflectliteType.assignableTo #[.agg #[.pointer (some ⟨2, 84, none⟩)], .iface 221 (.agg #[.pointer (some ⟨2, 84, none⟩)])]).run Tryz.prog w = .ok (.bool true) w := by kernel_rfl
theorem as_valueE (c : Int) (w : World) : (ReflectliteValue.unpack (.iface 84 (.agg #[.int .i64 c]))).run Tryz.prog w
    = .ok (.agg #[.pointer (some ⟨2, 84, none⟩), .pointer (some ⟨w.heap.size, 0, none⟩), .int .u64 153]) (w.alloc (.cells #[.int .i64 c] 84)) := by kernel_rfl
theorem as_elemOf (w : World) : (Rtype.elem? 183).run Tryz.prog w = .ok (some 84) w := by kernel_rfl
theorem as_mkE (p : Addr) (w : World) : (ReflectliteValue.mk 84 p ReflectliteValue.flagAddr).run Tryz.prog w = .ok (.agg #[.pointer (some ⟨2, 84, none⟩), .pointer (some p), .int .u64 409]) w := by kernel_rfl
theorem as_elemV (a p : Addr) (W : World) (ha : W.cell? a = some (.pointer (some p))) :
    (ReflectliteValue.method (ReflectliteValue.valueError "reflectlite.Value.Elem" 0) ReflectliteValue.elem #[.agg #[.pointer (some ⟨2, 183, none⟩), .pointer (some a), .int .u64 150]]).run Tryz.prog W
      = .ok (.agg #[.pointer (some ⟨2, 84, none⟩), .pointer (some p), .int .u64 409]) W := by
  rw [rlm]
  simp only [Sem.run_bind, as_partsP, Result.andThen]
  simp [ReflectliteValue.elem, loadVar, isAgg, underlying, Tryz.underlying183, ha, Result.andThen, as_elemOf, as_mkE]
theorem as_partsEa (a : Addr) (w : World) : (ReflectliteValue.parts (.agg #[.pointer (some ⟨2, 84, none⟩), .pointer (some a), .int .u64 409])).run Tryz.prog w = .ok (some (84, a, 409)) w := by kernel_rfl
theorem as_partsE (a : Addr) (w : World) : (ReflectliteValue.parts (.agg #[.pointer (some ⟨2, 84, none⟩), .pointer (some a), .int .u64 153])).run Tryz.prog w = .ok (some (84, a, 153)) w := by kernel_rfl
theorem as_direct (w : World) : (Rtype.directlyAssignable 84 84).run Tryz.prog w = .ok true w := by kernel_rfl
end Go.Proofs.YtconcnndghmdfaaGreatDoor
namespace Go.Proofs.YtconcnndghmdfaaGreatDoor
open Go.RowKit Go.Extern.Stop Go.Stop Go.Extern

theorem rls (v x : Value) : ReflectliteValue.set #[v, x] = (do
    let (some (dst, a, fl), some (src, b, _)) := (← ReflectliteValue.parts v, ← ReflectliteValue.parts x)
      | unsupported (.noEntry "extern/(internal/reflectlite.Value).Set.zeroValue")
    if fl / ReflectliteValue.flagAddr % 2 == 0 then unsupported (.noEntry "extern/(internal/reflectlite.Value).Set.unaddressable")
    let val ← loadVar src b
    if ← Rtype.directlyAssignable dst src then storeVar dst a val
    else if ← Rtype.implements dst src then
      if (← Rtype.kind src) == 20 then
        match val with
        | .nilIface => unsupported (.noEntry "extern/reflectlite: a nil value of one interface type handed on as a value of another")
        | _ => storeVar dst a val
      else storeVar dst a (.iface src val)
    else panicString ("reflectlite.Set: value of type " ++ (← Rtype.spelt src) ++ " is not assignable to type " ++ (← Rtype.spelt dst))
    pure (.tuple #[])) := rfl
theorem as_set (ta b : Addr) (c : Int) (old : Value) (W : World) (hb : W.cell? b = some (.int .i64 c)) (ht : W.cell? ta = some old) (hf : W.frozen? ta = false) :
    (ReflectliteValue.set #[.agg #[.pointer (some ⟨2, 84, none⟩), .pointer (some ta), .int .u64 409], .agg #[.pointer (some ⟨2, 84, none⟩), .pointer (some b), .int .u64 153]]).run Tryz.prog W
      = .ok (.tuple #[]) (W.setCell ta (.int .i64 c)) := by
  rw [rls]
  simp only [Sem.run_bind, as_partsEa, as_partsE, Result.andThen]
  have hl := run_loadCells_list (P := Tryz.prog) W b [.int .i64 c] (fun j v hj => by
    match j, hj with
    | 0, hj => simp at hj; subst hj; simpa [Addr.add] using hb)
  simp only [List.length_cons, List.length_nil, Nat.zero_add] at hl
  simp [ReflectliteValue.flagAddr, loadVar, isAgg, underlying, Tryz.underlying84, Result.andThen, as_direct, storeVar, Value.cells, hl]
  simp [storeCells, Addr.add]
  rw [run_store Tryz.prog W ta _ _ (by rfl)]
  simp [ht, hf]
end Go.Proofs.YtconcnndghmdfaaGreatDoor
namespace Go.Proofs.YtconcnndghmdfaaGreatDoor
open Go.RowKit Go.Extern.Stop Go.Stop Go.Extern

theorem as_methodKind (h : Value) (w : World) : (Go.method 369 221 (.agg #[h]) "Kind").run Tryz.prog w = .ok (180, h) w := by kernel_rfl
theorem as_methodElem (h : Value) (w : World) : (Go.method 369 221 (.agg #[h]) "Elem").run Tryz.prog w = .ok (190, .agg #[h]) w := by kernel_rfl
theorem as_methodImplements (h : Value) (w : World) : (Go.method 369 221 (.agg #[h]) "Implements").run Tryz.prog w = .ok (191, .agg #[h]) w := by kernel_rfl
theorem as_methodAssignableTo (h : Value) (w : World) : (Go.method 369 221 (.agg #[h]) "AssignableTo").run Tryz.prog w = .ok (188, .agg #[h]) w := by kernel_rfl

set_option maxHeartbeats 4000000 in
theorem as_hit (c : Int) (t : Addr) (old : Value) (w : World) (hg : w.cell? ⟨0, 0, none⟩ = some (.iface 221 (.agg #[.pointer (some ⟨2, 138, none⟩)]))) (ht0 : w.cell? t = some old) (hf0 : w.frozen? t = false) :
    Calls Tryz.prog 133 #[.iface 84 (.agg #[.int .i64 c]), .iface 183 (.pointer (some t))] w fun ev w' => ev = .returned (.bool true) ∧ w' = ((((w.alloc (.cells #[.pointer (some t)] 183)).alloc (.cells #[.pointer (some ⟨2, 183, none⟩), .pointer (some ⟨w.heap.size, 0, none⟩), .int .u64 150] 206)).alloc (.cells #[.pointer (some ⟨2, 183, none⟩), .pointer (some ⟨w.heap.size, 0, none⟩), .int .u64 150] 206)).alloc (.cells #[.int .i64 c] 84)).setCell t (.int .i64 c) := by
  have h6 := @run_callFunc_extern Tryz.prog 148 _ (fun args => ReflectliteValue.unpack (args.getD 0 (.tuple #[]))) Tryz.func148 (by kernel_rfl) (by kernel_rfl) (by kernel_rfl) (by kernel_rfl)
  have h7 := @run_callFunc_extern Tryz.prog 149 _ (ReflectliteValue.methodAny (ReflectliteValue.valueError "reflectlite.Value.Type" 0) (fun t _ _ _ => ReflectliteType.toType t)) Tryz.func149 (by kernel_rfl) (by kernel_rfl) (by kernel_rfl) (by kernel_rfl)
  have h8 := @run_callFunc_extern Tryz.prog 150 _ (ReflectliteValue.method (ReflectliteValue.valueError "reflectlite.Value.IsNil" 0) ReflectliteValue.isNil) Tryz.func150 (by kernel_rfl) (by kernel_rfl) (by kernel_rfl) (by kernel_rfl)
  have h27 := @run_callFunc_extern Tryz.prog 180 _ (ReflectliteType.abiMethod fun t => do pure (.int .u8 (← Rtype.kind t))) Tryz.func180 (by kernel_rfl) (by kernel_rfl) (by kernel_rfl) (by kernel_rfl)
  have h37 := @run_callFunc_extern Tryz.prog 190 _ (ReflectliteType.method ReflectliteType.elem) Tryz.func190 (by kernel_rfl) (by kernel_rfl) (by kernel_rfl) (by kernel_rfl)
  have h38 := @run_callFunc_extern Tryz.prog 191 _ (ReflectliteType.relation "Implements" ReflectliteType.implements_) Tryz.func191 (by kernel_rfl) (by kernel_rfl) (by kernel_rfl) (by kernel_rfl)
  have h10 := @run_callFunc_extern Tryz.prog 157 _ ReflectliteType.typeOf Tryz.func157 (by kernel_rfl) (by kernel_rfl) (by kernel_rfl) (by kernel_rfl)
  have h35 := @run_callFunc_extern Tryz.prog 188 _ (ReflectliteType.relation "AssignableTo" ReflectliteType.assignableTo) Tryz.func188 (by kernel_rfl) (by kernel_rfl) (by kernel_rfl) (by kernel_rfl)
  have h11 := @run_callFunc_extern Tryz.prog 158 _ (ReflectliteValue.method (ReflectliteValue.valueError "reflectlite.Value.Elem" 0) ReflectliteValue.elem) Tryz.func158 (by kernel_rfl) (by kernel_rfl) (by kernel_rfl) (by kernel_rfl)
  have h12 := @run_callFunc_extern Tryz.prog 159 _ ReflectliteValue.set Tryz.func159 (by kernel_rfl) (by kernel_rfl) (by kernel_rfl) (by kernel_rfl)
  have tO := as_typeOf
  have mA := as_methodAssignableTo
  have a25 := as_assignable
  have v25 := as_valueE
  have f6 := as_valueOf
  have f7 := as_type
  have mK := as_methodKind
  have mE := as_methodElem
  have mI := as_methodImplements
  have k27 := as_kindP
  have k25 := as_kindE
  have e27 := as_elem
  have i25 := as_implements
  have n8 := as_isNil ⟨w.heap.size, 0, none⟩ t ((w.alloc (.cells #[.pointer (some t)] 183)).alloc (.cells #[.pointer (some ⟨2, 183, none⟩), .pointer (some ⟨w.heap.size, 0, none⟩), .int .u64 150] 206)) (by simp)
  have hlt : 0 < w.heap.size := by
    rcases Nat.eq_zero_or_pos w.heap.size with h0 | h
    · simp [World.cell?, h0] at hg
    · exact h
  have hg2 : ((w.alloc (.cells #[.pointer (some t)] 183)).alloc (.cells #[.pointer (some ⟨2, 183, none⟩), .pointer (some ⟨w.heap.size, 0, none⟩), .int .u64 150] 206)).cell? ⟨0, 0, none⟩ = some (.iface 221 (.agg #[.pointer (some ⟨2, 138, none⟩)])) := by
    rw [World.cell?_alloc_lt _ _ ⟨0, 0, none⟩ (by simp), World.cell?_alloc_lt _ _ ⟨0, 0, none⟩ hlt]; exact hg
  have htl : t.block < w.heap.size := by
    rcases Nat.lt_or_ge t.block w.heap.size with h | h
    · exact h
    · simp [World.cell?, Array.getElem?_eq_none h] at ht0
  have el := as_elemV ⟨w.heap.size, 0, none⟩ t (((w.alloc (.cells #[.pointer (some t)] 183)).alloc (.cells #[.pointer (some ⟨2, 183, none⟩), .pointer (some ⟨w.heap.size, 0, none⟩), .int .u64 150] 206)).alloc (.cells #[.pointer (some ⟨2, 183, none⟩), .pointer (some ⟨w.heap.size, 0, none⟩), .int .u64 150] 206)) (by rw [World.cell?_alloc_lt _ _ ⟨w.heap.size, 0, none⟩ (by simp; omega)]; simp)
  have st := as_set t ⟨w.heap.size + 1 + 1 + 1, 0, none⟩ c old ((((w.alloc (.cells #[.pointer (some t)] 183)).alloc (.cells #[.pointer (some ⟨2, 183, none⟩), .pointer (some ⟨w.heap.size, 0, none⟩), .int .u64 150] 206)).alloc (.cells #[.pointer (some ⟨2, 183, none⟩), .pointer (some ⟨w.heap.size, 0, none⟩), .int .u64 150] 206)).alloc (.cells #[.int .i64 c] 84))
    (by rw [World.cell?_alloc_at _ _ _ _ (by simp)]; rfl)
    (by rw [World.cell?_alloc_lt _ _ t (by simp; omega), World.cell?_alloc_lt _ _ t (by simp; omega), World.cell?_alloc_lt _ _ t (by simp; omega), World.cell?_alloc_lt _ _ t htl]; exact ht0)
    (by rw [World.frozen?_alloc_old _ _ t (by simp; omega), World.frozen?_alloc_old _ _ t (by simp; omega), World.frozen?_alloc_old _ _ t (by simp; omega), World.frozen?_alloc_old _ _ t (Nat.ne_of_lt htl)]; exact hf0)
  go_enter Tryz.func133, Tryz.ntmps133
  go_wp2
  refine wp_loop_rounds 1 ?_
  rw [rounds_succ]
  go_wp2
  go_ret
  exact ⟨rfl, rfl⟩
end Go.Proofs.YtconcnndghmdfaaGreatDoor
namespace Go.Proofs.YtconcnndghmdfaaGreatDoor
open Go.RowKit

/-- errors.errorType is laid as the program's text lays it. -/
def Laid (w : World) : Prop := w.cell? ⟨0, 0, none⟩ = some (.iface 221 (.agg #[.pointer (some ⟨2, 138, none⟩)]))
theorem Laid.pos {w : World} (h : Laid w) : 0 < w.heap.size := by
  unfold Laid at h
  rcases Nat.eq_zero_or_pos w.heap.size with h0 | h1
  · simp [World.cell?, h0] at h
  · exact h1
theorem Laid.below {w w1 : World} {n : Nat} (h : Laid w) (hb : Below n w w1) (hn : 0 < n) : Laid w1 := by
  unfold Laid at *
  rw [← h]; exact hb.cell (p := ⟨0, 0, none⟩) hn
theorem Laid.alloc {w : World} (h : Laid w) (o : Obj) : Laid (w.alloc o) := by
  have hp := h.pos
  unfold Laid at *
  rw [World.cell?_alloc_lt _ _ ⟨0, 0, none⟩ hp]; exact h

set_option maxHeartbeats 800000 in
theorem codeOf_nil (w : World) : Calls Tryz.prog 101 #[.nilIface] w fun e w' => e = .returned (.int .i64 0) ∧ Below w.heap.size w w' := by
  go_enter Tryz.func101, Tryz.ntmps101
  go_wp2_with (go_at_call 133; refine (as_nil _ _).mono ?_; rintro e w' ⟨rfl, rfl⟩)
  go_ret
  exact ⟨rfl, by go_grown⟩

set_option maxHeartbeats 800000 in
theorem codeOf_fault (c : Int) (w : World) (hg : Laid w) : Calls Tryz.prog 101 #[.iface 84 (.agg #[.int .i64 c])] w fun e w' => e = .returned (.int .i64 c) ∧ Below w.heap.size w w' := by
  have hg1 : Laid (w.alloc (.cells #[.int .i64 0] 84)) := hg.alloc _
  unfold Laid at hg1
  clear hg
  have ht1 : (w.alloc (.cells #[.int .i64 0] 84)).cell? ⟨w.heap.size, 0, none⟩ = some (.int .i64 0) := by simp
  have hf1 : (w.alloc (.cells #[.int .i64 0] 84)).frozen? ⟨w.heap.size, 0, none⟩ = false := by simp
  go_enter Tryz.func101, Tryz.ntmps101
  go_wp2_with (go_at_call 133; refine (as_hit c _ (.int .i64 0) _ hg1 ht1 hf1).mono ?_; rintro e w' ⟨rfl, rfl⟩)
  go_ret
  exact ⟨rfl, by go_grown⟩
end Go.Proofs.YtconcnndghmdfaaGreatDoor

/- The program's Parse: what tokensOf hands on is collected. -/
import Derived.Test.YtdoodkabmeojmaaTokSeq
namespace Go.Proofs.Ytdoodkabmeojmaa
open Go Go.RowKit Go.Shelf
attribute [local go_sem] Oper.semAt_some
/-- What lies in memory between two rounds: the box X of a slice that owns the tokens so far. -/
def ColAt (b X : Nat) (w : World) (M : Nat → Prop) (pre : List Tok) (W : World) : Prop :=
  ∃ v, Boxed W X 35 v ∧ W.ownsRow b 40 3 v pre.length (tokC pre) ∧ ¬ M X ∧ (∀ g, v.ownBlock = some g → ¬ M g) ∧ (∀ g, M g → b ≤ g ∧ g < W.heap.size) ∧ b ≤ W.heap.size ∧ Below b w W
theorem own_cells {w : World} {base e size n : Nat} {v : Value} {xs : List Value} (h : w.ownsRow base e size v n xs) : ∀ g, v.ownBlock = some g → ∃ c, w.heap[g]? = some (.cells c e) := by
  intro g hg
  rcases h.2 with ⟨rfl, _⟩ | ⟨g', cap, cur, rfl, _, hgb, _⟩
  · simp [Value.ownBlock] at hg
  · obtain rfl : g' = g := by simpa [Value.ownBlock] using hg
    exact ⟨cur, hgb⟩
theorem colAt_stands {b X B : Nat} {w : World} (hB : b ≤ B) : StandsB B (ColAt b X w) := by
  rintro M M' pre W W' ⟨v, h1, h2, h3, h4, h5, h6, h7⟩ hm hM
  refine ⟨v, hm.cells h3 h1, own_of_block h2 (fun g hg => ?_), fun h => ?_, fun g hg h => ?_, fun g hg => ?_, Nat.le_trans h6 hm.size, hm.toBelow h7 h6 hB (fun g hg => (h5 g hg).1)⟩
  · obtain ⟨c, hc⟩ := own_cells h2 g hg
    rw [hc, hm.cells (h4 g hg) hc]
  · rcases hM X h with h | h
    · exact h3 h
    · have := h1.lt; omega
  · rcases hM g h with h | h
    · exact h4 g hg h
    · have := (h2.lt g hg).2; omega
  · rcases hM g hg with h | h
    · exact ⟨(h5 g h).1, Nat.lt_of_lt_of_le (h5 g h).2 hm.size⟩
    · exact ⟨Nat.le_trans h6 h.1, h.2⟩
set_option maxRecDepth 100000 in
set_option maxHeartbeats 3200000 in
theorem appendToks (n gf b : Nat) (lb : Array Value) (hn : 2 ≤ n) (M₀ : Nat → Prop) (S Sp : List Tok → Prop) (N : Nat) (hN : N ≤ 100000) (w : World) (eg : ∀ args w, (callFunc gf args).run Try.prog w = .ok (.enter gf args) w)
    (hseq : SeqM Fence.wide (n - 1) Try.prog gf lb (fun x => #[tokV x]) M₀ S Sp N w) (hM : ∀ g, M₀ g → b ≤ g ∧ g < w.heap.size) (hb : b ≤ w.heap.size) :
    Calls Try.prog 77 #[.slice none 0 0, .func (.func gf) #[] lb] w fun e w' => ∃ v xs, e = .returned v ∧ S xs ∧ w'.ownsRow b 40 3 v xs.length (tokC xs) ∧ Below b w w' := by
  obtain ⟨i0, hi, hz0, hz1, hz2⟩ := info_parts Try.infoTok
  refine (callsIn_wide (n := n)).1 ?_
  refine callsIn_of_wp_marks Try.func77 rfl trivial ?_ rfl
  simp only [Try.ntmps77, List.size_toArray, List.length_cons, List.length_nil, Nat.reduceAdd, Nat.reduceSub, Array.replicate_succ, Array.replicate_zero, List.push_toArray, List.append_toArray, List.nil_append, List.cons_append]
  gi_wp2_with fail
  obtain ⟨X, hX⟩ : ∃ X, X = w.heap.size := ⟨_, rfl⟩
  have bX := Boxed.new w 35 (.slice none 0 0)
  have hb1 : Below b w (w.alloc (.cells #[.slice none 0 0] 35)) := (Below.refl _ _).alloc hb _
  have hk1 : KeptM M₀ w (w.alloc (.cells #[.slice none 0 0] 35)) := KeptM.below ((Below.refl _ w).alloc (Nat.le_refl _) _)
  have hs1 : (w.alloc (.cells #[.slice none 0 0] 35)).heap.size = X + 1 := by simp [hX]
  rw [← hX] at bX hM hb ⊢
  have HX := hide hX
  clear hX
  generalize w.alloc (.cells #[.slice none 0 0] 35) = w1 at *
  refine wpIn_rangeM rfl (by omega) (gf := gf) (lb := lb) rfl trivial eg (hseq.later hk1) (fun g hg => by have := hM g hg; omega) (fun _ => rfl) (ColAt b X w) (fun _ _ _ _ => False) (colAt_stands (by omega)) (fun _ _ _ _ _ _ h _ _ => h)
    ⟨_, bX, World.ownsRow_nil _ _ _ _, fun h => by have := hM _ h; omega, by simp [Value.ownBlock], fun g hg => by have := hM g hg; omega, by omega, hb1⟩
    (fun x a' W => ∃ p, a' = { tmps := #[.slice none 0 0, .func (.func gf) #[] lb, .pointer (some ⟨X, 0, none⟩), undef, .slice none 0 0, .pointer (some ⟨p, 0, none⟩), .func (.func gf) #[] lb, tokV x, undef, undef, undef, undef, undef], defers := [] } ∧ W.heap[p]? = some (.cells #[.int .i64 x.b, .int .i64 x.m, .int .i64 x.f] 40))
    ?hAx ?assign ?body ?done ?stop
  case hAx =>
    rintro x a' _ W W' row ⟨p, e, hp⟩ hg hrow
    refine ⟨p, e, (hg.block p (Array.getElem?_eq_some_iff.1 hp).1 (fun h => ?_)).trans hp⟩
    obtain ⟨_, o, ho, hc⟩ := hrow p h.symm
    rw [hp] at ho; cases ho; cases hc
  case assign =>
    intro l M pre x W K hI hK
    have hK2 := hK
    obtain ⟨xb, xm, xf⟩ := x
    simp only [tokV] at hK ⊢
    gi_wp2_with fail
    refine hK _ _ (KeepsFrom.below ((Below.refl _ W).alloc (Nat.le_refl _) _)) (KeptM.below ((Below.refl _ W).alloc (Nat.le_refl _) _)) ((colAt_stands (B := b) (Nat.le_refl _)).alloc _ hI) ⟨W.heap.size, rfl, World.alloc_heap_new W _⟩
  case body =>
    rintro l M pre ⟨xb, xm, xf⟩ a' W ⟨v, h1, h2, h3, h4, h5, h6, h7⟩ ⟨p, rfl, hp⟩ hlt
    simp only [tokV]
    have hc := h1.cell
    have e0 : W.cell? ⟨p, 0, none⟩ = some (.int .i64 xb) := by simp [World.cell?, hp]
    have e1 : W.cell? ⟨p, 1, none⟩ = some (.int .i64 xm) := by simp [World.cell?, hp]
    have e2 : W.cell? ⟨p, 2, none⟩ = some (.int .i64 xf) := by simp [World.cell?, hp]
    gi_wp2_with (gi_at_builtin; refine wpListIn_append_lies _ rfl _ _ 35 rfl b 40 i0 (.agg #[.int .i64 0, .int .i64 0, .int .i64 0]) 3 24 Try.underlying35 hi hz0 hz1 hz2 rfl (by omega) v pre.length (tokC pre) rfl (h2.alloc _) ⟨W.heap.size, 0, none⟩ 1 1 [.int .i64 xb, .int .i64 xm, .int .i64 xf] rfl rfl (tri_cells _ _ _ _ _ _ (by simp)) (tri_one _ _ _) (by omega) (by unfold maxLen; omega) (by omega) (by simp; omega) _ rfl ?_; intro g' cap' w9 hown9 hg9 hat9 hlt9; obtain ⟨hv1, hv2, hr2, hk2, hb2⟩ := h1.appended (by decide) h2 h6 hb hown9 hg9; have hc1 := hv1.cell; have hf1 := hv1.frozen)
    have hoff : ∀ g, M g → some g ≠ v.ownBlock := fun g hg e => h4 g e.symm hg
    refine ⟨hk2.from _, ⟨hb2.size, fun g h9 hg => ?_⟩, _, hv2, by rw [tokC_snoc, List.length_append]; exact hr2, h3, fun g hg hm => ?_, fun g hg => ⟨(h5 g hg).1, Nat.lt_of_lt_of_le (h5 g hg).2 hb2.size⟩, Nat.le_trans h6 hb2.size, h7.trans hb2⟩
    · rw [Below.heap_setCell w9 ⟨X, 0, none⟩ _ g (fun e => h3 ((show g = X from e) ▸ hg))]
      exact (hg9.block g (by simp; omega) (hoff g hg)).trans (Below.heap_alloc _ _ _ h9)
    · obtain rfl : g' = g := by simpa [Value.ownBlock] using hg
      rcases hat9 with h | h
      · exact h4 _ h hm
      · have := (h5 _ hm).2
        simp at h; omega
  case done =>
    rintro D M xs W hD hS ⟨v, h1, h2, h3, h4, h5, h6, h7⟩ hK
    have hc := h1.cell
    gi_wp2_with fail
    refine ⟨by simp, .inl ⟨_, _, rfl, run_takeDeferred hK, ?_⟩⟩
    exact ⟨_, results_tmp rfl _ _ _, v, xs, rfl, hS, ownsRow_putObj h2 _ hK rfl, h7.trans (belowK_b (w := w1) (n₀ := b) (by omega) W D _ _ hD hK rfl rfl)⟩
  case stop =>
    rintro D c M pre W _ _ h _
    exact h.elim
set_option maxRecDepth 100000 in
set_option maxHeartbeats 1600000 in
theorem imp_collectToks (n gf b : Nat) (lb : Array Value) (hn : 2 ≤ n) (M₀ : Nat → Prop) (S Sp : List Tok → Prop) (N : Nat) (hN : N ≤ 100000) (w : World) (eg : ∀ args w, (callFunc gf args).run Try.prog w = .ok (.enter gf args) w)
    (hseq : SeqM Fence.wide (n - 1) Try.prog gf lb (fun x => #[tokV x]) M₀ S Sp N w) (hM : ∀ g, M₀ g → b ≤ g ∧ g < w.heap.size) (hb : b ≤ w.heap.size) :
    Calls Try.prog 48 #[.func (.func gf) #[] lb] w fun e w' => ∃ v xs, e = .returned v ∧ S xs ∧ w'.ownsRow b 40 3 v xs.length (tokC xs) ∧ Below b w w' := by
  have SA := hide (appendToks n gf b lb hn M₀ S Sp N hN w eg hseq hM hb)
  clear hseq hM eg
  go_enter Try.func48, Try.ntmps48
  go_wp2_with fail
  refine SA.out.mono ?_
  rintro e w1 ⟨v, xs, rfl, hS, hown, hbl⟩
  go_wp2_with fail
  go_ret
  exact ⟨_, _, rfl, hS, hown, hbl⟩
set_option maxRecDepth 100000 in
set_option maxHeartbeats 1600000 in
theorem imp_parse (t : ByteArray) (w : World) (hts : t.size ≤ 9223372036854775807) :
    Calls Try.prog 15 #[.string t] w fun e w' => ∃ v, e = .returned v ∧ w'.ownsRow w.heap.size 40 3 v (parS t).length (tokC (parS t)) ∧ Below w.heap.size w w' := by
  by_cases h : t.size ≤ 4000
  · have h' : ¬ (4000 : Int) < (t.size : Int) := by omega
    have hE := hide (show parS t = parseL (bF t) t.size from if_pos h)
    go_enter Try.func15, Try.ntmps15
    go_wp2_with fail
    refine (imp_tokensOf t w).mono ?_
    rintro e w1 ⟨rfl, rfl⟩
    have SC := hide (imp_collectToks 3 78 w.heap.size #[.pointer (some ⟨w.heap.size, 0, none⟩)] (by omega) (fun g => g = w.heap.size) _ _ t.size (by omega) (w.alloc (.cells #[.string t] 9)) (enters_of Try.func78 (by kernel_rfl) rfl)
      (toks_seq 2 w.heap.size (by omega) t h _ (World.alloc_heap_new w _)) (fun g hg => by simp; omega) (by simp))
    have hb1 := hide ((Below.refl _ w).alloc (Nat.le_refl _) (.cells #[.string t] 9))
    go_wp2_with fail
    refine SC.out.mono ?_
    rintro e w2 ⟨v, xs, rfl, rfl, hown, hbl⟩
    have hb2 := hide (hb1.out.trans hbl)
    have HO := hide hown
    clear hown hbl hb1 SC
    go_wp2_with fail
    go_ret
    rw [hE.out]
    exact ⟨_, rfl, HO.out, hb2.out⟩
  · have h' : (4000 : Int) < (t.size : Int) := by omega
    have hE : parS t = [] := if_neg h
    rw [hE]
    clear hE
    go_enter Try.func15, Try.ntmps15
    go_wp2_with fail
    go_ret
    exact ⟨_, rfl, World.ownsRow_nil _ _ _ _, Below.refl _ _⟩
end Go.Proofs.Ytdoodkabmeojmaa

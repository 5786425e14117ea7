/- ImpText, LayNum, PutTok, PastK, PastP, PastO, PastG, one behind the other. -/
import Derived.Test.YtdoodkabmeojmaaDoorZ2
import Derived.Test.YtdoodkabmeojmaaDoorPackU
import Derived.Test.YtdoodkabmeojmaaDoorOwnConv
import Derived.Test.YtdoodkabmeojmaaDoorZ1
import Derived.Test.YtdoodkabmeojmaaDoorPackS
import Derived.Test.YtdoodkabmeojmaaDoorRows
import Derived.Test.YtdoodkabmeojmaaDoorChecked
import Derived.Test.YtdoodkabmeojmaaDoorRowC
import Derived.Test.YtdoodkabmeojmaaDoorArr
import Derived.Test.YtdoodkabmeojmaaDoorMatchF
import Derived.Test.YtdoodkabmeojmaaDoorHeldOne
import Derived.Laws.ResultCell
/- The program's (*decoder).text. -/
namespace Go.Proofs.YtdoodkabmeojmaaDoor
open Go Go.RowKit Go.Shelf
attribute [local go_sem] Oper.semAt_some
def noPanT (Q : Exit → Act → World → Prop) : Exit → Act → World → Prop
  | .panic _, _, _ => False
  | e, a, w => Q e a w
theorem noPanT_to (Q : Exit → Act → World → Prop) : ∀ e a w, noPanT Q e a w → Q e a w := fun e a w h => by
  cases e <;> first | exact h | exact h.elim
theorem own_cellsT {w : World} {base e size n : Nat} {v : Value} {xs : List Value} (h : w.ownsRow base e size v n xs) : ∀ g, v.ownBlock = some g → ∃ c, w.heap[g]? = some (.cells c e) := by
  intro g hg
  rcases h.2 with ⟨rfl, _⟩ | ⟨g', cap, cur, rfl, _, hgb, _⟩
  · simp [Value.ownBlock] at hg
  · obtain rfl : g' = g := by simpa [Value.ownBlock] using hg
    exact ⟨cur, hgb⟩
/-- What lies in memory between two rounds: the results' cells z and z + 1, the box z + 2 of what is there. -/
def TxtAt (b z : Nat) (w : World) (M : Nat → Prop) (pre : List Tok) (W : World) : Prop :=
  ∃ v bts, growL pre [] = some bts ∧ Boxed W (z + 2) 22 v ∧ W.ownsRow b 5 1 v bts.length (bts.map byteV) ∧ ¬ M (z + 2) ∧ (∀ g, v.ownBlock = some g → ¬ M g) ∧ (Boxed W z 9 (.string ⟨#[]⟩) ∧ Boxed W (z + 1) 4 (.bool false) ∧ ¬ M z ∧ ¬ M (z + 1)) ∧ (∀ g, M g → b ≤ g ∧ g < W.heap.size) ∧ b ≤ W.heap.size ∧ Below b w W
/-- .. where a match goes too far back. -/
def TxtNo (b z : Nat) (w : World) (c : Code) (M : Nat → Prop) (pre : List Tok) (W : World) : Prop :=
  c = .ret ∧ growL pre [] = none ∧ (Boxed W z 9 (.string ⟨#[]⟩) ∧ Boxed W (z + 1) 4 (.bool false) ∧ ¬ M z ∧ ¬ M (z + 1)) ∧ (∀ g, M g → b ≤ g ∧ g < W.heap.size) ∧ b ≤ W.heap.size ∧ Below b w W
theorem txtAt_stands {b z B : Nat} {w : World} (hB : b ≤ B) : StandsB B (TxtAt b z w) := by
  rintro M M' pre W W' ⟨v, bts, h0, h1, h2, h3, h4, ⟨r1, r2, r3, r4⟩, h5, h6, h7⟩ hm hM
  have off : ∀ k, k < W.heap.size → ¬ M k → ¬ M' k := fun k hk h hh => by
    rcases hM k hh with h' | h'
    · exact h h'
    · omega
  refine ⟨v, bts, h0, hm.cells h3 h1, own_of_block h2 (fun g hg => ?_), off _ h1.lt h3, fun g hg => off g (h2.lt g hg).2 (h4 g hg), ⟨hm.cells r3 r1, hm.cells r4 r2, off _ r1.lt r3, off _ r2.lt r4⟩, fun g hg => ?_, Nat.le_trans h6 hm.size, hm.toBelow h7 h6 hB (fun g hg => (h5 g hg).1)⟩
  · obtain ⟨c, hc⟩ := own_cellsT h2 g hg
    rw [hc, hm.cells (h4 g hg) hc]
  · rcases hM g hg with h | h
    · exact ⟨(h5 g h).1, Nat.lt_of_lt_of_le (h5 g h).2 hm.size⟩
    · exact ⟨Nat.le_trans h6 h.1, h.2⟩
theorem txtNo_stands {b z B : Nat} {w : World} (hB : b ≤ B) (c : Code) : StandsB B (TxtNo b z w c) := by
  rintro M M' pre W W' ⟨h0, h1, ⟨r1, r2, r3, r4⟩, h5, h6, h7⟩ hm hM
  have off : ∀ k, k < W.heap.size → ¬ M k → ¬ M' k := fun k hk h hh => by
    rcases hM k hh with h' | h'
    · exact h h'
    · omega
  refine ⟨h0, h1, ⟨hm.cells r3 r1, hm.cells r4 r2, off _ r1.lt r3, off _ r2.lt r4⟩, fun g hg => ?_, Nat.le_trans h6 hm.size, hm.toBelow h7 h6 hB (fun g hg => (h5 g hg).1)⟩
  rcases hM g hg with h | h
  · exact ⟨(h5 g h).1, Nat.lt_of_lt_of_le (h5 g h).2 hm.size⟩
  · exact ⟨Nat.le_trans h6 h.1, h.2⟩
set_option maxRecDepth 100000 in
set_option maxHeartbeats 3200000 in
theorem imp_text (b g size : Nat) (t : ByteArray) (w : World) (h4 : size ≤ 4000) (hts : t.size ≤ 9223372036854775807) (hdec : DecP w g t rc0 (pv (tbN t) 4)) (hbg : b ≤ g) :
    Calls Tryd.prog 46 #[.pointer (some ⟨g, 0, none⟩), .int .i64 (size : Int)] w fun e w' => e = .returned (.tuple #[.string (unpO t size).1, .bool (unpO t size).2]) ∧ Below b w w' := by
  have hgl := hdec.lt
  have hp4 : pv (tbN t) 4 < 18446744073709551616 := Nat.lt_of_lt_of_le (pv_lt (tbN t) (tbN_lt t) 4) (by decide)
  have hok0 : DecOk (rc0, pv (tbN t) 4) 0 := ⟨rc0_ok, hp4, Nat.le_refl _⟩
  obtain ⟨z, hz⟩ : ∃ z, z = w.heap.size := ⟨_, rfl⟩
  refine (callsIn_wide (n := 5)).1 ?_
  refine callsIn_of_wp_marks Tryd.func46 rfl trivial ?_ rfl
  simp only [Tryd.ntmps46, List.size_toArray, List.length_cons, List.length_nil, Nat.reduceAdd, Nat.reduceSub, Array.replicate_succ, Array.replicate_zero, List.push_toArray, List.append_toArray, List.nil_append, List.cons_append]
  refine Go.wpIn_mono (Q := noPanT _) ?_ (noPanT_to _)
  refine wpIn_wide.2 ?_
  have hal : Below w.heap.size w (((w.alloc (.cells #[.string ⟨#[]⟩] 9)).alloc (.cells #[.bool false] 4)).alloc (.cells #[.slice none 0 0] 22)) := (((Below.refl _ w).alloc (Nat.le_refl _) _).alloc (by simp) _).alloc (by simp; omega) _
  have x0 : Boxed (((w.alloc (.cells #[.string ⟨#[]⟩] 9)).alloc (.cells #[.bool false] 4)).alloc (.cells #[.slice none 0 0] 22)) z 9 (.string ⟨#[]⟩) := by
    rw [hz]; exact ((Boxed.new w 9 (.string ⟨#[]⟩)).alloc _).alloc _
  have x1 : Boxed (((w.alloc (.cells #[.string ⟨#[]⟩] 9)).alloc (.cells #[.bool false] 4)).alloc (.cells #[.slice none 0 0] 22)) (z + 1) 4 (.bool false) := by
    have h := (Boxed.new (w.alloc (.cells #[.string ⟨#[]⟩] 9)) 4 (.bool false)).alloc (.cells #[.slice none 0 0] 22)
    rw [World.size_alloc, ← hz] at h; exact h
  have x2 : Boxed (((w.alloc (.cells #[.string ⟨#[]⟩] 9)).alloc (.cells #[.bool false] 4)).alloc (.cells #[.slice none 0 0] 22)) (z + 2) 22 (.slice none 0 0) := by
    have h := Boxed.new ((w.alloc (.cells #[.string ⟨#[]⟩] 9)).alloc (.cells #[.bool false] 4)) 22 (.slice none 0 0)
    rw [World.size_alloc, World.size_alloc, ← hz] at h; exact h
  have xs : (((w.alloc (.cells #[.string ⟨#[]⟩] 9)).alloc (.cells #[.bool false] 4)).alloc (.cells #[.slice none 0 0] 22)).heap.size = z + 3 := by simp [hz]
  have xd := hide (hdec.kept (hal.block g hgl))
  have HA := hide hal
  have HZ := hide hz
  have hgz : g < z := by omega
  clear hdec hz hal hp4
  go_wp2_with fail
  rw [← HZ.out]
  generalize (((w.alloc (.cells #[.string ⟨#[]⟩] 9)).alloc (.cells #[.bool false] 4)).alloc (.cells #[.slice none 0 0] 22)) = w2 at *
  refine (imp_tokens g size w2).mono ?_
  rintro e w3 ⟨rfl, hw3⟩
  have hal3 : Below w2.heap.size w2 w3 := by rw [hw3]; exact ((Below.refl _ w2).alloc (Nat.le_refl _) _).alloc (by simp) _
  have s3 : w3.heap.size = z + 5 := by rw [hw3]; simp [xs]
  have y3 : w3.heap[z + 3]? = some (.cells #[.pointer (some ⟨g, 0, none⟩)] 88) := by
    rw [hw3]
    have h := World.alloc_heap_new w2 (.cells #[.pointer (some ⟨g, 0, none⟩)] 88)
    rw [xs] at h
    exact (Below.heap_alloc (w2.alloc (.cells #[.pointer (some ⟨g, 0, none⟩)] 88)) (.cells #[.int .i64 (size : Int)] 3) (z + 3) (by simp [xs])).trans h
  have y4 : w3.heap[z + 4]? = some (.cells #[.int .i64 (size : Int)] 3) := by
    rw [hw3]
    have h := World.alloc_heap_new (w2.alloc (.cells #[.pointer (some ⟨g, 0, none⟩)] 88)) (.cells #[.int .i64 (size : Int)] 3)
    rw [World.size_alloc, xs] at h; exact h
  have d3 : DecP w3 g t rc0 (pv (tbN t) 4) := xd.out.kept (hal3.block g (by omega))
  have b3 : Below b w w3 := (HA.out.mono (by rw [← HZ.out]; omega)).trans (hal3.mono (by omega))
  have x0' : Boxed w3 z 9 (.string ⟨#[]⟩) := (hal3.block z (by omega)).trans x0
  have x1' : Boxed w3 (z + 1) 4 (.bool false) := (hal3.block (z + 1) (by omega)).trans x1
  have x2' : Boxed w3 (z + 2) 22 (.slice none 0 0) := (hal3.block (z + 2) (by omega)).trans x2
  rw [xs]
  clear hw3 hal3 x0 x1 x2 xd
  go_wp2_with fail
  refine (wpIn_wide (n := 5)).1 ?_
  refine wpIn_rangeM rfl (by omega) (gf := 76) (lb := #[.pointer (some ⟨z + 4, 0, none⟩), .pointer (some ⟨z + 3, 0, none⟩)]) rfl trivial (enters_of Tryd.func76 (by kernel_rfl) rfl) (dtoks_seq 4 (z + 4) (z + 3) g size (by omega) t h4 hts (rc0, pv (tbN t) 4) hok0 w3 y4 y3 d3 (by omega) (by omega)) (fun k hk => by rcases hk with h | h | h <;> omega) (fun _ => rfl) (TxtAt b z w) (TxtNo b z w) (txtAt_stands (by omega)) (txtNo_stands (by omega))
    ⟨_, [], rfl, x2', World.ownsRow_nil _ _ _ _, by omega, by simp [Value.ownBlock], ⟨x0', x1', by omega, by omega⟩, fun k hk => by rcases hk with h | h | h <;> omega, by omega, b3⟩
    (fun x a' W => ∃ p, a' = { tmps := #[.pointer (some ⟨g, 0, none⟩), .int .i64 (size : Int), undef, undef, .pointer (some ⟨z, 0, none⟩), .pointer (some ⟨z + 1, 0, none⟩), .pointer (some ⟨z + 2, 0, none⟩), .pointer (some ⟨p, 0, none⟩), undef, .pointer (some ⟨g, 0, none⟩), .int .i64 (size : Int), .func (.func 76) #[] #[.pointer (some ⟨z + 4, 0, none⟩), .pointer (some ⟨z + 3, 0, none⟩)], tokV x, undef, undef, undef, undef, undef, undef, undef, undef, undef, undef, undef, undef, undef, undef], defers := [] } ∧ W.heap[p]? = some (.cells #[.int .i64 x.b, .int .i64 x.m, .int .i64 x.f] 38))
    ?hAx ?assign ?body ?done ?stop
  case hAx =>
    rintro x a' _ W W' row ⟨p, e, hp⟩ hg hrow
    refine ⟨p, e, (hg.block p (Array.getElem?_eq_some_iff.1 hp).1 (fun h => ?_)).trans hp⟩
    obtain ⟨_, o, ho, hc⟩ := hrow p h.symm
    rw [hp] at ho; cases ho; cases hc
  case assign =>
    intro l M pre x W K hI hK
    obtain ⟨xb, xm, xf⟩ := x
    simp only [tokV] at hK ⊢
    gi_wp2_with fail
    refine hK _ _ (KeepsFrom.below ((Below.refl _ W).alloc (Nat.le_refl _) _)) (KeptM.below ((Below.refl _ W).alloc (Nat.le_refl _) _)) ((txtAt_stands (B := b) (Nat.le_refl _)).alloc _ hI) ⟨W.heap.size, ?_, World.alloc_heap_new W _⟩
    simp
  case body =>
    rintro l M pre x a' W ⟨v, bts, h0, h1, h2, h3, h4, h41, h5, h6, h7⟩ ⟨p, rfl, hp⟩ hpre
    obtain ⟨rest, hrest⟩ := hpre
    rw [List.append_assoc] at hrest
    obtain ⟨hlt, st', hx⟩ := dt_step (tbN t) size pre size (rc0, pv (tbN t) 4) [] bts x rest hrest h0
    have hc := h1.cell
    have hfz := h1.frozen
    have hzl := h1.lt
    have key : ∀ (v' : Value) (bts' : List UInt8) (W' : World), growT x bts = some bts' → W'.ownsRow b 5 1 v' bts'.length (bts'.map byteV) → Below b W W' → OffV v v' W W' → roundPost w3.heap.size M (TxtAt b z w) (TxtNo b z w) (pre ++ [x]) W .normal ⟨#[], []⟩ (W'.setCell ⟨z + 2, 0, none⟩ v') := by
      intro v' bts' W' hg ho hb hoff
      have n2 : some (z + 2) ≠ v.ownBlock := h1.not_row (by decide) h2
      have k2 : Boxed W' (z + 2) 22 v := (hoff.same (z + 2) hzl (fun e => n2 e.symm)).trans h1
      have n2' : some (z + 2) ≠ v'.ownBlock := k2.not_row (by decide) ho
      have hs := hb.size
      have same : ∀ k, k < W.heap.size → v.ownBlock ≠ some k → k ≠ z + 2 → (W'.setCell ⟨z + 2, 0, none⟩ v').heap[k]? = W.heap[k]? := fun k hk hv hz => (Below.heap_setCell W' ⟨z + 2, 0, none⟩ v' k hz).trans (hoff.same k hk hv)
      refine ⟨⟨by simpa [World.setCell] using hs, fun k o _ hk ho => ?_⟩, ⟨by simpa [World.setCell] using hs, fun k hk hm => same k hk (fun e => h4 k e hm) (fun e => h3 (e ▸ hm))⟩, v', bts', ?_, k2.set v', ho.kept (grownBy_setCell' W' (z + 2) v') (.inr (fun e => n2' e.symm)), h3, fun k hk => ?_, ⟨?_, ?_, h41.2.2.1, h41.2.2.2⟩, fun k hk => ⟨(h5 k hk).1, by have := (h5 k hk).2; simpa [World.setCell] using Nat.lt_of_lt_of_le this hs⟩, by simpa [World.setCell] using Nat.le_trans h6 hs, (h7.trans hb).setCell (p := ⟨z + 2, 0, none⟩) (by show b ≤ z + 2; omega) v'⟩
      · refine (same k (Array.getElem?_eq_some_iff.1 hk).1 (fun e => ?_) (fun e => ?_)).trans hk
        · obtain ⟨c, hc⟩ := own_cellsT h2 k e
          rw [hc] at hk; cases hk; cases ho
        · rw [e, show W.heap[z + 2]? = _ from h1] at hk; cases hk; cases ho
      · rw [growL_snoc, h0]; exact hg
      · rcases hoff.lies k hk with h | h
        · exact h4 k h
        · exact fun hm => by have := (h5 k hm).2; omega
      · exact (same z h41.1.lt (fun e => h41.1.not_row (by decide) h2 e.symm) (by omega)).trans h41.1
      · exact (same (z + 1) h41.2.1.lt (fun e => h41.2.1.not_row (by decide) h2 e.symm) (by omega)).trans h41.2.1
    have KEY := hide key
    have HH := hide (And.intro h0 (And.intro h1 (And.intro h2 (And.intro h3 (And.intro h4 (And.intro h41 (And.intro h5 (And.intro h6 h7))))))))
    have h6' := h6
    clear key h4 h41 h5 h7
    rcases dtok_two (tbN t) st' with ⟨y, hy, e⟩ | ⟨MM, F, m1, m2, f1, f2, e⟩
    · rw [← hx] at e
      subst e
      have SG := hide (imp_grown_byteK v bts b y W h6 h2 (by omega) hy)
      have e0 : W.cell? ⟨p, 0, none⟩ = some (.int .i64 (y : Int)) := by simp [World.cell?, hp]
      have e1 : W.cell? ⟨p, 1, none⟩ = some (.int .i64 0) := by simp [World.cell?, hp]
      have e2 : W.cell? ⟨p, 2, none⟩ = some (.int .i64 0) := by simp [World.cell?, hp]
      clear hx h0 h1 h2 h3 hp hrest
      simp only [tokV]
      gi_wp2_with fail
      refine ⟨trivial, (CallsIn.inRound l (callsIn_wide.2 SG.out)).mono ?_⟩
      rintro e W' ⟨v', rfl, ho, hb, hoff⟩
      have R := hide (KEY.out v' _ W' (growT_byte y bts) ho hb hoff)
      have cX : W'.cell? ⟨z + 2, 0, none⟩ = some v := Boxed.cell ((hoff.same (z + 2) hzl (fun e => HH.out.2.1.not_row (by decide) HH.out.2.2.1 e.symm)).trans HH.out.2.1)
      have fX : W'.frozen? ⟨z + 2, 0, none⟩ = false := Boxed.frozen ((hoff.same (z + 2) hzl (fun e => HH.out.2.1.not_row (by decide) HH.out.2.2.1 e.symm)).trans HH.out.2.1)
      obtain ⟨va, vl, vc, rfl⟩ : ∃ a l c, v' = .slice a l c := by
        obtain ⟨_, ⟨e, _⟩ | ⟨g, cap, cur, e, _⟩⟩ := ho
        · exact ⟨_, _, _, e⟩
        · exact ⟨_, _, _, e⟩
      clear ho hb hoff SG KEY e0 e1 e2 hc hfz HH
      gi_wp2_with fail
      exact R.out
    · rw [← hx] at e
      subst e
      have e0 : W.cell? ⟨p, 0, none⟩ = some (.int .i64 0) := by simp [World.cell?, hp]
      have e1 : W.cell? ⟨p, 1, none⟩ = some (.int .i64 (MM : Int)) := by simp [World.cell?, hp]
      have e2 : W.cell? ⟨p, 2, none⟩ = some (.int .i64 (F : Int)) := by simp [World.cell?, hp]
      by_cases hF : bts.length < F
      · have SG := hide (imp_grown_noK v bts b MM F W h2 (by omega) m1 m2 f2 hF)
        have HNO := hide (show growL (pre ++ [(⟨0, (MM : Int), (F : Int)⟩ : Tok)]) [] = none by rw [growL_snoc, h0]; exact (growT_match MM F bts m1).trans (if_pos hF))
        clear hx h0 h1 h2 h3 hp hrest KEY
        simp only [tokV]
        gi_wp2_with fail
        refine ⟨trivial, (CallsIn.inRound l (callsIn_wide.2 SG.out)).mono ?_⟩
        rintro e W' ⟨rfl, hb⟩
        obtain ⟨_, h1, h2, h3, h4, h41, h5, h6, h7⟩ := HH.out
        have k2 : Boxed W' (z + 2) 22 v := (hb.block _ hzl).trans h1
        have k0 : Boxed W' z 9 (.string ⟨#[]⟩) := (hb.block _ h41.1.lt).trans h41.1
        have k1 : Boxed W' (z + 1) 4 (.bool false) := (hb.block _ h41.2.1.lt).trans h41.2.1
        have cX := k2.cell
        have fX := k2.frozen
        have cY := k0.cell
        have fY := k0.frozen
        have cZ := k1.cell
        have fZ := k1.frozen
        have R := hide (show roundPost w3.heap.size M (TxtAt b z w) (TxtNo b z w) (pre ++ [(⟨0, (MM : Int), (F : Int)⟩ : Tok)]) W .ret ⟨#[], []⟩ (((W'.setCell ⟨z + 2, 0, none⟩ (.slice none 0 0)).setCell ⟨z, 0, none⟩ (.string ⟨#[]⟩)).setCell ⟨z + 1, 0, none⟩ (.bool false)) from by
          have hs := hb.size
          have same : ∀ k, k < W.heap.size → k ≠ z → k ≠ z + 1 → k ≠ z + 2 → (((W'.setCell ⟨z + 2, 0, none⟩ (.slice none 0 0)).setCell ⟨z, 0, none⟩ (.string ⟨#[]⟩)).setCell ⟨z + 1, 0, none⟩ (.bool false)).heap[k]? = W.heap[k]? := fun k hk a0 a1 a2 =>
            (Below.heap_setCell _ ⟨z + 1, 0, none⟩ _ k a1).trans ((Below.heap_setCell _ ⟨z, 0, none⟩ _ k a0).trans ((Below.heap_setCell W' ⟨z + 2, 0, none⟩ _ k a2).trans (hb.block k hk)))
          refine ⟨⟨by simpa [World.setCell] using hs, fun k o _ hk ho => ?_⟩, rfl, HNO.out, ⟨((k0.other (by omega) _).set _).other (by omega) _, ((k1.other (by omega) _).other (by omega) _).set _, h41.2.2.1, h41.2.2.2⟩, fun k hk => ⟨(h5 k hk).1, by have := (h5 k hk).2; simpa [World.setCell] using Nat.lt_of_lt_of_le this hs⟩, by simpa [World.setCell] using Nat.le_trans h6 hs, ?_⟩
          · refine (same k (Array.getElem?_eq_some_iff.1 hk).1 (fun e => ?_) (fun e => ?_) (fun e => ?_)).trans hk
            · rw [e, show W.heap[z]? = _ from h41.1] at hk; cases hk; cases ho
            · rw [e, show W.heap[z + 1]? = _ from h41.2.1] at hk; cases hk; cases ho
            · rw [e, show W.heap[z + 2]? = _ from h1] at hk; cases hk; cases ho
          · exact (((h7.trans (hb.mono h6)).setCell (p := ⟨z + 2, 0, none⟩) (by show b ≤ z + 2; omega) _).setCell (p := ⟨z, 0, none⟩) (by show b ≤ z; omega) _).setCell (p := ⟨z + 1, 0, none⟩) (by show b ≤ z + 1; omega) _)
        clear h1 h2 h3 h4 h41 h5 h6 h7 k0 k1 k2 hb SG e0 e1 e2 hc hfz HH
        gi_wp2_with fail
        exact R.out
      · have SG := hide (imp_grown_matchK v bts b MM F W h6 h2 (by omega) m1 m2 f1 f2 (by omega))
        clear hx h0 h1 h2 h3 hp hrest
        simp only [tokV]
        gi_wp2_with fail
        refine ⟨trivial, (CallsIn.inRound l (callsIn_wide.2 SG.out)).mono ?_⟩
        rintro e W' ⟨v', rfl, ho, hb, hoff⟩
        have R := hide (KEY.out v' _ W' ((growT_match MM F bts m1).trans (if_neg hF)) ho hb hoff)
        have cX : W'.cell? ⟨z + 2, 0, none⟩ = some v := Boxed.cell ((hoff.same (z + 2) hzl (fun e => HH.out.2.1.not_row (by decide) HH.out.2.2.1 e.symm)).trans HH.out.2.1)
        have fX : W'.frozen? ⟨z + 2, 0, none⟩ = false := Boxed.frozen ((hoff.same (z + 2) hzl (fun e => HH.out.2.1.not_row (by decide) HH.out.2.2.1 e.symm)).trans HH.out.2.1)
        obtain ⟨va, vl, vc, rfl⟩ : ∃ a l c, v' = .slice a l c := by
          obtain ⟨_, ⟨e, _⟩ | ⟨g, cap, cur, e, _⟩⟩ := ho
          · exact ⟨_, _, _, e⟩
          · exact ⟨_, _, _, e⟩
        clear ho hb hoff SG KEY e0 e1 e2 hc hfz HH
        gi_wp2_with fail
        exact R.out
  case done =>
    rintro D M xs W hD hxs ⟨v, bts, h0, h1, h2, h3, h4, ⟨r0, r1, _, _⟩, h5, h6, h7⟩ hK
    subst hxs
    obtain ⟨va, vc, hv, hvc⟩ : ∃ a c, v = .slice a bts.length c ∧ bts.length ≤ c := by
      obtain ⟨_, ⟨e, e0⟩ | ⟨g, cap, cur, e, _, _, h, _⟩⟩ := h2
      · exact ⟨none, 0, by rw [e, e0], by omega⟩
      · exact ⟨_, cap, e, h⟩
    have hcv : (convert 22 9 (.slice va bts.length vc)).run Tryd.prog W.drew = .ok (.string ⟨bts.toArray⟩) W.drew := by
      rw [← hv]; exact own_conv (P := Tryd.prog) (World.ownsRow.drew h2) Tryd.underlying22 Tryd.underlying5 Tryd.underlying9
    subst hv
    have hc := h1.cell
    have c0 := r0.cell
    have f0 := r0.frozen
    have c1 := r1.cell
    have f1 := r1.frozen
    have HF := hide (And.intro h0 (And.intro r0 (And.intro r1 (And.intro h6 (And.intro h7 hK)))))
    clear h0 h1 h2 h3 h4 r0 r1 h5 h6 h7 hK
    go_wp2_with fail
    go_region
    obtain ⟨h0, r0, r1, h6, h7, hK⟩ := HF.out
    obtain ⟨W7, hW7⟩ : ∃ W7, W7 = ((W.setCell ⟨z, 0, none⟩ (.string ⟨bts.toArray⟩)).setCell ⟨z + 1, 0, none⟩ (.bool ((bts.length : Int) == (size : Int)))).drew := ⟨_, rfl⟩
    have fa : W7.heap[z]? = some (.cells #[.string ⟨bts.toArray⟩] 9) := by
      rw [hW7]; exact ((r0.set (.string ⟨bts.toArray⟩)).other (B' := z + 1) (by omega) _)
    have fb : W7.heap[z + 1]? = some (.cells #[.bool ((bts.length : Int) == (size : Int))] 4) := by
      rw [hW7]; exact ((r1.other (B' := z) (by omega) _).set (.bool ((bts.length : Int) == (size : Int))))
    have hbl2 : Below b w W7 := by
      rw [hW7]; exact ((h7.setCell (p := ⟨z, 0, none⟩) (by show b ≤ z; omega) _).setCell (p := ⟨z + 1, 0, none⟩) (by show b ≤ z + 1; omega) _).drew
    have hK2 : W7.heap[D]? = some (.deferred (some [])) := by
      rw [hW7]; exact ((KeepsOthers.setCell W ⟨z, 0, none⟩ _).trans (KeepsOthers.setCell _ ⟨z + 1, 0, none⟩ _)).same D _ hK rfl
    have HH := hide (And.intro fa (And.intro fb (And.intro hbl2 hK2)))
    rw [← hW7]
    clear fa fb hbl2 hK2 r0 r1 h6 h7 hK hW7 HF
    go_wp2_with fail
    obtain ⟨fa, fb, hbl2, hK2⟩ := HH.out
    refine ⟨by simp, .inl ⟨D, _, rfl, run_takeDeferred hK2, ?_⟩⟩
    have hbp := belowK_b (w := w3) (n₀ := z + 5) (by omega) W7 D _ (.deferred none) hD hK2 rfl rfl
    have hfa := (hbp.block z (by omega)).trans fa
    have hfb := (hbp.block (z + 1) (by omega)).trans fb
    have hbl3 := hbl2.trans (hbp.mono (by omega))
    generalize W7.putObj D (.deferred none) = W8 at *
    have m0 : W8.cell? ⟨z, 0, none⟩ = some (.string ⟨bts.toArray⟩) := by simp [World.cell?, hfa]
    have m1 : W8.cell? ⟨z + 1, 0, none⟩ = some (.bool ((bts.length : Int) == (size : Int))) := by simp [World.cell?, hfb]
    have hU : unpO t size = (⟨bts.toArray⟩, decide (bts.length = size)) := by
      have h9 := unpack_toks (tbN t) size size (rc0, pv (tbN t) 4) []
      show outU size (unpackG (tbN t) size size (rc0, pv (tbN t) 4) []) = _
      rw [h9, show growL (dtoks (tbN t) size size (rc0, pv (tbN t) 4) ([] : List UInt8).length) [] = some bts from h0]; rfl
    refine ⟨.tuple #[.string ⟨bts.toArray⟩, .bool ((bts.length : Int) == (size : Int))], ?_, ?_, hbl3⟩
    · simp [results, Tryd.results46, go_sem, m0, m1]
    · rw [hU]
      show _ = Ending.returned (.tuple #[.string ⟨bts.toArray⟩, .bool (decide (bts.length = size))])
      have e : ((bts.length : Int) == (size : Int)) = decide (bts.length = size) := by
        by_cases h : bts.length = size
        · rw [h]; simp
        · rw [decide_eq_false h, beq_eq_false_iff_ne]; omega
      rw [e]
  case stop =>
    rintro D c M pre W hD hpre ⟨rfl, h1, ⟨r0, r1, _, _⟩, h5, h6, h7⟩ hK
    have hno := growL_stop pre _ [] hpre h1
    have HH := hide (And.intro r0 (And.intro r1 (And.intro h7 hK)))
    clear r0 r1 h1 h5 h6 h7 hK
    gi_wp2_with fail
    obtain ⟨fa, fb, hbl2, hK2⟩ := HH.out
    obtain ⟨W7, hW7⟩ : ∃ W7, W7 = W := ⟨_, rfl⟩
    rw [← hW7] at fa fb hbl2 hK2 ⊢
    refine ⟨by simp, .inl ⟨D, _, rfl, run_takeDeferred hK2, ?_⟩⟩
    have hbp := belowK_b (w := w3) (n₀ := z + 5) (by omega) W7 D _ (.deferred none) hD hK2 rfl rfl
    have hfa := (hbp.block z (by omega)).trans fa
    have hfb := (hbp.block (z + 1) (by omega)).trans fb
    have hbl3 := hbl2.trans (hbp.mono (by omega))
    generalize W7.putObj D (.deferred none) = W8 at *
    have m0 : W8.cell? ⟨z, 0, none⟩ = some (.string ⟨#[]⟩) := Boxed.cell hfa
    have m1 : W8.cell? ⟨z + 1, 0, none⟩ = some (.bool false) := Boxed.cell hfb
    have hU : unpO t size = (⟨#[]⟩, false) := by
      have h9 := unpack_toks (tbN t) size size (rc0, pv (tbN t) 4) []
      show outU size (unpackG (tbN t) size size (rc0, pv (tbN t) 4) []) = _
      rw [h9, show growL (dtoks (tbN t) size size (rc0, pv (tbN t) 4) ([] : List UInt8).length) [] = none from hno]; rfl
    refine ⟨.tuple #[.string ⟨#[]⟩, .bool false], ?_, by rw [hU], hbl3⟩
    simp [results, Tryd.results46, go_sem, m0, m1]
end Go.Proofs.YtdoodkabmeojmaaDoor
/- The program's newCoder, below, layNum (at byte and at int64), putToken (written by mklay.py). -/
namespace Go.Proofs.YtdoodkabmeojmaaDoor
open Go.RowKit
theorem CodK.split {w : World} {base g N : Nat} {Mo : Nat → Prop} {s : RC} (h : CodK w base g N Mo s) : ∃ ob : Option Nat, (∀ k, ob = some k → (Mo k ∨ N ≤ k) ∧ k < w.heap.size) ∧ ∀ w', (∀ k, k < w.heap.size → w'.heap[k]? = w.heap[k]?) → ∀ N', CodK w' base g N' (fun k => ob = some k) s := by
  have h2 := h
  obtain ⟨ov, hr, ho, hd, hm⟩ := h
  refine ⟨ov.ownBlock, fun k hk => ⟨hm k hk, (World.ownsRow.lt ho k hk).2⟩, fun w' hw N' => ?_⟩
  exact CodK.keep (N := N') (Mo := fun k => ov.ownBlock = some k) ⟨ov, hr, ho, hd, fun k hk => .inl hk⟩ hw
theorem CodK.join {w : World} {base g N N' : Nat} {Mo : Nat → Prop} {ob : Option Nat} {s : RC} (h : CodK w base g N' (fun k => ob = some k) s) (hob : ∀ k, ob = some k → Mo k ∨ N ≤ k) (hN : N ≤ N') : CodK w base g N Mo s := by
  obtain ⟨ov, hr, ho, hd, hm⟩ := h
  exact ⟨ov, hr, ho, hd, fun k hk => by rcases hm k hk with h | h; exact hob k h; exact .inr (by omega)⟩
theorem FrK.join {w w' : World} {g N N' : Nat} {Mo : Nat → Prop} {ob : Option Nat} (h : FrK N' g (fun k => ob = some k) w w') (hob : ∀ k, ob = some k → Mo k ∨ N ≤ k) (hN : N ≤ N') : FrK N g Mo w w' :=
  ⟨h.1, fun k h1 h2 h3 => h.2 k (by omega) h2 (fun e => by rcases hob k e with h | h; exact h3 h; omega)⟩
set_option maxRecDepth 100000 in
set_option maxHeartbeats 800000 in
theorem imp_newCoder (w : World) :
    Calls Tryd.prog 12 #[] w fun e w' => ∃ g, e = .returned (.pointer (some ⟨g, 0, none⟩)) ∧ w.heap.size ≤ g ∧ (∀ N Mo, CodK w' w.heap.size g N Mo rc0) ∧ Below w.heap.size w w' := by
  go_enter Tryd.func12, Tryd.ntmps12
  go_wp2_with fail
  refine (imp_parting w).mono ?_
  rintro e w2 ⟨rfl, hb2⟩
  have HBT := hide (Tryd.builtCod 4294967295 fun _ => 1024)
  have B2 := hide hb2
  clear hb2
  go_wp2_with (first | (with_reducible (show wpList _ _ _ ({ dst := _, op := .build _ _, type := _, pos := _, after := _, guard := _ } :: _) _ _); refine wpList_build_1 rfl 64 0 _ rfl (.agg (vL 1601 (parF 4294967295 fun _ => 1024)).toArray) rfl _ HBT.out ?_))
  have R3 := vrow_alloc w2 64 1603 (cdF 4294967295 (fun _ => 1024) 0 (.slice none 0 0))
  have B3 := hide (B2.out.alloc B2.out.size (.cells (vL 1603 (cdF 4294967295 (fun _ => 1024) 0 (.slice none 0 0))).toArray 64))
  have hg2 := B2.out.size
  have C3 := hide (show ∀ N Mo, CodK (w2.alloc (.cells (vL 1603 (cdF 4294967295 (fun _ => 1024) 0 (.slice none 0 0))).toArray 64)) w.heap.size w2.heap.size N Mo rc0 from fun N Mo => ⟨.slice none 0 0, R3, ⟨rfl, .inl ⟨rfl, rfl⟩⟩, by simp [Value.ownBlock], by simp [Value.ownBlock]⟩)
  clear R3 HBT
  go_ret
  exact ⟨_, rfl, hg2, C3.out, B3.out⟩
theorem wraps_u8 (n : Int) (h₀ : 0 ≤ n) (h₁ : n < 2 ^ 8) : IntKind.u8.wrap n = n := by rw [IntKind.wrap_u8]; omega
theorem bit_q8 (n k : Nat) (h : n < 256) : bits .and .u8 ((n : Int) / 2 ^ k) 1 = ((n / 2 ^ k % 2 : Nat) : Int) := by
  have e : (n : Int) / 2 ^ k = ((n / 2 ^ k : Nat) : Int) := by simp
  have hle : n / 2 ^ k ≤ n := Nat.div_le_self _ _
  rw [e]
  generalize n / 2 ^ k = q at *
  have h2 := bits_mask .u8 8 (by decide) wraps_u8 1 (by decide) (q : Int) (by omega) (by omega)
  have e1 : ((2 : Int) ^ 1 - 1) = 1 := rfl
  rw [e1] at h2
  rw [h2]
  simp
set_option maxRecDepth 100000 in
set_option maxHeartbeats 1600000 in
theorem imp_lay8 (b0 g n many base N : Nat) (Mo : Nat → Prop) (s : RC) (w : World) (hn : n < 256) (hm : many ≤ 8) (hb : base ≤ 400) (hok : RcOk s) (hsn : s.n + many ≤ 80000) (hbg : b0 ≤ g) (hcod : CodK w b0 g N Mo s) (hN : N ≤ w.heap.size) :
    Calls Tryd.prog 36 #[.int .u8 (n : Int), .int .i64 (base : Int), .int .i64 (many : Int), .func (.func 34) #[.pointer (some ⟨g, 0, none⟩)] #[]] w fun e w' => e = .returned (.tuple #[]) ∧ CodK w' b0 g N Mo (run s (tree n many base)) ∧ Below b0 w w' ∧ FrK N g Mo w w' := by
  obtain ⟨T, hT⟩ : ∃ T, T = tree n many base := ⟨_, rfl⟩
  rw [← hT]
  have HT := hide hT
  have HC := hide hcod
  have HOK := hide hok
  have hgl : g < w.heap.size := by obtain ⟨_, hr, _⟩ := hcod; exact hr.lt
  clear hT hcod hok
  go_enter Tryd.func36, Tryd.ntmps36
  go_wp2_with fail
  go_loopw [8, 9] (fun nd i wx => ∃ (r node : Nat) (k : List (Nat × Bool)), r ≤ many ∧ node < 2 ^ (many - r + 1) ∧ i = .int .i64 ((r : Int) - 1) ∧ nd = .int .i64 (node : Nat) ∧ k.length + r = many ∧ Hid (k ++ treeG n base r node = T) ∧ Hid (CodK wx b0 g N Mo (run s k)) ∧ Hid (Below b0 w wx) ∧ Hid (FrK N g Mo w wx) ∧ N ≤ wx.heap.size) (fun _ i _ => (intOf i + 1).toNat)
  case atStart => exact ⟨many, 1, [], Nat.le_refl _, by rw [Nat.sub_self]; decide, by go_num, rfl, by simp, HT.out.symm, HC, Below.refl _ _, FrK.refl _ _ _ _, hN⟩
  case round =>
    clear HC hN
    obtain ⟨r, node, k, hr, hnd, rfl, rfl, hkl, hk, hcod, hbl, hfr, hNr⟩ := hrel
    have hnode : node < 2048 := Nat.lt_of_lt_of_le hnd (Nat.le_trans (Nat.pow_le_pow_right (by omega) (show many - r + 1 ≤ 11 by omega)) (by decide))
    by_cases hr0 : 0 < r
    · obtain ⟨q, hq⟩ : ∃ q, q = r - 1 := ⟨_, rfl⟩
      have hnode1 : node < 1024 := Nat.lt_of_lt_of_le hnd (Nat.le_trans (Nat.pow_le_pow_right (by omega) (show many - r + 1 ≤ 10 by omega)) (by decide))
      have es : (r : Int) - 1 = (q : Int) := by omega
      rw [es]
      have hs0 : (0 : Int) ≤ (q : Int) := by omega
      have hs10 : (q : Int) ≤ 9 := by omega
      have hnode' : (node : Int) < 2048 := by omega
      have hbq := bit_q8 n q hn
      have hmin : min q 8 = q := Nat.min_eq_left (by omega)
      obtain ⟨t, ht⟩ : ∃ t, t = n / 2 ^ q % 2 := ⟨_, rfl⟩
      rw [← ht] at hbq
      obtain ⟨bit, hbit⟩ : ∃ b, b = bitAt n q := ⟨_, rfl⟩
      have hbt : ((t : Int) == 1) = bit := by
        rw [hbit, bitAt, ← ht]
        by_cases h1 : t = 1
        · rw [h1]; rfl
        · rw [decide_eq_false h1, beq_eq_false_iff_ne]; omega
      obtain ⟨c, hc⟩ : ∃ c, c = base + node := ⟨_, rfl⟩
      have s1 : (base : Int) + (node : Int) = (c : Int) := by omega
      have hr1 : r - 1 = q := hq.symm
      have HK := hide (show (k ++ [(c, bit)]) ++ treeG n base q (2 * node + bN bit) = T by
        rw [← hk.out, show r = q + 1 by omega, hc, hbit, List.append_assoc]; rfl)
      have HND := hide (show 2 * node + bN bit < 2 ^ (many - q + 1) by
        have := bN_le bit
        rw [show many - q + 1 = (many - r + 1) + 1 by omega, Nat.pow_succ]; omega)
      obtain ⟨ob, hob, hcut⟩ := hcod.out.split
      obtain ⟨z, hz⟩ : ∃ z, z = wr.heap.size := ⟨_, rfl⟩
      have hws := hbl.out.size
      have hal : Below wr.heap.size wr (wr.alloc (.cells #[.int .i64 (c : Int), .bool bit] 74)) := (Below.refl _ wr).alloc (Nat.le_refl _) _
      have SP := hide (imp_putK b0 g c (wr.alloc (.cells #[.int .i64 (c : Int), .bool bit] 74)).heap.size (fun j => ob = some j) bit (run s k) (wr.alloc (.cells #[.int .i64 (c : Int), .bool bit] 74)) (run_ok k s HOK.out) (by have := run_n_le k s; omega) (by omega) hbg (hcut _ hal.block _) (Nat.le_refl _))
      have HA := hide (And.intro hal (And.intro hz hob))
      have HS := hide (And.intro hq (And.intro hr hkl))
      clear ht hbit hc hk hq es hnd hkl hal hz hob hcut
      go_wp2_with fail
      refine SP.out.mono ?_
      obtain ⟨hal, hz, hob⟩ := HA.out
      rintro e w9 ⟨rfl, hc9, hb9, hf9⟩
      have zs : (wr.alloc (.cells #[.int .i64 (c : Int), .bool bit] 74)).heap.size = z + 1 := by simp [hz]
      have q9 : w9.heap[z]? = some (.cells #[.int .i64 (c : Int), .bool bit] 74) := (hf9.2 z (by omega) (by omega) (fun e => by have := (hob z e).2; omega)).trans (by rw [hz]; exact heap_alloc_new wr _)
      have e0 : w9.cell? ⟨z, 0, none⟩ = some (.int .i64 (c : Int)) := by simp [World.cell?, q9]
      have e1 : w9.cell? ⟨z, 1, none⟩ = some (.bool bit) := by simp [World.cell?, q9]
      have C9 := hide (show CodK w9 b0 g N Mo (run s (k ++ [(c, bit)])) by rw [run_snoc]; exact hc9.join (fun j hj => (hob j hj).1) (by omega))
      have F9 := hide (show FrK N g Mo w w9 from hfr.out.trans ((FrK.of_below hal hNr).trans (hf9.join (fun j hj => (hob j hj).1) (by omega))))
      have B9 := hide ((hbl.out.trans (hal.mono (by omega))).trans hb9)
      have hN9 : N ≤ w9.heap.size := by have := hf9.1; omega
      rw [← hz]
      clear HA SP hal hz hob hc9 hb9 hf9 q9 zs hcod hbl hfr
      go_wp2_with fail
      refine (imp_below node bit w9 (by omega)).mono ?_
      rintro e w10 ⟨rfl, rfl⟩
      obtain ⟨nn, hnn⟩ : ∃ nn, nn = 2 * node + bN bit := ⟨_, rfl⟩
      rw [← hnn] at HK HND ⊢
      clear hnn e0 e1
      go_wp2_with fail
      go_roundw
      case rel => exact ⟨q, nn, k ++ [(c, bit)], by have := HS.out; omega, HND.out, by go_num, rfl, by have := HS.out; simp; omega, HK, C9, B9, F9, hN9⟩
      case measure => simp [intOf]
    · have hr1 : r = 0 := by omega
      have hlt : ¬ (0 : Int) ≤ (r : Int) - 1 := by omega
      have e := hk.out
      rw [hr1] at e
      have e2 : k = T := by rw [← e]; simp [treeG]
      have HO := hide (show CodK wr b0 g N Mo (run s T) by rw [← e2]; exact hcod.out)
      clear hcod e e2 hk hr1
      go_wp2_with fail
      go_end0
      exact ⟨rfl, HO.out, hbl.out, hfr.out⟩
set_option maxRecDepth 100000 in
set_option maxHeartbeats 1600000 in
theorem imp_lay64 (b0 g n many base N : Nat) (Mo : Nat → Prop) (s : RC) (w : World) (hn : n < 1048576) (hm : many ≤ 10) (hb : base ≤ 400) (hok : RcOk s) (hsn : s.n + many ≤ 80000) (hbg : b0 ≤ g) (hcod : CodK w b0 g N Mo s) (hN : N ≤ w.heap.size) :
    Calls Tryd.prog 37 #[.int .i64 (n : Int), .int .i64 (base : Int), .int .i64 (many : Int), .func (.func 34) #[.pointer (some ⟨g, 0, none⟩)] #[]] w fun e w' => e = .returned (.tuple #[]) ∧ CodK w' b0 g N Mo (run s (tree n many base)) ∧ Below b0 w w' ∧ FrK N g Mo w w' := by
  obtain ⟨T, hT⟩ : ∃ T, T = tree n many base := ⟨_, rfl⟩
  rw [← hT]
  have HT := hide hT
  have HC := hide hcod
  have HOK := hide hok
  have hgl : g < w.heap.size := by obtain ⟨_, hr, _⟩ := hcod; exact hr.lt
  clear hT hcod hok
  go_enter Tryd.func37, Tryd.ntmps37
  go_wp2_with fail
  go_loopw [8, 9] (fun nd i wx => ∃ (r node : Nat) (k : List (Nat × Bool)), r ≤ many ∧ node < 2 ^ (many - r + 1) ∧ i = .int .i64 ((r : Int) - 1) ∧ nd = .int .i64 (node : Nat) ∧ k.length + r = many ∧ Hid (k ++ treeG n base r node = T) ∧ Hid (CodK wx b0 g N Mo (run s k)) ∧ Hid (Below b0 w wx) ∧ Hid (FrK N g Mo w wx) ∧ N ≤ wx.heap.size) (fun _ i _ => (intOf i + 1).toNat)
  case atStart => exact ⟨many, 1, [], Nat.le_refl _, by rw [Nat.sub_self]; decide, by go_num, rfl, by simp, HT.out.symm, HC, Below.refl _ _, FrK.refl _ _ _ _, hN⟩
  case round =>
    clear HC hN
    obtain ⟨r, node, k, hr, hnd, rfl, rfl, hkl, hk, hcod, hbl, hfr, hNr⟩ := hrel
    have hnode : node < 2048 := Nat.lt_of_lt_of_le hnd (Nat.le_trans (Nat.pow_le_pow_right (by omega) (show many - r + 1 ≤ 11 by omega)) (by decide))
    by_cases hr0 : 0 < r
    · obtain ⟨q, hq⟩ : ∃ q, q = r - 1 := ⟨_, rfl⟩
      have hnode1 : node < 1024 := Nat.lt_of_lt_of_le hnd (Nat.le_trans (Nat.pow_le_pow_right (by omega) (show many - r + 1 ≤ 10 by omega)) (by decide))
      have es : (r : Int) - 1 = (q : Int) := by omega
      rw [es]
      have hs0 : (0 : Int) ≤ (q : Int) := by omega
      have hs10 : (q : Int) ≤ 9 := by omega
      have hnode' : (node : Int) < 2048 := by omega
      have hbq := bit_q n q hn
      obtain ⟨t, ht⟩ : ∃ t, t = n / 2 ^ q % 2 := ⟨_, rfl⟩
      rw [← ht] at hbq
      obtain ⟨bit, hbit⟩ : ∃ b, b = bitAt n q := ⟨_, rfl⟩
      have hbt : ((t : Int) == 1) = bit := by
        rw [hbit, bitAt, ← ht]
        by_cases h1 : t = 1
        · rw [h1]; rfl
        · rw [decide_eq_false h1, beq_eq_false_iff_ne]; omega
      obtain ⟨c, hc⟩ : ∃ c, c = base + node := ⟨_, rfl⟩
      have s1 : (base : Int) + (node : Int) = (c : Int) := by omega
      have hr1 : r - 1 = q := hq.symm
      have HK := hide (show (k ++ [(c, bit)]) ++ treeG n base q (2 * node + bN bit) = T by
        rw [← hk.out, show r = q + 1 by omega, hc, hbit, List.append_assoc]; rfl)
      have HND := hide (show 2 * node + bN bit < 2 ^ (many - q + 1) by
        have := bN_le bit
        rw [show many - q + 1 = (many - r + 1) + 1 by omega, Nat.pow_succ]; omega)
      obtain ⟨ob, hob, hcut⟩ := hcod.out.split
      obtain ⟨z, hz⟩ : ∃ z, z = wr.heap.size := ⟨_, rfl⟩
      have hws := hbl.out.size
      have hal : Below wr.heap.size wr (wr.alloc (.cells #[.int .i64 (c : Int), .bool bit] 74)) := (Below.refl _ wr).alloc (Nat.le_refl _) _
      have SP := hide (imp_putK b0 g c (wr.alloc (.cells #[.int .i64 (c : Int), .bool bit] 74)).heap.size (fun j => ob = some j) bit (run s k) (wr.alloc (.cells #[.int .i64 (c : Int), .bool bit] 74)) (run_ok k s HOK.out) (by have := run_n_le k s; omega) (by omega) hbg (hcut _ hal.block _) (Nat.le_refl _))
      have HA := hide (And.intro hal (And.intro hz hob))
      have HS := hide (And.intro hq (And.intro hr hkl))
      clear ht hbit hc hk hq es hnd hkl hal hz hob hcut
      go_wp2_with fail
      refine SP.out.mono ?_
      obtain ⟨hal, hz, hob⟩ := HA.out
      rintro e w9 ⟨rfl, hc9, hb9, hf9⟩
      have zs : (wr.alloc (.cells #[.int .i64 (c : Int), .bool bit] 74)).heap.size = z + 1 := by simp [hz]
      have q9 : w9.heap[z]? = some (.cells #[.int .i64 (c : Int), .bool bit] 74) := (hf9.2 z (by omega) (by omega) (fun e => by have := (hob z e).2; omega)).trans (by rw [hz]; exact heap_alloc_new wr _)
      have e0 : w9.cell? ⟨z, 0, none⟩ = some (.int .i64 (c : Int)) := by simp [World.cell?, q9]
      have e1 : w9.cell? ⟨z, 1, none⟩ = some (.bool bit) := by simp [World.cell?, q9]
      have C9 := hide (show CodK w9 b0 g N Mo (run s (k ++ [(c, bit)])) by rw [run_snoc]; exact hc9.join (fun j hj => (hob j hj).1) (by omega))
      have F9 := hide (show FrK N g Mo w w9 from hfr.out.trans ((FrK.of_below hal hNr).trans (hf9.join (fun j hj => (hob j hj).1) (by omega))))
      have B9 := hide ((hbl.out.trans (hal.mono (by omega))).trans hb9)
      have hN9 : N ≤ w9.heap.size := by have := hf9.1; omega
      rw [← hz]
      clear HA SP hal hz hob hc9 hb9 hf9 q9 zs hcod hbl hfr
      go_wp2_with fail
      refine (imp_below node bit w9 (by omega)).mono ?_
      rintro e w10 ⟨rfl, rfl⟩
      obtain ⟨nn, hnn⟩ : ∃ nn, nn = 2 * node + bN bit := ⟨_, rfl⟩
      rw [← hnn] at HK HND ⊢
      clear hnn e0 e1
      go_wp2_with fail
      go_roundw
      case rel => exact ⟨q, nn, k ++ [(c, bit)], by have := HS.out; omega, HND.out, by go_num, rfl, by have := HS.out; simp; omega, HK, C9, B9, F9, hN9⟩
      case measure => simp [intOf]
    · have hr1 : r = 0 := by omega
      have hlt : ¬ (0 : Int) ≤ (r : Int) - 1 := by omega
      have e := hk.out
      rw [hr1] at e
      have e2 : k = T := by rw [← e]; simp [treeG]
      have HO := hide (show CodK wr b0 g N Mo (run s T) by rw [← e2]; exact hcod.out)
      clear hcod e e2 hk hr1
      go_wp2_with fail
      go_end0
      exact ⟨rfl, HO.out, hbl.out, hfr.out⟩
end Go.Proofs.YtdoodkabmeojmaaDoor
/- The program's putToken and Pack. -/
namespace Go.Proofs.YtdoodkabmeojmaaDoor
open Go.RowKit
theorem tokBits_byte (t : Tok) (h : t.f = 0) : tokBits t = (0, false) :: tree t.b.toNat 8 16 := if_pos h
theorem tokBits_match (t : Tok) (h : t.f ≠ 0) : tokBits t = (0, true) :: (tree (t.m - 3).toNat 6 300 ++ tree (t.f - 1).toNat 10 400) := if_neg h
set_option maxRecDepth 100000 in
set_option maxHeartbeats 1600000 in
theorem imp_putToken (b0 g N : Nat) (Mo : Nat → Prop) (s : RC) (t : Tok) (w : World) (ht : tokOk t = true) (hok : RcOk s) (hsn : s.n ≤ 70000) (hbg : b0 ≤ g) (hcod : CodK w b0 g N Mo s) (hN : N ≤ w.heap.size) :
    Calls Tryd.prog 14 #[.pointer (some ⟨g, 0, none⟩), .agg #[.int .i64 t.b, .int .i64 t.m, .int .i64 t.f]] w fun e w' => e = .returned (.tuple #[]) ∧ CodK w' b0 g N Mo (run s (tokBits t)) ∧ Below b0 w w' ∧ FrK N g Mo w w' := by
  have HC := hide hcod
  have HOK := hide hok
  have hgl : g < w.heap.size := by obtain ⟨_, hr, _⟩ := hcod; exact hr.lt
  obtain ⟨z, hz⟩ : ∃ z, z = w.heap.size := ⟨_, rfl⟩
  obtain ⟨ob, hob, hcut⟩ := hcod.split
  have hal : Below w.heap.size w (w.alloc (.cells #[.int .i64 t.b, .int .i64 t.m, .int .i64 t.f] 38)) := (Below.refl _ w).alloc (Nat.le_refl _) _
  have C1 := hide (hcut _ hal.block (z + 1))
  have q1 : (w.alloc (.cells #[.int .i64 t.b, .int .i64 t.m, .int .i64 t.f] 38)).heap[z]? = some (.cells #[.int .i64 t.b, .int .i64 t.m, .int .i64 t.f] 38) := by rw [hz]; exact heap_alloc_new w _
  have s1 : (w.alloc (.cells #[.int .i64 t.b, .int .i64 t.m, .int .i64 t.f] 38)).heap.size = z + 1 := by simp [hz]
  have F1 := hide (FrK.of_below (g := g) (Mo := Mo) hal hN)
  have B1 := hide (hal.mono (show b0 ≤ w.heap.size by omega))
  have HOB := hide hob
  have HZ := hide hz
  have hgz : g < z := by omega
  have hNz : N ≤ z := by omega
  have htwo := tokOk_two t ht
  obtain ⟨tb, tm, tf⟩ := t
  simp only at htwo C1 q1 s1 F1 B1
  have HF := hide (show ∀ (W W' : World), FrK (z + 1) g (fun k => ob = some k) W W' → W'.heap[z]? = W.heap[z]? from fun W W' h => h.2 z (by omega) (by omega) (fun e => by have := (HOB.out z e).2; omega))
  have HJ := hide (show ∀ (W W' : World), FrK (z + 1) g (fun k => ob = some k) W W' → FrK N g Mo W W' from fun W W' h => h.join (fun j hj => (HOB.out j hj).1) (by omega))
  clear hob hcut hal hcod hok hz
  by_cases hf0 : tf = 0
  · subst hf0
    obtain ⟨hb1, hb2⟩ : 0 ≤ tb ∧ tb ≤ 255 := by rcases htwo with h | h; exact h.2; exact absurd rfl h.1
    have hm0 : tm = 0 := by
      by_cases h0 : tm = 0
      · exact h0
      · have h := ht
        unfold tokOk at h
        rw [if_neg (fun h => h0 h.1)] at h
        have := of_decide_eq_true h
        have h1 : (1 : Int) ≤ 0 := this.2.2.2.1
        omega
    subst hm0
    obtain ⟨n, rfl⟩ : ∃ n : Nat, tb = (n : Int) := ⟨tb.toNat, by omega⟩
    have wb : IntKind.u8.wrap (n : Int) = (n : Int) := by rw [IntKind.wrap_u8]; omega
    have HT := hide (show tokBits ⟨(n : Int), 0, 0⟩ = (0, false) :: tree n 8 16 from by rw [tokBits_byte _ rfl]; rfl)
    have SI := hide (show ∀ u : World, Calls Tryd.prog 35 #[.agg #[.int .i64 (n : Int), .int .i64 0, .int .i64 0]] u (fun e w' => e = .returned (.bool false) ∧ Below u.heap.size u w') from fun u => by
      have h := imp_isMatch (n : Int) 0 0 u
      rw [show ((0 : Int) != 0) = false from rfl] at h
      exact h)
    have HQ := hide q1
    clear q1 htwo ht
    go_enter Tryd.func14, Tryd.ntmps14
    go_wp2_with fail
    refine (SI.out _).mono ?_
    rw [← HZ.out]
    generalize w.alloc (.cells #[.int .i64 (n : Int), .int .i64 0, .int .i64 0] 38) = W1 at *
    rintro e w2 ⟨rfl, hb2⟩
    have hs2 := hb2.size
    have C2 := C1.out.keep hb2.block
    have q2 := (hb2.block z (by omega)).trans HQ.out
    have SP := hide (imp_putK b0 g 0 (z + 1) (fun k => ob = some k) false s w2 HOK.out (by omega) (by omega) hbg C2 (by omega))
    have F2 := hide (FrK.of_below (g := g) (Mo := Mo) hb2 (show N ≤ W1.heap.size by omega))
    have B2 := hide (B1.out.trans (hb2.mono (show b0 ≤ W1.heap.size by omega)))
    have HQ2 := hide q2
    clear hb2 C2 q2 C1 HQ B1
    go_wp2_with fail
    refine SP.out.mono ?_
    rintro e w3 ⟨rfl, C3, hb3, hf3⟩
    have hs3 := hb3.size
    have q3 := (HF.out _ _ hf3).trans HQ2.out
    have F3 := hide ((F1.out.trans F2.out).trans (HJ.out _ _ hf3))
    have B3 := hide (B2.out.trans hb3)
    have HC3 := hide C3
    have HQ3 := hide q3
    have e0 : w3.cell? ⟨z, 0, none⟩ = some (.int .i64 (n : Int)) := by simp [World.cell?, q3]
    have e1 : w3.cell? ⟨z, 1, none⟩ = some (.int .i64 0) := by simp [World.cell?, q3]
    have e2 : w3.cell? ⟨z, 2, none⟩ = some (.int .i64 0) := by simp [World.cell?, q3]
    clear C3 hb3 hf3 q3 SP B2 F1 F2 HQ2
    go_wp2_with fail
    refine (SI.out _).mono ?_
    rintro e w4 ⟨rfl, hb4⟩
    have hs4 := hb4.size
    have C4 := HC3.out.keep hb4.block
    have q4 := (hb4.block z (by omega)).trans HQ3.out
    have f0 : w4.cell? ⟨z, 0, none⟩ = some (.int .i64 (n : Int)) := by simp [World.cell?, q4]
    have f1 : w4.cell? ⟨z, 1, none⟩ = some (.int .i64 0) := by simp [World.cell?, q4]
    have f2 : w4.cell? ⟨z, 2, none⟩ = some (.int .i64 0) := by simp [World.cell?, q4]
    have F4 := hide (F3.out.trans (FrK.of_below (g := g) (Mo := Mo) hb4 (show N ≤ w3.heap.size by omega)))
    have B4 := hide (B3.out.trans (hb4.mono (show b0 ≤ w3.heap.size by omega)))
    have OK1 := step_ok s 0 false HOK.out
    have ns0 := run_n_le [(0, false)] s
    have ns1 : (step s 0 false).n ≤ s.n + 1 := ns0
    clear ns0
    have HQ4 := hide q4
    have SL := hide (imp_lay8 b0 g n 8 16 (z + 1) (fun k => ob = some k) (step s 0 false) w4 (by omega) (by omega) (by omega) OK1 (by omega) hbg C4 (by omega))
    clear hb4 C4 q4 e0 e1 e2 HC3 HQ3 F3 B3 OK1 ns1 SI
    go_wp2_with fail
    refine SL.out.mono ?_
    rintro e w5 ⟨rfl, C5, hb5, hf5⟩
    have R1 := hide (show CodK w5 b0 g N Mo (run s (tokBits ⟨(n : Int), 0, 0⟩)) by rw [HT.out]; exact C5.join (fun j hj => (HOB.out j hj).1) (by omega))
    have R2 := hide (B4.out.trans hb5)
    have R3 := hide (F4.out.trans (HJ.out _ _ hf5))
    clear C5 hb5 hf5 SL f0 f1 f2
    go_wp2_with fail
    exact bodyPost_ret (v := .tuple #[]) (by simp [results, Tryd.results14]) rfl ⟨rfl, R1.out, R2.out, R3.out⟩
  · obtain ⟨hm1, hm2, hf1, hf2⟩ : 3 ≤ tm ∧ tm ≤ 66 ∧ 1 ≤ tf ∧ tf ≤ 1024 := by rcases htwo with h | h; exact absurd h.1 hf0; exact h.2
    have hb0 : tb = 0 := by
      have h := ht
      unfold tokOk at h
      rw [if_neg (fun h => hf0 h.2)] at h
      exact (of_decide_eq_true h).1
    subst hb0
    obtain ⟨M, hM⟩ : ∃ M : Nat, M = (tm - 3).toNat := ⟨_, rfl⟩
    obtain ⟨Fa, hFa⟩ : ∃ Fa : Nat, Fa = (tf - 1).toNat := ⟨_, rfl⟩
    have HT := hide (show tokBits ⟨0, tm, tf⟩ = ((0, true) :: tree M 6 300) ++ tree Fa 10 400 from by rw [tokBits_match _ hf0, hM, hFa]; rfl)
    have hM2 : (M : Int) = tm - 3 := by omega
    have hF2 : (Fa : Int) = tf - 1 := by omega
    have hMn : M ≤ 63 := by omega
    have hFn : Fa ≤ 1023 := by omega
    clear hM hFa
    have SI := hide (show ∀ u : World, Calls Tryd.prog 35 #[.agg #[.int .i64 0, .int .i64 tm, .int .i64 tf]] u (fun e w' => e = .returned (.bool true) ∧ Below u.heap.size u w') from fun u => by
      have h := imp_isMatch 0 tm tf u
      rw [show ((tm : Int) != 0) = true from by simp; omega] at h
      exact h)
    have HQ := hide q1
    clear q1 htwo ht
    go_enter Tryd.func14, Tryd.ntmps14
    go_wp2_with fail
    refine (SI.out _).mono ?_
    rw [← HZ.out]
    generalize w.alloc (.cells #[.int .i64 0, .int .i64 tm, .int .i64 tf] 38) = W1 at *
    rintro e w2 ⟨rfl, hb2⟩
    have hs2 := hb2.size
    have C2 := C1.out.keep hb2.block
    have q2 := (hb2.block z (by omega)).trans HQ.out
    have SP := hide (imp_putK b0 g 0 (z + 1) (fun k => ob = some k) true s w2 HOK.out (by omega) (by omega) hbg C2 (by omega))
    have F2 := hide (FrK.of_below (g := g) (Mo := Mo) hb2 (show N ≤ W1.heap.size by omega))
    have B2 := hide (B1.out.trans (hb2.mono (show b0 ≤ W1.heap.size by omega)))
    have HQ2 := hide q2
    clear hb2 C2 q2 C1 HQ B1
    go_wp2_with fail
    refine SP.out.mono ?_
    rintro e w3 ⟨rfl, C3, hb3, hf3⟩
    have hs3 := hb3.size
    have q3 := (HF.out _ _ hf3).trans HQ2.out
    have F3 := hide ((F1.out.trans F2.out).trans (HJ.out _ _ hf3))
    have B3 := hide (B2.out.trans hb3)
    have HC3 := hide C3
    have HQ3 := hide q3
    have e0 : w3.cell? ⟨z, 0, none⟩ = some (.int .i64 0) := by simp [World.cell?, q3]
    have e1 : w3.cell? ⟨z, 1, none⟩ = some (.int .i64 tm) := by simp [World.cell?, q3]
    have e2 : w3.cell? ⟨z, 2, none⟩ = some (.int .i64 tf) := by simp [World.cell?, q3]
    clear C3 hb3 hf3 q3 SP B2 F1 F2 HQ2
    go_wp2_with fail
    refine (SI.out _).mono ?_
    rintro e w4 ⟨rfl, hb4⟩
    have hs4 := hb4.size
    have C4 := HC3.out.keep hb4.block
    have q4 := (hb4.block z (by omega)).trans HQ3.out
    have f0 : w4.cell? ⟨z, 0, none⟩ = some (.int .i64 0) := by simp [World.cell?, q4]
    have f1 : w4.cell? ⟨z, 1, none⟩ = some (.int .i64 tm) := by simp [World.cell?, q4]
    have f2 : w4.cell? ⟨z, 2, none⟩ = some (.int .i64 tf) := by simp [World.cell?, q4]
    have F4 := hide (F3.out.trans (FrK.of_below (g := g) (Mo := Mo) hb4 (show N ≤ w3.heap.size by omega)))
    have B4 := hide (B3.out.trans (hb4.mono (show b0 ≤ w3.heap.size by omega)))
    have OK1 := step_ok s 0 true HOK.out
    have ns0 := run_n_le [(0, true)] s
    have ns1 : (step s 0 true).n ≤ s.n + 1 := ns0
    clear ns0
    have HQ4 := hide q4
    have m1 : tm - 3 = ((M : Nat) : Int) := by omega
    have m2 : IntKind.i64.wrap (tm - 3) = ((M : Nat) : Int) := by rw [IntKind.wrap_i64]; omega
    have g1 : tf - 1 = ((Fa : Nat) : Int) := by omega
    have g2 : IntKind.i64.wrap (tf - 1) = ((Fa : Nat) : Int) := by rw [IntKind.wrap_i64]; omega
    have SL := hide (imp_lay64 b0 g M 6 300 (z + 1) (fun k => ob = some k) (step s 0 true) w4 (by omega) (by omega) (by omega) OK1 (by omega) hbg C4 (by omega))
    have HG := hide (And.intro OK1 (And.intro ns1 (And.intro g1 g2)))
    clear hM2 hF2 hb4 C4 q4 e0 e1 e2 HC3 HQ3 F3 B3 OK1 ns1 SI g1 g2
    go_wp2_with fail
    refine SL.out.mono ?_
    rintro e w5 ⟨rfl, C5, hb5, hf5⟩
    have hs5 := hb5.size
    have q5 := (HF.out _ _ hf5).trans HQ4.out
    obtain ⟨OK1, ns1, g1, g2⟩ := HG.out
    have h0 : w5.cell? ⟨z, 0, none⟩ = some (.int .i64 0) := by simp [World.cell?, q5]
    have h1 : w5.cell? ⟨z, 1, none⟩ = some (.int .i64 tm) := by simp [World.cell?, q5]
    have h2 : w5.cell? ⟨z, 2, none⟩ = some (.int .i64 tf) := by simp [World.cell?, q5]
    have F5 := hide (F4.out.trans (HJ.out _ _ hf5))
    have B5 := hide (B4.out.trans hb5)
    have ns2 := run_n_le (tree M 6 300) (step s 0 true)
    have tl : (tree M 6 300).length = 6 := treeG_len _ _ _ _
    have SL2 := hide (imp_lay64 b0 g Fa 10 400 (z + 1) (fun k => ob = some k) (run (step s 0 true) (tree M 6 300)) w5 (by omega) (by omega) (by omega) (run_ok _ _ OK1) (by omega) hbg C5 (by omega))
    clear C5 hb5 hf5 SL f0 f1 f2 m1 m2 q5 OK1 ns1 ns2 tl
    go_wp2_with fail
    refine SL2.out.mono ?_
    rintro e w6 ⟨rfl, C6, hb6, hf6⟩
    have R1 := hide (show CodK w6 b0 g N Mo (run s (tokBits ⟨0, tm, tf⟩)) by rw [HT.out, run_app]; exact C6.join (fun j hj => (HOB.out j hj).1) (by omega))
    have R2 := hide (B5.out.trans hb6)
    have R3 := hide (F5.out.trans (HJ.out _ _ hf6))
    clear C6 hb6 hf6 SL2 h0 h1 h2 g1 g2
    go_wp2_with fail
    go_end0
    exact ⟨rfl, R1.out, R2.out, R3.out⟩
end Go.Proofs.YtdoodkabmeojmaaDoor
/- The program's keys: three bytes are a key of its map. -/
namespace Go.Proofs.YtdoodkabmeojmaaDoor
open Go Go.RowKit
open Go.WideMaps (KeyLaw)
theorem Tryd.laidOutP : laidOutB Tryd.prog = true := by kernel_rfl
theorem Tryd.wideO : (match Tryd.prog.underlying 100 with | some (.array _ _) | some (.struct _) => true | _ => false) = true := by rw [Tryd.underlying100]
set_option maxRecDepth 100000 in
theorem Tryd.lawO : KeyLaw Tryd.prog 100 := deep_law_laid Tryd.laidOutP (m := 2) (by omega) (of_decide_eq_true (by kernel_rfl)) (by kernel_rfl) Tryd.wideO
theorem Tryd.zeroO (w : World) : (zeroValue 107).run Tryd.prog w = .ok (.slice none 0 0) w := by kernel_rfl
theorem Tryd.cellsO : Tryd.prog.cellsOf 100 = 3 := by kernel_rfl
theorem Tryd.cellsU : Tryd.prog.cellsOf 5 = 1 := by kernel_rfl
theorem Tryd.keyTypeO : Tryd.prog.keyType 100 = true := by kernel_rfl
theorem Tryd.typesO : Tryd.prog.types.size + 1 = (187 - 1) + 1 + 1 := by kernel_rfl
theorem Tryd.keyO (f : Nat → UInt8) : ∃ l, keyOf Tryd.prog 100 (kV f) = some l := by
  have e : kV f = .agg #[.int .u8 ((f 0).toNat : Int), .int .u8 ((f 1).toNat : Int), .int .u8 ((f 2).toNat : Int)] := by
    simp [kV, bL, u8V, List.range_succ]
  rw [e]
  have wf : ∀ b : UInt8, (Lit.int .u8 (b.toNat : Int)).wf = true := fun b => by have := b.toNat_lt; have h1 : IntKind.u8.min = 0 := rfl; have h2 : IntKind.u8.max = 255 := rfl; simp [Lit.wf, h1, h2]; omega
  refine ⟨.string (keyBytes [.int .u8 ((f 0).toNat : Int), .int .u8 ((f 1).toNat : Int), .int .u8 ((f 2).toNat : Int)]), ?_⟩
  unfold keyOf
  simp only [Tryd.underlying100]
  rw [if_pos (by simp [Tryd.keyTypeO, Value.formed, Tryd.underlying100, Tryd.cellsO]), Tryd.typesO]
  unfold Program.keyLits
  simp only [Tryd.underlying100, Value.cells]
  rw [if_pos (by rw [Tryd.cellsO]; rfl), show List.range 3 = [0, 1, 2] from rfl, List.mapM_cons, List.mapM_cons, List.mapM_cons, List.mapM_nil]
  simp [Tryd.cellsU, Program.keyLits, Tryd.underlying5, wf]
end Go.Proofs.YtdoodkabmeojmaaDoor
/- The program's past: newPast, cut, alike walked. -/
namespace Go.Proofs.YtdoodkabmeojmaaDoor
open Go Go.RowKit
/-- What a *past lies as: the block p holds the text's bytes (T, N of them, in block tb) and the map's block mb. -/
structure Pst (w : World) (p tb mb N cap : Nat) (T : Nat → UInt8) : Prop where
  c0 : w.cell? ⟨p, 0, none⟩ = some (.slice (some ⟨tb, 0, none⟩) N cap)
  c1 : w.cell? ⟨p, 1, none⟩ = some (.map (some mb))
  row : rowC w tb N T
  cap : N ≤ cap
  lt : p < w.heap.size
theorem Pst.of_blocks {w w' : World} {p tb mb N cap : Nat} {T : Nat → UInt8} (h : Pst w p tb mb N cap T) (hs : w.heap.size ≤ w'.heap.size) (hp : w'.heap[p]? = w.heap[p]?) (ht : w'.heap[tb]? = w.heap[tb]?) : Pst w' p tb mb N cap T :=
  ⟨(World.cell?_of_block (w := w) (a := ⟨p, 0, none⟩) hp).trans h.c0, (World.cell?_of_block (w := w) (a := ⟨p, 1, none⟩) hp).trans h.c1, h.row.of_block (Nat.lt_of_lt_of_le h.row.1 hs) ht, h.cap, Nat.lt_of_lt_of_le h.lt hs⟩
theorem Pst.below {w w' : World} {p tb mb N cap : Nat} {T : Nat → UInt8} (h : Pst w p tb mb N cap T) (hb : Below w.heap.size w w') : Pst w' p tb mb N cap T :=
  h.of_blocks hb.size (hb.block p h.lt) (hb.block tb h.row.1)
theorem Pst.alloc {w : World} {p tb mb N cap : Nat} {T : Nat → UInt8} (h : Pst w p tb mb N cap T) (o : Obj) : Pst (w.alloc o) p tb mb N cap T := h.below ((Below.refl _ _).alloc (Nat.le_refl _) _)
theorem Pst.drew {w : World} {p tb mb N cap : Nat} {T : Nat → UInt8} (h : Pst w p tb mb N cap T) : Pst w.drew p tb mb N cap T := ⟨h.c0, h.c1, h.row.drew, h.cap, h.lt⟩
set_option maxRecDepth 100000 in
set_option maxHeartbeats 800000 in
theorem imp_newPast (t : ByteArray) (w : World) :
    Calls Tryd.prog 30 #[.string t] w fun e w' => ∃ cap, e = .returned (.pointer (some ⟨w.heap.size + 2, 0, none⟩)) ∧ Pst w' (w.heap.size + 2) w.heap.size (w.heap.size + 1) t.size cap (bF t) ∧ w'.heap[w.heap.size + 1]? = some (.map #[] 0) ∧ w'.heap.size = w.heap.size + 3 ∧ Below w.heap.size w w' := by
  have hcv := fun (w : World) => run_bytes_of_string (P := Tryd.prog) w 9 22 5 t Tryd.underlying9 Tryd.underlying22 Tryd.underlying5
  have hmm := @run_makeMap Tryd.prog
  have hcap := grownCap_ge w t.size 0 5
  have hrow0 := hasRow.of_text w w.heap.size 5 (grownCap w t.size 0 5) t hcap (Nat.le_refl _)
  have hbl0 := hide ((Below.refl w.heap.size w).alloc (Nat.le_refl _) (.cells (bytesRow t (grownCap w t.size 0 5)) 5 ((bytesRow t (grownCap w t.size 0 5)).size, (bytesRow t (grownCap w t.size 0 5)).size + 1)))
  have HR0 := hide (rowC.of_text hrow0 (bF_at t t.size rfl))
  have HC := hide hcap
  clear hrow0 hcap
  go_enter Tryd.func30, Tryd.ntmps30
  go_wp2_with fail
  go_ret
  generalize hW : (w.alloc (.cells (bytesRow t (grownCap w t.size 0 5)) 5 ((bytesRow t (grownCap w t.size 0 5)).size, (bytesRow t (grownCap w t.size 0 5)).size + 1))) = W at *
  have hWs : W.heap.size = w.heap.size + 1 := by rw [← hW]; simp
  refine ⟨_, rfl, ⟨?_, ?_, ?_, HC.out, by simp [hWs]⟩, ?_, by simp [hWs], ((hbl0.out.alloc hbl0.out.size _).alloc (by simp; have := hbl0.out.size; omega) _).drew⟩
  · have e : w.heap.size + 2 = (W.alloc (.map #[] 0)).heap.size := by simp [hWs]
    rw [e, World.cell?_drew]; simp
  · have e : w.heap.size + 2 = (W.alloc (.map #[] 0)).heap.size := by simp [hWs]
    rw [e, World.cell?_drew]; simp
  · exact ((HR0.out.alloc _).alloc _).drew
  · show ((W.alloc (.map #[] 0)).alloc _).heap[w.heap.size + 1]? = _
    rw [Below.heap_alloc _ _ _ (by simp [hWs])]
    rw [← hWs]; exact heap_alloc_new W _
set_option maxRecDepth 100000 in
set_option maxHeartbeats 800000 in
theorem imp_cut (p tb mb N cap fr many : Nat) (T : Nat → UInt8) (w : World) (h : Pst w p tb mb N cap T) (hN : N ≤ 4000) (hm1 : 1 ≤ many) (hm : fr + many ≤ N) :
    Calls Tryd.prog 52 #[.pointer (some ⟨p, 0, none⟩), .int .i64 (fr : Int), .int .i64 (many : Int)] w fun e w' => e = .returned (.slice (some ⟨tb, fr, none⟩) many many) ∧ w' = w := by
  have c0 := h.c0
  have hcap := h.cap
  obtain ⟨q, hq⟩ : ∃ q, q = fr + many := ⟨_, rfl⟩
  have s1 : (fr : Int) + (many : Int) = (q : Int) := by omega
  have s1w : IntKind.i64.wrap ((fr : Int) + (many : Int)) = (q : Int) := by simp only [IntKind.wrap_i64]; omega
  have h1 : (fr : Int) ≤ (q : Int) := by omega
  have h2 : (q : Int) ≤ (cap : Int) := by omega
  have h3 : q - fr = many := by omega
  have hq4 : (q : Int) ≤ 4000 := by omega
  have hm0 : many ≠ 0 := by omega
  clear h hm hq
  go_enter Tryd.func52, Tryd.ntmps52
  go_wp2_with fail
  go_ret
  exact ⟨rfl, rfl⟩
/-- How many bytes are alike, m at most. -/
def alikeG (A B : Nat → UInt8) : Nat → Nat → Nat
  | 0, n => n
  | k + 1, n => if B n = A n then alikeG A B k (n + 1) else n
set_option maxRecDepth 100000 in
set_option maxHeartbeats 800000 in
theorem imp_alike (tb a b m N : Nat) (T : Nat → UInt8) (w : World) (h : rowC w tb N T) (ha : a + m ≤ N) (hb : b + m ≤ N) (hN : N ≤ 4000) :
    Calls Tryd.prog 54 #[.slice (some ⟨tb, a, none⟩) m m, .slice (some ⟨tb, b, none⟩) m m] w fun e w' => e = .returned (.int .i64 (alikeG (fun j => T (a + j)) (fun j => T (b + j)) m 0 : Nat)) ∧ w' = w := by
  go_enter Tryd.func54, Tryd.ntmps54
  go_wp2_with fail
  go_loopw [9] (fun i wx => ∃ k : Nat, k ≤ m ∧ i = .int .i64 (k : Int) ∧ Hid (alikeG (fun j => T (a + j)) (fun j => T (b + j)) (m - k) k = alikeG (fun j => T (a + j)) (fun j => T (b + j)) m 0) ∧ wx = w) (fun i _ => m - (intOf i).toNat)
  case atStart => exact ⟨0, by omega, rfl, rfl, rfl⟩
  case round =>
    obtain ⟨k, hk, rfl, hl, rfl⟩ := hrel
    by_cases hlt : k < m
    · have hlt' : (k : Int) < (m : Int) := by omega
      have c1 := (h.2 (a + k) (by omega)).1
      have c2 := (h.2 (b + k) (by omega)).1
      have hm4 : (m : Int) ≤ 4000 := by omega
      by_cases he : T (b + k) = T (a + k)
      · have hd : (((T (b + k)).toNat : Int) != ((T (a + k)).toNat : Int)) = false := by rw [he]; simp
        have HL := hide (show alikeG (fun j => T (a + j)) (fun j => T (b + j)) (m - (k + 1)) (k + 1) = alikeG (fun j => T (a + j)) (fun j => T (b + j)) m 0 by
          rw [← hl.out, show m - k = (m - (k + 1)) + 1 by omega]
          show _ = if T (b + k) = T (a + k) then _ else _
          rw [if_pos he])
        clear he hl
        go_wp2_with fail
        go_roundw
        case rel => exact ⟨k + 1, by omega, by go_num, HL, trivial⟩
        case measure => simp [intOf]; omega
      · have hd : (((T (b + k)).toNat : Int) != ((T (a + k)).toNat : Int)) = true := by
          simp only [bne_iff_ne, ne_eq, Int.natCast_inj]
          exact fun e => he (UInt8.toNat_inj.1 e)
        have HL := hide (show alikeG (fun j => T (a + j)) (fun j => T (b + j)) m 0 = k by
          rw [← hl.out, show m - k = (m - (k + 1)) + 1 by omega]
          show (if T (b + k) = T (a + k) then _ else _) = _
          rw [if_neg he])
        clear he hl
        go_wp2_with fail
        go_ret
        exact ⟨by rw [HL.out]; rfl, rfl⟩
    · have hlt' : ¬ (k : Int) < (m : Int) := by omega
      have hm4 : (m : Int) ≤ 4000 := by omega
      have HL := hide (show alikeG (fun j => T (a + j)) (fun j => T (b + j)) m 0 = m by
        rw [← hl.out, show k = m by omega, Nat.sub_self]
        rfl)
      clear hl
      go_wp2_with fail
      go_ret
      exact ⟨by rw [HL.out]; rfl, rfl⟩
end Go.Proofs.YtdoodkabmeojmaaDoor
/- The program's past: openingAt walked. -/
namespace Go.Proofs.YtdoodkabmeojmaaDoor
open Go Go.RowKit
theorem Tryd.size3 : (Tryd.prog.info? 100).map (·.size) = some 3 := by kernel_rfl
theorem ret_BT {P : Program} {fn : Func} {p u : Tmp} {ty : TypeId} (h : fn.results = #[.cell p ty, .tmp u]) (tmps : Array Value) (w : World) (g n : Nat) (t : TypeId) (k : Nat → UInt8) (d : TypeDesc)
    (hp : tmps.getD p undef = .pointer (some ⟨g, 0, none⟩)) (hrow : w.rowIs g t n (u8V k)) (hu : P.underlying ty = some d) (hd : d.isRow = true) (hi : (P.info? ty).map (·.size) = some n) :
    (results fn tmps).run P w = .ok (.tuple #[.agg (bL n k).toArray, tmps.getD u undef]) w := by
  rw [results_cell_tmp h, hp]
  simp [asAddr, run_loadVar_row w g t ty _ (0, 0) d (row_heap hrow) hu (by cases d <;> simp_all) (by rw [bL_size]; exact hi), Result.andThen]
/-- The opening at a place: what lies there, as far as the text goes. -/
def opF (T : Nat → UInt8) (N here j : Nat) : UInt8 := if here + j < N then T (here + j) else 0
set_option maxRecDepth 100000 in
set_option maxHeartbeats 800000 in
theorem imp_openingAt (p tb mb N cap here : Nat) (T : Nat → UInt8) (w : World) (h : Pst w p tb mb N cap T) (hN : N ≤ 4000) (hh : here < N) (ok : Bool) (hok : ok = decide (here + 3 ≤ N)) :
    Calls Tryd.prog 51 #[.pointer (some ⟨p, 0, none⟩), .int .i64 (here : Int)] w fun e w' => e = .returned (.tuple #[.agg (bL 3 (opF T N here)).toArray, .bool ok]) ∧ Below w.heap.size w w' := by
  obtain ⟨m, hm⟩ : ∃ m, m = Nat.min (N - here) 3 := ⟨_, rfl⟩
  have hm3 : m ≤ 3 := by rw [hm]; exact Nat.min_le_right _ _
  have hmN : m ≤ N - here := by rw [hm]; exact Nat.min_le_left _ _
  have hmc : m = 3 ∨ m = N - here := by rw [hm]; show (if N - here ≤ 3 then N - here else 3) = 3 ∨ (if N - here ≤ 3 then N - here else 3) = N - here; split <;> omega
  have hmk : ((m : Int) == 3) = ok := by
    rw [hok]
    by_cases e : here + 3 ≤ N
    · rw [decide_eq_true e]
      have : m = 3 := by omega
      rw [this]; rfl
    · rw [decide_eq_false e, beq_eq_false_iff_ne]
      omega
  have h0 : w.heap.size < w.heap.size + 1 := Nat.lt_succ_self _
  obtain ⟨W, hW⟩ : ∃ W, W = (w.alloc (.cells #[.int .u8 0, .int .u8 0, .int .u8 0] 100)).alloc (.cells #[.int .u8 0, .int .u8 0, .int .u8 0] 100) := ⟨_, rfl⟩
  have r4 : W.rowIs w.heap.size 100 3 (u8V fun _ => 0) := by rw [hW]; exact (zeros8_row 3 w _ _ rfl).alloc _
  have r6 : W.rowIs (w.heap.size + 1) 100 3 (u8V fun _ => 0) := by
    have := zeros8_row 3 (w.alloc (.cells #[.int .u8 0, .int .u8 0, .int .u8 0] 100)) #[.int .u8 0, .int .u8 0, .int .u8 0] 100 rfl
    rw [hW]; simpa using this
  have HP := h
  have hP : Pst W p tb mb N cap T := by rw [hW]; exact (h.alloc _).alloc _
  have hB : Below w.heap.size w W := by rw [hW]; exact ((Below.refl _ w).alloc (Nat.le_refl _) _).alloc (by simp) _
  have hcap := h.cap
  have hhc : (here : Int) ≤ (N : Int) := by omega
  have htb : tb < w.heap.size := h.row.1
  have hpl : p < w.heap.size := h.lt
  clear h hok HP
  go_enter Tryd.func51, Tryd.ntmps51
  go_wp2_with fail
  rw [← hW]
  clear hW
  have c0 : W.drew.cell? ⟨p, 0, none⟩ = some (.slice (some ⟨tb, 0, none⟩) N cap) := hP.c0
  have hne : here < cap := by omega
  have hmin := hide (show m = Nat.min (N - here) 3 from hm)
  have hrg : W.drew.rangeAt tb here (bL m (fun j => T (here + j))) := by
    intro j v hv
    have hj : j < m := by
      rcases Nat.lt_or_ge j m with h | h
      · exact h
      · rw [List.getElem?_eq_none (by rw [bL_len]; exact h)] at hv; cases hv
    have e : (bL m (fun j => T (here + j)))[j]? = some (u8V (fun j => T (here + j)) j) := by simp [bL, hj]
    rw [e] at hv
    rw [← Option.some.inj hv]
    exact (hP.row.drew.2 (here + j) (by omega)).1
  have hth := row_there (w := W.drew) (o := 0) (n := m) r6 (by omega)
  have hnc : cap - here ≠ 0 := by omega
  have c0' : (W.drew.setCells (w.heap.size + 1) 0 (bL m (fun j => T (here + j)))).cell? ⟨p, 0, none⟩ = some (.slice (some ⟨tb, 0, none⟩) N cap) :=
    (World.cell?_of_block (w := W.drew) (a := ⟨p, 0, none⟩) (setCells_far (w.heap.size + 1) _ 0 W.drew p (by omega))).trans c0
  clear hm
  refine wp_region_held_drew (S := fun w' => w'.cell? ⟨p, 0, none⟩ = some (.slice (some ⟨tb, 0, none⟩) N cap)) (by kernel_rfl) c0 (fun hHeld => ?_)
  refine takeD (i := 0) (v := .slice (some ⟨w.heap.size + 1, 0, none⟩) 3 3) (some 8) rfl rfl (by kernel_rfl) (by kernel_rfl) (by kernel_rfl) (fun _ _ _ h => h) (Or.inl ⟨by rfl, fun w hSw => by go_simp⟩) hHeld ?_
  simp only [Act.put, List.setIfInBounds_toArray, List.set_cons_zero, List.set_cons_succ]
  refine takeD (i := 1) (v := .pointer (some ⟨p, 0, none⟩)) (some 9) rfl rfl (by kernel_rfl) (by kernel_rfl) (by kernel_rfl) (fun _ _ _ h => h) (Or.inl ⟨by rfl, fun w hSw => by go_simp⟩) hHeld ?_
  simp only [Act.put, List.setIfInBounds_toArray, List.set_cons_zero, List.set_cons_succ]
  refine takeD (i := 2) (v := .pointer (some ⟨p, 0, none⟩)) (some 10) rfl rfl (by kernel_rfl) (by kernel_rfl) (by kernel_rfl) (fun _ _ _ h => h) (Or.inl ⟨by rfl, fun w hSw => by go_simp⟩) hHeld ?_
  simp only [Act.put, List.setIfInBounds_toArray, List.set_cons_zero, List.set_cons_succ]
  refine takeD (i := 3) (v := .pointer (some ⟨p, 0, none⟩)) (some 11) rfl rfl (by kernel_rfl) (by kernel_rfl) (by kernel_rfl) (fun _ _ _ h => h) (Or.inl ⟨by rfl, fun w hSw => by go_simp⟩) hHeld ?_
  simp only [Act.put, List.setIfInBounds_toArray, List.set_cons_zero, List.set_cons_succ]
  refine takeD (i := 4) (v := .slice (some ⟨tb, 0, none⟩) N cap) (some 12) rfl rfl (by kernel_rfl) (by kernel_rfl) (by kernel_rfl) (fun _ _ _ h => h) (Or.inl ⟨by rfl, fun w hSw => by go_simp⟩) hHeld ?_
  simp only [Act.put, List.setIfInBounds_toArray, List.set_cons_zero, List.set_cons_succ]
  refine takeD (i := 5) (v := .int .i64 (here : Int)) (some 13) rfl rfl (by kernel_rfl) (by kernel_rfl) (by kernel_rfl) (fun _ _ _ h => h) (Or.inl ⟨by rfl, fun w hSw => by go_simp⟩) hHeld ?_
  simp only [Act.put, List.setIfInBounds_toArray, List.set_cons_zero, List.set_cons_succ]
  refine takeD (i := 6) (v := .slice (some ⟨tb, here, none⟩) (N - here) (cap - here)) (some 14) rfl rfl (by kernel_rfl) (by kernel_rfl) (by kernel_rfl) (fun _ _ _ h => h) (Or.inl ⟨by rfl, fun w hSw => by go_simp; omega⟩) hHeld ?_
  simp only [Act.put, List.setIfInBounds_toArray, List.set_cons_zero, List.set_cons_succ]
  refine wpAnyH_ready (rs := [7]) (by kernel_rfl) (by simp) ?_
  refine AllReadyH.cons rfl (fun KK hK => ?_) AllReadyH.nil
  refine step_copy_BD (some 15) rfl rfl (.tmp 8) (.tmp 14) 22 22 rfl 5 Tryd.underlying22 (by kernel_rfl) (w.heap.size + 1) 0 3 3 tb here (N - here) (cap - here) rfl rfl m (fun j => T (here + j)) hmin.out hrg hth ?_
  simp only [Act.put, List.setIfInBounds_toArray, List.set_cons_zero, List.set_cons_succ]
  refine hK.out _ _ c0' (fun hHeld => ?_)
  clear hK KK
  refine takeD (i := 8) (v := goInt m) (some 7) rfl rfl (by kernel_rfl) (by kernel_rfl) (by kernel_rfl) (fun _ _ _ h => h) (Or.inl ⟨by rfl, fun w hSw => by go_simp⟩) hHeld ?_
  simp only [Act.put, List.setIfInBounds_toArray, List.set_cons_zero, List.set_cons_succ]
  refine wpAnyH_done (by kernel_rfl) ?_ _
  have s4 := row_setCells_other (b := w.heap.size + 1) (o := 0) (vs := bL m (fun j => T (here + j))) r4.drew (by omega)
  have s6 := (row_setCells (o := 0) (n := m) (k := fun j => T (here + j)) r6.drew (by omega)).congr (g := u8V (opF T N here)) (fun i hi => by
    show Value.int .u8 _ = Value.int .u8 _
    congr 3
    show (if 0 ≤ i ∧ i < 0 + m then T (here + (i - 0)) else 0) = if here + i < N then T (here + i) else 0
    by_cases e : i < m
    · rw [if_pos (show 0 ≤ i ∧ i < 0 + m by omega), if_pos (show here + i < N by omega), Nat.sub_zero]
    · rw [if_neg (show ¬ (0 ≤ i ∧ i < 0 + m) by omega), if_neg (show ¬ here + i < N by omega)])
  have sb := below_setCells' (b := w.heap.size + 1) (o := 0) (vs := bL m (fun j => T (here + j))) hB.drew (by omega)
  generalize W.drew.setCells (w.heap.size + 1) 0 (bL m (fun j => T (here + j))) = W5 at *
  clear r4 r6 hrg hth hmin c0 c0' hP hB
  have hth := row_there (o := 0) (n := 3) s4 (by omega)
  have hfin := row_setCells0 (k := opF T N here) s4
  obtain ⟨K, hK⟩ : ∃ K, K = opF T N here := ⟨_, rfl⟩
  rw [← hK] at s6 hfin
  have HK := hide hK
  clear hK hHeld
  go_wp2_with (first | (refine wpList_load_B rfl 100 (.tmp 6) rfl (w.heap.size + 1) 0 rfl _ _ 3 _ K _ s6 (by omega) (fun j _ => by rw [Nat.zero_add]) Tryd.underlying100 rfl Tryd.size3 ?_) | (refine wpList_store_B rfl 100 (.tmp 4) (.tmp 16) rfl w.heap.size 0 3 K rfl rfl hth Tryd.size3 ?_))
  exact bodyPost_ret (ret_BT Tryd.results51 _ _ w.heap.size 3 _ _ _ rfl hfin Tryd.underlying100 rfl Tryd.size3) rfl ⟨by rw [← HK.out]; rfl, below_setCells' sb (Nat.le_refl _)⟩
end Go.Proofs.YtdoodkabmeojmaaDoor
/- The walk over the program's goBy (written by mkgoby.py). -/
namespace Go.Proofs.YtdoodkabmeojmaaDoor
open Go Go.RowKit Go.ChangeMaps
theorem Tryd.infoI : (Tryd.prog.info? 3).map (fun i => (i.zero, i.size, i.bytes)) = some (some (.int .i64 0), 1, 8) := by kernel_rfl
theorem kV_eq (f : Nat → UInt8) : kV f = .agg #[.int .u8 ((f 0).toNat : Int), .int .u8 ((f 1).toNat : Int), .int .u8 ((f 2).toNat : Int)] := by
  simp [kV, bL, u8V, List.range_succ]
/-- Whether a value is this byte. -/
def isU8 (x : UInt8) : Value → Bool
  | .int .u8 a => a == (x.toNat : Int)
  | _ => false
theorem isU8_iff (x : UInt8) (v : Value) : isU8 x v = true ↔ v = .int .u8 (x.toNat : Int) := by
  constructor
  · intro h
    unfold isU8 at h
    split at h
    · rw [eq_of_beq h]
    · cases h
  · rintro rfl
    simp [isU8]
/-- Whether a value is the key of these bytes. -/
def keq (f : Nat → UInt8) : Value → Bool
  | .agg xs => xs.size == 3 && (isU8 (f 0) (xs.getD 0 undef) && (isU8 (f 1) (xs.getD 1 undef) && isU8 (f 2) (xs.getD 2 undef)))
  | _ => false
theorem keq_iff (f : Nat → UInt8) (v : Value) : keq f v = true ↔ kV f = v := by
  rw [kV_eq]
  constructor
  · intro h
    unfold keq at h
    split at h
    · rename_i xs
      simp only [Bool.and_eq_true, beq_iff_eq, isU8_iff] at h
      obtain ⟨hs, h0, h1, h2⟩ := h
      congr 1
      apply Array.ext
      · simp [hs]
      · intro i hi1 hi2
        have hi : i < 3 := by simpa using hi1
        match i, hi with
        | 0, _ => rw [Array.getD_eq_getD_getElem?, Array.getElem?_eq_getElem hi2] at h0; exact h0.symm
        | 1, _ => rw [Array.getD_eq_getD_getElem?, Array.getElem?_eq_getElem hi2] at h1; exact h1.symm
        | 2, _ => rw [Array.getD_eq_getD_getElem?, Array.getElem?_eq_getElem hi2] at h2; exact h2.symm
    · cases h
  · rintro rfl
    simp [keq, isU8]
/-- The places ahead of h that begin as the key v says. -/
def plc (T : Nat → UInt8) (N h : Nat) (v : Value) : List Nat := (List.range h).filter fun p => decide (p + 3 ≤ N) && keq (opF T N p) v
theorem plcP {T : Nat → UInt8} {N p : Nat} {v : Value} : (decide (p + 3 ≤ N) && keq (opF T N p) v) = true ↔ p + 3 ≤ N ∧ kV (opF T N p) = v := by
  rw [Bool.and_eq_true, decide_eq_true_eq, keq_iff]
theorem plc_zero (T : Nat → UInt8) (N : Nat) : plc T N 0 = fun _ => [] := by funext v; rfl
open Classical in
theorem plc_yes (T : Nat → UInt8) (N h : Nat) (hn : h + 3 ≤ N) : plc T N (h + 1) = fun u => if u = kV (opF T N h) then plc T N h u ++ [h] else plc T N h u := by
  funext u
  unfold plc
  rw [List.range_succ, List.filter_append]
  by_cases e : u = kV (opF T N h)
  · rw [if_pos e, List.filter_cons, if_pos (plcP.2 ⟨hn, e.symm⟩), List.filter_nil]
  · rw [if_neg e, List.filter_cons, if_neg (fun h => e (plcP.1 h).2.symm), List.filter_nil, List.append_nil]
theorem plc_no (T : Nat → UInt8) (N h : Nat) (hn : ¬ h + 3 ≤ N) : plc T N (h + 1) = plc T N h := by
  funext u
  unfold plc
  rw [List.range_succ, List.filter_append, List.filter_cons, if_neg (fun h => hn (plcP.1 h).1), List.filter_nil, List.append_nil]
theorem plc_len (T : Nat → UInt8) (N h : Nat) (v : Value) : (plc T N h v).length ≤ h := by
  unfold plc
  have := List.length_filter_le (fun p => decide (p + 3 ≤ N) && keq (opF T N p) v) (List.range h)
  rwa [List.length_range] at this
/-- What goBy turns: the map, its rows, new blocks. -/
structure Turn (w w' : World) (base mb : Nat) (No : Nat → Prop) : Prop where
  os : w'.os = w.os
  tape : w'.tape = w.tape
  output : w'.output = w.output
  size : w.heap.size ≤ w'.heap.size
  block : ∀ g, g < w.heap.size → g ≠ mb → (g < base ∨ No g) → w'.heap[g]? = w.heap[g]?
theorem Turn.refl (w : World) (base mb : Nat) (No : Nat → Prop) : Turn w w base mb No := ⟨rfl, rfl, rfl, Nat.le_refl _, fun _ _ _ _ => rfl⟩
theorem Turn.trans {a b c : World} {base mb : Nat} {No : Nat → Prop} (h : Turn a b base mb No) (k : Turn b c base mb No) : Turn a c base mb No :=
  ⟨k.os.trans h.os, k.tape.trans h.tape, k.output.trans h.output, Nat.le_trans h.size k.size, fun g h1 h2 h3 => (k.block g (Nat.lt_of_lt_of_le h1 h.size) h2 h3).trans (h.block g h1 h2 h3)⟩
theorem Turn.of_below {w w' : World} {base mb : Nat} {No : Nat → Prop} (h : Below w.heap.size w w') : Turn w w' base mb No := ⟨h.os, h.tape, h.output, h.size, fun g hg _ _ => h.block g hg⟩
theorem Turn.below {w w' : World} {base mb B : Nat} {No : Nat → Prop} (h : Turn w w' base mb No) (hb : B ≤ mb) (hm : mb < base) (hs : base ≤ w.heap.size) : Below B w w' :=
  ⟨h.os, h.tape, h.output, h.size, fun k hk => h.block k (by omega) (by omega) (.inl (by omega))⟩
theorem Pst.turn {w w' : World} {p tb mb N cap base : Nat} {T : Nat → UInt8} {No : Nat → Prop} (h : Pst w p tb mb N cap T) (ht : Turn w w' base mb No) (hp : p < base) (htb : tb < base) (h1 : p ≠ mb) (h2 : tb ≠ mb) : Pst w' p tb mb N cap T :=
  h.of_blocks ht.size (ht.block p h.lt h1 (.inl hp)) (ht.block tb h.row.1 h2 (.inl htb))
theorem PlM.below {w w' : World} {base mb e : Nat} {L : Value → List Nat} {No : Nat → Prop} {es : Array MapEntry} {clock : Nat} (h : PlM w base mb e L No es clock) (hb : Below w.heap.size w w') : PlM w' base mb e L No es clock :=
  h.kept (hb.block mb h.lt) (fun g _ h2 _ => hb.block g h2)
section
variable {P : Program} {ops : Array Oper} {Q : Exit → Act → World → Prop}
theorem step_mapEntry {o : Oper} {a : Act} {w : World} {K : Act → World → Prop} {E : Prop} (d : Option Nat) (hd : o.dst = d) (hgd : o.guard = none) (ty : TypeId) (m k : Operand) (ho : o.op = .mapEntry ty m k)
    (mv kv v : Value) (w' : World) (hm : a.eval m = mv) (hk : a.eval k = kv) (hr : (Instr.mapEntry ty mv kv).run P w = .ok v w') (h : K (a.put d v) w') : if Region.wanted o (yielded ops a.tmps) = true then Oper.wp P o a w K Q else E := by
  subst hd
  rw [if_pos (by simp [Region.wanted, hgd])]
  unfold Oper.wp
  simp [execOp, ho, hm, hk, hr, Result.andThen]
  exact h
theorem step_entryStore {o : Oper} {a : Act} {w : World} {K : Act → World → Prop} {E : Prop} (d : Option Nat) (hd : o.dst = d) (hgd : o.guard = none) (ty : TypeId) (m s x : Operand) (ho : o.op = .entryStore ty m s x)
    (mv sv xv : Value) (w' : World) (hm : a.eval m = mv) (hs : a.eval s = sv) (hx : a.eval x = xv) (hr : (Instr.entryStore ty mv sv xv).run P w = .ok () w') (h : K (a.put d undef) w') : if Region.wanted o (yielded ops a.tmps) = true then Oper.wp P o a w K Q else E := by
  subst hd
  rw [if_pos (by simp [Region.wanted, hgd])]
  unfold Oper.wp
  simp [execOp, ho, hm, hs, hx, hr, Result.andThen]
  exact h
theorem step_append_D2 (w : World) {o : Oper} {a : Act} {K : Act → World → Prop} {E : Prop} (dd : Option Nat) (hdd : o.dst = dd) (hgd : o.guard = none) (s x : Operand) (t : TypeId)
    (ho : o.op = .call { callee := .builtin .append, args := #[s, x], argTypes := #[t, t] })
    (base : Nat) (e : TypeId) (i : TypeInfo) (z : Value) (size bytes : Nat) (ht : P.underlying t = some (.slice e)) (hi : P.info? e = some i) (hz : i.zero = some z)
    (hsize : i.size = size) (hby : i.bytes = bytes) (hzs : z.cells.size = size) (hsz : 0 < size)
    (v : Value) (n : Nat) (xs : List Value) (hs : a.eval s = v) (hown : w.ownsRow base e size v n xs)
    (ad : Addr) (m c : Nat) (news : List Value) (hx : a.eval x = .slice (some ad) m c) (hl : news.length = m * size) (hnews : ∀ j u, news[j]? = some u → w.cell? (ad.add j) = some u) (h1 : ∀ u ∈ news, u.oneCell' = true)
    (hm : 0 < m) (h63 : n + m ≤ maxLen) (hbytes : (n + m) * bytes ≤ 140737488355328) (hbase : base ≤ w.heap.size) (H : Nat) (hH : w.heap.size = H)
    (h : ∀ g cap w', w'.ownsRow base e size (.slice (some ⟨g, 0, none⟩) (n + m) cap) (n + m) (xs ++ news) → w.grownBy w' v.ownBlock → (v.ownBlock = some g ∨ g = H) → g < w'.heap.size → K (a.put dd (.slice (some ⟨g, 0, none⟩) (n + m) cap)) w') :
    if Region.wanted o (yielded ops a.tmps) = true then Oper.wp P o a w K Q else E := by
  subst hdd
  exact step_append_lies w hgd s x t ho base e i z size bytes ht hi hz hsize hby hzs hsz v n xs hs hown ad m c news hx hl hnews h1 hm h63 hbytes hbase H hH h
end
/-- A new block and another block turned: in whichever order. -/
theorem setBlock_alloc (w : World) (b : Nat) (o o' : Obj) (h : b < w.heap.size) : setBlock (w.alloc o') b o = (setBlock w b o).alloc o' := by
  unfold setBlock World.alloc
  simp only [World.mk.injEq, and_true]
  apply Array.ext'
  simp [h]
set_option maxRecDepth 100000 in
set_option maxHeartbeats 1600000 in
theorem imp_goBy (p tb mb N cap fr many base : Nat) (T : Nat → UInt8) (No : Nat → Prop) (w : World) (hP : Pst w p tb mb N cap T) (hM : ∃ es clock, PlM w base mb 3 (plc T N fr) No es clock) (hN : N ≤ 4000) (hm : fr + many ≤ N)
    (hpb : p < base) (htb : tb < base) (hpm : p ≠ mb) (htm : tb ≠ mb) (hbs : base ≤ w.heap.size) (hNo : ∀ g, No g → g < w.heap.size) :
    Calls Tryd.prog 32 #[.pointer (some ⟨p, 0, none⟩), .int .i64 (fr : Int), .int .i64 (many : Int)] w fun e w' => e = .returned (.tuple #[]) ∧ (∃ es clock, PlM w' base mb 3 (plc T N (fr + many)) No es clock) ∧ Turn w w' base mb No := by
  obtain ⟨i0, hi0, hz0, hz1, hz2⟩ := info_parts Tryd.infoI
  obtain ⟨q, hq⟩ : ∃ q, q = fr + many := ⟨_, rfl⟩
  have s1 : (fr : Int) + (many : Int) = (q : Int) := by omega
  have s1w : IntKind.i64.wrap ((fr : Int) + (many : Int)) = (q : Int) := by simp only [IntKind.wrap_i64]; omega
  have hq4 : (q : Int) ≤ 4000 := by omega
  have HQ := hide hq
  have hqN : q ≤ N := by omega
  have hfq : fr ≤ q := by omega
  have HP := hide hP
  have HM := hide hM
  have HNo := hide hNo
  clear hP hM hq hm hNo
  go_enter Tryd.func32, Tryd.ntmps32
  go_wp2_with fail
  go_loopw [6] (fun i wx => ∃ k : Nat, fr ≤ k ∧ k ≤ q ∧ i = .int .i64 (k : Int) ∧ Hid (∃ es clock, PlM wx base mb 3 (plc T N k) No es clock) ∧ Hid (Turn w wx base mb No)) (fun i _ => q - (intOf i).toNat)
  case atStart => exact ⟨fr, Nat.le_refl _, hfq, rfl, HM, Turn.refl _ _ _ _⟩
  case round =>
    clear HM
    obtain ⟨k, hk1, hk2, rfl, HM, HT⟩ := hrel
    by_cases hlt : k < q
    · have hlt' : (k : Int) < (q : Int) := by omega
      have hPr := HP.out.turn HT.out hpb htb hpm htm
      have hws := HT.out.size
      obtain ⟨ok, hok⟩ : ∃ ok, ok = decide (k + 3 ≤ N) := ⟨_, rfl⟩
      have SO := hide (imp_openingAt p tb mb N cap k T wr hPr hN (by omega) ok hok)
      obtain ⟨KF, hKF⟩ : ∃ KF, KF = opF T N k := ⟨_, rfl⟩
      rw [← hKF] at SO
      have HKF := hide hKF
      have HPR := hide hPr
      have HOK := hide hok
      clear hPr hKF hok
      go_wp2_with fail
      refine (SO.out).mono ?_
      rintro e w1 ⟨rfl, hb1⟩
      have hP1 := HPR.out.below hb1
      have hs1 := hb1.size
      have hM1 := hide (show ∃ es clock, PlM w1 base mb 3 (plc T N k) No es clock from by
        obtain ⟨es, clock, h⟩ := HM.out
        exact ⟨es, clock, h.below hb1⟩)
      have hT1 := hide (HT.out.trans (Turn.of_below hb1))
      obtain ⟨W, hW⟩ : ∃ W, W = (w1.alloc (.cells #[.int .u8 0, .int .u8 0, .int .u8 0] 100)) := ⟨_, rfl⟩
      have r7 : W.rowIs w1.heap.size 100 3 (u8V fun _ => 0) := by rw [hW]; exact zeros8_row 3 w1 _ _ rfl
      have hbW : Below w1.heap.size w1 W := by rw [hW]; exact (Below.refl _ w1).alloc (Nat.le_refl _) _
      have hWs : W.heap.size = w1.heap.size + 1 := by rw [hW]; simp
      have HW' := hide (show (w1.alloc (.cells #[.int .u8 0, .int .u8 0, .int .u8 0] 100)) = W from hW.symm)
      have hth := row_there (o := 0) (n := 3) r7 (by omega)
      have hth' : (w1.alloc (.cells #[.int .u8 0, .int .u8 0, .int .u8 0] 100)).there w1.heap.size 0 3 := by rw [HW'.out]; exact hth
      have r7s := row_setCells0 (k := KF) r7
      have hbS := below_setCells' (b := w1.heap.size) (o := 0) (vs := bL 3 KF) hbW (Nat.le_refl _)
      have hSz : (W.setCells w1.heap.size 0 (bL 3 KF)).heap.size = w1.heap.size + 1 := by rw [size_setCells]; exact hWs
      have G := hide (And.intro r7s (And.intro hbS hSz))
      clear r7 hbW hWs r7s hbS hSz hth SO HPR HM HT hb1 hW
      cases ok with
      | true =>
        have hk3 : k + 3 ≤ N := of_decide_eq_true HOK.out.symm
        go_wp2_with (refine wpList_store_B rfl 100 (.tmp 7) (.tmp 21) rfl w1.heap.size 0 3 KF rfl rfl hth' Tryd.size3 ?_)
        rw [HW'.out]
        obtain ⟨W2, hW2⟩ : ∃ W2, W2 = W.setCells w1.heap.size 0 (bL 3 KF) := ⟨_, rfl⟩
        rw [← hW2] at G ⊢
        clear hW2
        obtain ⟨r7, hbW, hW2s⟩ := G.out
        have hP2 := (hP1.below hbW).drew
        have hT2 := hide (hT1.out.trans (Turn.of_below hbW.drew))
        have r7d := r7.drew
        have hzlt : w1.heap.size < W2.heap.size := by omega
        clear hW2s
        clear G hT1 hth' HW' hP1
        obtain ⟨es, clock, hPM⟩ := hM1.out
        have hW2o : ∀ g, g < w1.heap.size → W2.heap[g]? = w1.heap[g]? := fun g hg => hbW.block g hg
        obtain ⟨v, st, es1, clock1, hME, hov, hoffv, hback⟩ := hPM.entry Tryd.lawO Tryd.keyO Tryd.underlying96 Tryd.zeroO KF (fun g hg => by have := HNo.out g hg; have : w.heap.size ≤ wr.heap.size := hws; omega)
        have hml1 := hPM.lt
        have hmlt : mb < W2.heap.size := by omega
        have hbW2 : base ≤ W2.heap.size := by omega
        have c1 : W2.drew.cell? ⟨p, 1, none⟩ = some (.map (some mb)) := hP2.c1
        have hp2 := hP2.lt
        have rg7 : W2.drew.rangeAt w1.heap.size 0 (bL 3 KF) := row_range0 r7d
        obtain ⟨n, hn⟩ : ∃ n, n = (plc T N k (kV KF)).length := ⟨_, rfl⟩
        have hnk : n ≤ k := by rw [hn]; exact plc_len T N k _
        rw [← hn] at hov
        -- the world behind the two makings, in whichever order
        obtain ⟨W3, hW3⟩ : ∃ W3, W3 = (setBlock W2.drew mb (.map es1 clock1)).alloc (.cells #[.int .i64 (k : Int)] 3) := ⟨_, rfl⟩
        have hW3' : W3 = setBlock (W2.drew.alloc (.cells #[.int .i64 (k : Int)] 3)) mb (.map es1 clock1) := by rw [hW3]; exact (setBlock_alloc _ _ _ _ (show mb < W2.drew.heap.size from hmlt)).symm
        have hsb : ∀ g, g ≠ mb → (setBlock W2.drew mb (.map es1 clock1)).heap[g]? = W2.drew.heap[g]? := fun g hg => setBlock_other _ _ _ _ hg
        have h3s : W3.heap.size = W2.heap.size + 1 := by rw [hW3, World.size_alloc, setBlock_size]; rfl
        have h3o : ∀ g, g < W2.heap.size → g ≠ mb → W3.heap[g]? = W2.heap[g]? := fun g h1 h2 => by
          rw [hW3, Below.heap_alloc _ _ _ (by rw [setBlock_size]; exact h1)]; exact hsb g h2
        have h3m : W3.heap[mb]? = some (.map es1 clock1) := by
          rw [hW3, Below.heap_alloc _ _ _ (by rw [setBlock_size]; exact hmlt)]; exact setBlock_same _ _ _ hmlt
        have h3c : W3.cell? ((⟨W2.heap.size, 0, none⟩ : Addr).add 0) = some (.int .i64 (k : Int)) := by
          have := one_cell (setBlock W2.drew mb (.map es1 clock1)) (.int .i64 (k : Int)) 3 0 _ rfl
          rw [setBlock_size] at this
          rw [hW3]; exact this
        have h3os : W3.os = W2.os ∧ W3.tape = W2.tape ∧ W3.output = W2.output := by rw [hW3]; exact ⟨rfl, rfl, rfl⟩
        have hmr : w1.heap.size ≠ mb := by omega
        have hov3 : W3.ownsRow base 3 1 v n ((plc T N k (kV KF)).map intV) := own_of_block hov (fun g hg => by
          have hlt := hov.lt g hg
          exact (h3o g (by omega) (by have := hPM.hb; omega)).trans (hW2o g hlt.2))
        have hz7 : ∀ g, v.ownBlock = some g → g ≠ w1.heap.size := by
          intro g hg e
          have := (hov.lt g hg).2
          omega
        have Sa : ∀ u : World, (∀ g, g = p ∨ g = w1.heap.size → u.heap[g]? = W2.drew.heap[g]?) → u.cell? ⟨p, 1, none⟩ = some (.map (some mb)) ∧ u.rangeAt w1.heap.size 0 (bL 3 KF) := fun u hu =>
          ⟨(World.cell?_of_block (w := W2.drew) (a := ⟨p, 1, none⟩) (hu p (.inl rfl))).trans c1, fun j v hv => (World.cell?_of_block (w := W2.drew) (a := ⟨w1.heap.size, 0 + j, none⟩) (hu _ (.inr rfl))).trans (rg7 j v hv)⟩
        have S0 := Sa W2.drew (fun _ _ => rfl)
        have SA := Sa (W2.drew.alloc (.cells #[.int .i64 (k : Int)] 3)) (fun g hg => Below.heap_alloc _ _ _ (by rcases hg with rfl | rfl; exact hp2; exact hzlt))
        have SE := Sa (setBlock W2.drew mb (.map es1 clock1)) (fun g hg => hsb g (by rcases hg with rfl | rfl; exact hpm; exact hmr))
        have S3 := Sa W3 (fun g hg => h3o g (by rcases hg with rfl | rfl; exact hp2; exact hzlt) (by rcases hg with rfl | rfl; exact hpm; exact hmr))
        refine wp_region_held_drew (S := fun w' => w'.cell? ⟨p, 1, none⟩ = some (.map (some mb)) ∧ w'.rangeAt w1.heap.size 0 (bL 3 KF)) (by kernel_rfl) S0 (fun hHeld => ?_)
        refine takeD (i := 0) (v := .pointer (some ⟨p, 0, none⟩)) (some 24) rfl rfl (by kernel_rfl) (by kernel_rfl) (by kernel_rfl) (fun _ _ _ h => h) (Or.inl ⟨by rfl, fun w hSw => by go_simp⟩) hHeld ?_
        simp only [Act.put, List.setIfInBounds_toArray, List.set_cons_zero, List.set_cons_succ]
        refine takeD (i := 1) (v := .pointer (some ⟨p, 0, none⟩)) (some 25) rfl rfl (by kernel_rfl) (by kernel_rfl) (by kernel_rfl) (fun _ _ _ h => h) (Or.inl ⟨by rfl, fun w hSw => by go_simp⟩) hHeld ?_
        simp only [Act.put, List.setIfInBounds_toArray, List.set_cons_zero, List.set_cons_succ]
        refine takeD (i := 2) (v := .pointer (some ⟨p, 1, none⟩)) (some 26) rfl rfl (by kernel_rfl) (by kernel_rfl) (by kernel_rfl) (fun _ _ _ h => h) (Or.inl ⟨by rfl, fun w hSw => by go_simp⟩) hHeld ?_
        simp only [Act.put, List.setIfInBounds_toArray, List.set_cons_zero, List.set_cons_succ]
        refine takeD (i := 3) (v := .map (some mb)) (some 27) rfl rfl (by kernel_rfl) (by kernel_rfl) (by kernel_rfl) (fun _ _ _ h => h) (Or.inl ⟨by rfl, fun w hSw => by have h1 := hSw.1; go_simp⟩) hHeld ?_
        simp only [Act.put, List.setIfInBounds_toArray, List.set_cons_zero, List.set_cons_succ]
        refine takeD (i := 4) (v := .agg (bL 3 KF).toArray) (some 28) rfl rfl (by kernel_rfl) (by kernel_rfl) (by kernel_rfl) (fun _ _ _ h => h) (yieldsB (by rfl) 100 (.tmp 7) rfl w1.heap.size 0 3 rfl KF _ (fun w h => h.2) Tryd.underlying100 rfl Tryd.size3) hHeld ?_
        simp only [Act.put, List.setIfInBounds_toArray, List.set_cons_zero, List.set_cons_succ]
        refine takeD (i := 5) (v := .int .i64 (k : Int)) (some 30) rfl rfl (by kernel_rfl) (by kernel_rfl) (by kernel_rfl) (fun _ _ _ h => h) (Or.inl ⟨by rfl, fun w hSw => by go_simp⟩) hHeld ?_
        simp only [Act.put, List.setIfInBounds_toArray, List.set_cons_zero, List.set_cons_succ]
        refine wpAnyH_ready (rs := [6]) (by kernel_rfl) (by simp) ?_
        refine AllReadyH.cons rfl (fun KK hK => ?_) AllReadyH.nil
        · go_simp
          refine hK.out _ _ SA (fun hHeld => ?_)
          clear hK KK
          refine wpAnyH_ready (rs := [7]) (by kernel_rfl) (by simp) ?_
          refine AllReadyH.cons rfl (fun KK hK => ?_) AllReadyH.nil
          refine step_mapEntry (some 32) rfl rfl 96 (.tmp 27) (.tmp 28) rfl _ _ _ _ rfl rfl (hME _ ((Below.heap_alloc _ _ _ hmlt).trans (hW2o mb hml1))) ?_
          rw [show setBlock (World.drew (W2.alloc (.cells #[.int .i64 (k : Int)] 3))) mb (.map es1 clock1) = W3 from hW3'.symm]
          simp only [Act.put, List.setIfInBounds_toArray, List.set_cons_zero, List.set_cons_succ]
          refine hK.out _ _ S3 (fun hHeld => ?_)
          clear hK KK
          refine takeD (i := 8) (v := v) (some 29) rfl rfl (by kernel_rfl) (by kernel_rfl) (by kernel_rfl) (fun _ _ _ h => h) (Or.inl ⟨by rfl, fun w hSw => by go_simp⟩) hHeld ?_
          simp only [Act.put, List.setIfInBounds_toArray, List.set_cons_zero, List.set_cons_succ]
          refine takeD (i := 10) (v := goInt st) (some 34) rfl rfl (by kernel_rfl) (by kernel_rfl) (by kernel_rfl) (fun _ _ _ h => h) (Or.inl ⟨by rfl, fun w hSw => by go_simp⟩) hHeld ?_
          simp only [Act.put, List.setIfInBounds_toArray, List.set_cons_zero, List.set_cons_succ]
          refine wpAnyH_ready (rs := [9]) (by kernel_rfl) (by simp) ?_
          refine AllReadyH.cons rfl (fun KK hK => ?_) AllReadyH.nil
          refine step_append_D2 _ (some 33) rfl rfl (.tmp 29) (.tmp 31) 107 rfl base 3 i0 (.int .i64 0) 1 8 Tryd.underlying107 hi0 hz0 hz1 hz2 rfl (by omega) v n _ rfl hov3 ⟨W2.heap.size, 0, none⟩ 1 1 [.int .i64 (k : Int)] rfl rfl (fun j u hj => by match j, hj with | 0, hj => (simp at hj; subst hj; exact h3c)) (one_oneCell .i64 _) (by omega) (by unfold maxLen; omega) (by omega) (by omega) (W2.heap.size + 1) h3s ?_
          intro g' cap' w4 hown4 hgr4 hat4 hlt4
          have h4o : ∀ g, g < W2.heap.size → g ≠ mb → v.ownBlock ≠ some g → w4.heap[g]? = W2.heap[g]? := fun g h1 h2 h3 => (hgr4.block g (by omega) (fun e => h3 e.symm)).trans (h3o g h1 h2)
          have h4m : w4.heap[mb]? = some (.map es1 clock1) := (hgr4.block mb (by rw [h3s]; have : mb < W2.heap.size := hmlt; omega) (fun e => by have := (hov.lt mb e.symm).1; have := hPM.hb; omega)).trans h3m
          have S4 := Sa w4 (fun g hg => by
            rcases hg with rfl | rfl
            · exact h4o _ hp2 hpm (fun e => by have := (hov.lt _ e).1; omega)
            · exact h4o _ hzlt hmr (fun e => hz7 _ e rfl))
          obtain ⟨es2, clock2, hES, hPM2⟩ := hback w4 (.slice (some ⟨g', 0, none⟩) (n + 1) cap') k h4m (fun g h1 h2 h3 h4 => (h4o g (by omega) (by have := hPM.hb; omega) h3).trans (hW2o g h2)) (by rw [← hn]; exact hown4) (by
            rcases hat4 with h | h
            · exact .inl (by rw [h]; rfl)
            · exact .inr ⟨g', rfl, by omega⟩)
          simp only [Act.put, List.setIfInBounds_toArray, List.set_cons_zero, List.set_cons_succ]
          refine hK.out _ _ S4 (fun hHeld => ?_)
          clear hK KK
          refine wpAnyH_ready (rs := [11]) (by kernel_rfl) (by simp) ?_
          refine AllReadyH.cons rfl (fun KK hK => ?_) AllReadyH.nil
          have S5 := Sa (setBlock w4 mb (.map es2 clock2)) (fun g hg => by
            rcases hg with rfl | rfl
            · exact (setBlock_other _ _ _ _ hpm).trans (h4o _ hp2 hpm (fun e => by have := (hov.lt _ e).1; omega))
            · exact (setBlock_other _ _ _ _ hmr).trans (h4o _ hzlt hmr (fun e => hz7 _ e rfl)))
          refine step_entryStore none rfl rfl 96 (.tmp 27) (.tmp 34) (.tmp 33) rfl _ _ _ _ rfl rfl rfl hES ?_
          refine hK.out _ _ S5 (fun hHeld => ?_)
          clear hK KK
          refine wpAnyH_done (by kernel_rfl) ?_ _
          have R1 := hide (show ∃ es clock, PlM (setBlock w4 mb (.map es2 clock2)) base mb 3 (plc T N (k + 1)) No es clock from ⟨es2, clock2, by rw [plc_yes T N k hk3, ← HKF.out]; exact hPM2⟩)
          have R2 := hide (hT2.out.trans (show Turn W2.drew (setBlock w4 mb (.map es2 clock2)) base mb No from ⟨hgr4.os.trans h3os.1, hgr4.tape.trans h3os.2.1, hgr4.output.trans h3os.2.2, by rw [setBlock_size]; have := hgr4.size; show W2.heap.size ≤ _; omega, fun g h1 h2 h3 => (setBlock_other _ _ _ _ h2).trans (h4o g h1 h2 (fun e => by
            rcases h3 with h3 | h3
            · have := (hov.lt g e).1; omega
            · exact hoffv g e h3))⟩))
          generalize setBlock w4 mb (.map es2 clock2) = W5 at *
          clear S0 SA SE S3 S4 S5 Sa hback hES hPM2 hown4 hgr4 hME hPM hov hov3 hT2 hM1 h4o h4m h3o h3m h3c hHeld
          go_wp2_with fail
          go_roundw
          case rel => exact ⟨k + 1, by omega, by omega, by go_num, R1, R2⟩
          case measure => simp [intOf]; omega
      | false =>
        have hk3 : ¬ k + 3 ≤ N := of_decide_eq_false HOK.out.symm
        go_wp2_with (refine wpList_store_B rfl 100 (.tmp 7) (.tmp 21) rfl w1.heap.size 0 3 KF rfl rfl hth' Tryd.size3 ?_)
        rw [HW'.out]
        obtain ⟨W2, hW2⟩ : ∃ W2, W2 = W.setCells w1.heap.size 0 (bL 3 KF) := ⟨_, rfl⟩
        rw [← hW2] at G ⊢
        clear hW2
        obtain ⟨r7, hbW, hW2s⟩ := G.out
        have R1 := hide (show ∃ es clock, PlM W2 base mb 3 (plc T N (k + 1)) No es clock from by
          obtain ⟨es, clock, h⟩ := hM1.out
          rw [plc_no T N k hk3]
          exact ⟨es, clock, h.below hbW⟩)
        have R2 := hide (hT1.out.trans (Turn.of_below hbW))
        go_roundw
        case rel => exact ⟨k + 1, by omega, by omega, by go_num, R1, R2⟩
        case measure => simp [intOf]; omega
    · have hlt' : ¬ (k : Int) < (q : Int) := by omega
      have ekq : k = q := by omega
      have R1 := hide (show ∃ es clock, PlM wr base mb 3 (plc T N (fr + many)) No es clock by rw [← HQ.out, ← ekq]; exact HM.out)
      clear ekq HM
      go_wp2_with fail
      go_end0
      exact ⟨rfl, R1.out, HT.out⟩
end Go.Proofs.YtdoodkabmeojmaaDoor

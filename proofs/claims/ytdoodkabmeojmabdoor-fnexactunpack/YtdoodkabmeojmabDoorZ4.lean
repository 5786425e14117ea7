/- ImpText, LayNum, PutTok, PastK, PastP, PastO, one behind the other. -/
import Derived.Test.YtdoodkabmeojmabDoorZ3
import Derived.Test.YtdoodkabmeojmabDoorPackU
import Derived.Test.YtdoodkabmeojmabDoorOwnConv
import Derived.Test.YtdoodkabmeojmabDoorZ2
import Derived.Test.YtdoodkabmeojmabDoorZ1
import Derived.Test.YtdoodkabmeojmabDoorPackS
import Derived.Test.YtdoodkabmeojmabDoorRows
import Derived.Test.YtdoodkabmeojmabDoorChecked
import Derived.Test.YtdoodkabmeojmabDoorRowC
import Derived.Test.YtdoodkabmeojmabDoorArr
import Derived.Test.YtdoodkabmeojmabDoorMatchF
import Derived.Test.YtdoodkabmeojmabDoorHeldOne
import Derived.Laws.ResultCell
/- The program's (*decoder).text. -/
namespace Go.Proofs.YtdoodkabmeojmabDoor
open Go Go.RowKit Go.Shelf
attribute [local go_sem] Oper.semAt_some
def noPanT (Q : Exit → Act → World → Prop) : Exit → Act → World → Prop
  | .panic _, _, _ => False
  | e, a, w => Q e a w
theorem noPanT_to (Q : Exit → Act → World → Prop) : ∀ e a w, noPanT Q e a w → Q e a w := fun e a w h => by
  cases e <;> first | exact h | exact h.elim
theorem own_cellsT {w : World} {base e size n : Nat} {v : Value} {xs : List Value} (h : w.ownsRow base e size v n xs) : ∀ g, v.ownBlock = some g → ∃ c, w.heap[g]? = some (.cells c e) := by
  intro g hg
  rcases h.2 with ⟨rfl, _⟩ | ⟨g', cap, cur, rfl, _, hgb, _⟩
  · simp [Value.ownBlock] at hg
  · obtain rfl : g' = g := by simpa [Value.ownBlock] using hg
    exact ⟨cur, hgb⟩
/-- What lies in memory between two rounds: the results' cells z and z + 1, the box z + 2 of what is there. -/
def TxtAt (b z : Nat) (w : World) (M : Nat → Prop) (pre : List Tok) (W : World) : Prop :=
  ∃ v bts, growL pre [] = some bts ∧ Boxed W (z + 2) 42 v ∧ W.ownsRow b 5 1 v bts.length (bts.map byteV) ∧ ¬ M (z + 2) ∧ (∀ g, v.ownBlock = some g → ¬ M g) ∧ (Boxed W z 9 (.string ⟨#[]⟩) ∧ Boxed W (z + 1) 4 (.bool false) ∧ ¬ M z ∧ ¬ M (z + 1)) ∧ (∀ g, M g → b ≤ g ∧ g < W.heap.size) ∧ b ≤ W.heap.size ∧ Below b w W
/-- .. where a match goes too far back. -/
def TxtNo (b z : Nat) (w : World) (c : Code) (M : Nat → Prop) (pre : List Tok) (W : World) : Prop :=
  c = .ret ∧ growL pre [] = none ∧ (Boxed W z 9 (.string ⟨#[]⟩) ∧ Boxed W (z + 1) 4 (.bool false) ∧ ¬ M z ∧ ¬ M (z + 1)) ∧ (∀ g, M g → b ≤ g ∧ g < W.heap.size) ∧ b ≤ W.heap.size ∧ Below b w W
theorem txtAt_stands {b z B : Nat} {w : World} (hB : b ≤ B) : StandsB B (TxtAt b z w) := by
  rintro M M' pre W W' ⟨v, bts, h0, h1, h2, h3, h4, ⟨r1, r2, r3, r4⟩, h5, h6, h7⟩ hm hM
  have off : ∀ k, k < W.heap.size → ¬ M k → ¬ M' k := fun k hk h hh => by
    rcases hM k hh with h' | h'
    · exact h h'
    · omega
  refine ⟨v, bts, h0, hm.cells h3 h1, own_of_block h2 (fun g hg => ?_), off _ h1.lt h3, fun g hg => off g (h2.lt g hg).2 (h4 g hg), ⟨hm.cells r3 r1, hm.cells r4 r2, off _ r1.lt r3, off _ r2.lt r4⟩, fun g hg => ?_, Nat.le_trans h6 hm.size, hm.toBelow h7 h6 hB (fun g hg => (h5 g hg).1)⟩
  · obtain ⟨c, hc⟩ := own_cellsT h2 g hg
    rw [hc, hm.cells (h4 g hg) hc]
  · rcases hM g hg with h | h
    · exact ⟨(h5 g h).1, Nat.lt_of_lt_of_le (h5 g h).2 hm.size⟩
    · exact ⟨Nat.le_trans h6 h.1, h.2⟩
theorem txtNo_stands {b z B : Nat} {w : World} (hB : b ≤ B) (c : Code) : StandsB B (TxtNo b z w c) := by
  rintro M M' pre W W' ⟨h0, h1, ⟨r1, r2, r3, r4⟩, h5, h6, h7⟩ hm hM
  have off : ∀ k, k < W.heap.size → ¬ M k → ¬ M' k := fun k hk h hh => by
    rcases hM k hh with h' | h'
    · exact h h'
    · omega
  refine ⟨h0, h1, ⟨hm.cells r3 r1, hm.cells r4 r2, off _ r1.lt r3, off _ r2.lt r4⟩, fun g hg => ?_, Nat.le_trans h6 hm.size, hm.toBelow h7 h6 hB (fun g hg => (h5 g hg).1)⟩
  rcases hM g hg with h | h
  · exact ⟨(h5 g h).1, Nat.lt_of_lt_of_le (h5 g h).2 hm.size⟩
  · exact ⟨Nat.le_trans h6 h.1, h.2⟩
set_option maxRecDepth 100000 in
set_option maxHeartbeats 3200000 in
theorem imp_text (b g size : Nat) (t : ByteArray) (w : World) (h4 : size ≤ 4000) (hts : t.size ≤ 9223372036854775807) (hdec : DecP w g t rc0 (pv (tbN t) 4)) (hbg : b ≤ g) :
    Calls Tryd.prog 21 #[.pointer (some ⟨g, 0, none⟩), .int .i64 (size : Int)] w fun e w' => e = .returned (.tuple #[.string (unpO t size).1, .bool (unpO t size).2]) ∧ Below b w w' := by
  have hgl := hdec.lt
  have hp4 : pv (tbN t) 4 < 18446744073709551616 := Nat.lt_of_lt_of_le (pv_lt (tbN t) (tbN_lt t) 4) (by decide)
  have hok0 : DecOk (rc0, pv (tbN t) 4) 0 := ⟨rc0_ok, hp4, Nat.le_refl _⟩
  obtain ⟨z, hz⟩ : ∃ z, z = w.heap.size := ⟨_, rfl⟩
  refine (callsIn_wide (n := 5)).1 ?_
  refine callsIn_of_wp_marks Tryd.func21 rfl trivial ?_ rfl
  simp only [Tryd.ntmps21, List.size_toArray, List.length_cons, List.length_nil, Nat.reduceAdd, Nat.reduceSub, Array.replicate_succ, Array.replicate_zero, List.push_toArray, List.append_toArray, List.nil_append, List.cons_append]
  refine Go.wpIn_mono (Q := noPanT _) ?_ (noPanT_to _)
  refine wpIn_wide.2 ?_
  have hal : Below w.heap.size w (((w.alloc (.cells #[.string ⟨#[]⟩] 9)).alloc (.cells #[.bool false] 4)).alloc (.cells #[.slice none 0 0] 42)) := (((Below.refl _ w).alloc (Nat.le_refl _) _).alloc (by simp) _).alloc (by simp; omega) _
  have x0 : Boxed (((w.alloc (.cells #[.string ⟨#[]⟩] 9)).alloc (.cells #[.bool false] 4)).alloc (.cells #[.slice none 0 0] 42)) z 9 (.string ⟨#[]⟩) := by
    rw [hz]; exact ((Boxed.new w 9 (.string ⟨#[]⟩)).alloc _).alloc _
  have x1 : Boxed (((w.alloc (.cells #[.string ⟨#[]⟩] 9)).alloc (.cells #[.bool false] 4)).alloc (.cells #[.slice none 0 0] 42)) (z + 1) 4 (.bool false) := by
    have h := (Boxed.new (w.alloc (.cells #[.string ⟨#[]⟩] 9)) 4 (.bool false)).alloc (.cells #[.slice none 0 0] 42)
    rw [World.size_alloc, ← hz] at h; exact h
  have x2 : Boxed (((w.alloc (.cells #[.string ⟨#[]⟩] 9)).alloc (.cells #[.bool false] 4)).alloc (.cells #[.slice none 0 0] 42)) (z + 2) 42 (.slice none 0 0) := by
    have h := Boxed.new ((w.alloc (.cells #[.string ⟨#[]⟩] 9)).alloc (.cells #[.bool false] 4)) 42 (.slice none 0 0)
    rw [World.size_alloc, World.size_alloc, ← hz] at h; exact h
  have xs : (((w.alloc (.cells #[.string ⟨#[]⟩] 9)).alloc (.cells #[.bool false] 4)).alloc (.cells #[.slice none 0 0] 42)).heap.size = z + 3 := by simp [hz]
  have xd := hide (hdec.kept (hal.block g hgl))
  have HA := hide hal
  have HZ := hide hz
  have hgz : g < z := by omega
  clear hdec hz hal hp4
  go_wp2_with fail
  rw [← HZ.out]
  generalize (((w.alloc (.cells #[.string ⟨#[]⟩] 9)).alloc (.cells #[.bool false] 4)).alloc (.cells #[.slice none 0 0] 42)) = w2 at *
  refine (imp_tokens g size w2).mono ?_
  rintro e w3 ⟨rfl, hw3⟩
  have hal3 : Below w2.heap.size w2 w3 := by rw [hw3]; exact ((Below.refl _ w2).alloc (Nat.le_refl _) _).alloc (by simp) _
  have s3 : w3.heap.size = z + 5 := by rw [hw3]; simp [xs]
  have y3 : w3.heap[z + 3]? = some (.cells #[.pointer (some ⟨g, 0, none⟩)] 55) := by
    rw [hw3]
    have h := World.alloc_heap_new w2 (.cells #[.pointer (some ⟨g, 0, none⟩)] 55)
    rw [xs] at h
    exact (Below.heap_alloc (w2.alloc (.cells #[.pointer (some ⟨g, 0, none⟩)] 55)) (.cells #[.int .i64 (size : Int)] 3) (z + 3) (by simp [xs])).trans h
  have y4 : w3.heap[z + 4]? = some (.cells #[.int .i64 (size : Int)] 3) := by
    rw [hw3]
    have h := World.alloc_heap_new (w2.alloc (.cells #[.pointer (some ⟨g, 0, none⟩)] 55)) (.cells #[.int .i64 (size : Int)] 3)
    rw [World.size_alloc, xs] at h; exact h
  have d3 : DecP w3 g t rc0 (pv (tbN t) 4) := xd.out.kept (hal3.block g (by omega))
  have b3 : Below b w w3 := (HA.out.mono (by rw [← HZ.out]; omega)).trans (hal3.mono (by omega))
  have x0' : Boxed w3 z 9 (.string ⟨#[]⟩) := (hal3.block z (by omega)).trans x0
  have x1' : Boxed w3 (z + 1) 4 (.bool false) := (hal3.block (z + 1) (by omega)).trans x1
  have x2' : Boxed w3 (z + 2) 42 (.slice none 0 0) := (hal3.block (z + 2) (by omega)).trans x2
  rw [xs]
  clear hw3 hal3 x0 x1 x2 xd
  go_wp2_with fail
  refine (wpIn_wide (n := 5)).1 ?_
  refine wpIn_rangeM rfl (by omega) (gf := 45) (lb := #[.pointer (some ⟨z + 4, 0, none⟩), .pointer (some ⟨z + 3, 0, none⟩)]) rfl trivial (enters_of Tryd.func45 (by kernel_rfl) rfl) (dtoks_seq 4 (z + 4) (z + 3) g size (by omega) t h4 hts (rc0, pv (tbN t) 4) hok0 w3 y4 y3 d3 (by omega) (by omega)) (fun k hk => by rcases hk with h | h | h <;> omega) (fun _ => rfl) (TxtAt b z w) (TxtNo b z w) (txtAt_stands (by omega)) (txtNo_stands (by omega))
    ⟨_, [], rfl, x2', World.ownsRow_nil _ _ _ _, by omega, by simp [Value.ownBlock], ⟨x0', x1', by omega, by omega⟩, fun k hk => by rcases hk with h | h | h <;> omega, by omega, b3⟩
    (fun x a' W => ∃ p, a' = { tmps := #[.pointer (some ⟨g, 0, none⟩), .int .i64 (size : Int), undef, undef, .pointer (some ⟨z, 0, none⟩), .pointer (some ⟨z + 1, 0, none⟩), .pointer (some ⟨z + 2, 0, none⟩), .pointer (some ⟨p, 0, none⟩), undef, .pointer (some ⟨g, 0, none⟩), .int .i64 (size : Int), .func (.func 45) #[] #[.pointer (some ⟨z + 4, 0, none⟩), .pointer (some ⟨z + 3, 0, none⟩)], tokV x, undef, undef, undef, undef, undef, undef, undef, undef, undef, undef, undef, undef, undef, undef], defers := [] } ∧ W.heap[p]? = some (.cells #[.int .i64 x.b, .int .i64 x.m, .int .i64 x.f] 72))
    ?hAx ?assign ?body ?done ?stop
  case hAx =>
    rintro x a' _ W W' row ⟨p, e, hp⟩ hg hrow
    refine ⟨p, e, (hg.block p (Array.getElem?_eq_some_iff.1 hp).1 (fun h => ?_)).trans hp⟩
    obtain ⟨_, o, ho, hc⟩ := hrow p h.symm
    rw [hp] at ho; cases ho; cases hc
  case assign =>
    intro l M pre x W K hI hK
    obtain ⟨xb, xm, xf⟩ := x
    simp only [tokV] at hK ⊢
    gi_wp2_with fail
    refine hK _ _ (KeepsFrom.below ((Below.refl _ W).alloc (Nat.le_refl _) _)) (KeptM.below ((Below.refl _ W).alloc (Nat.le_refl _) _)) ((txtAt_stands (B := b) (Nat.le_refl _)).alloc _ hI) ⟨W.heap.size, ?_, World.alloc_heap_new W _⟩
    simp
  case body =>
    rintro l M pre x a' W ⟨v, bts, h0, h1, h2, h3, h4, h41, h5, h6, h7⟩ ⟨p, rfl, hp⟩ hpre
    obtain ⟨rest, hrest⟩ := hpre
    rw [List.append_assoc] at hrest
    obtain ⟨hlt, st', hx⟩ := dt_step (tbN t) size pre size (rc0, pv (tbN t) 4) [] bts x rest hrest h0
    have hc := h1.cell
    have hfz := h1.frozen
    have hzl := h1.lt
    have key : ∀ (v' : Value) (bts' : List UInt8) (W' : World), growT x bts = some bts' → W'.ownsRow b 5 1 v' bts'.length (bts'.map byteV) → Below b W W' → OffV v v' W W' → roundPost w3.heap.size M (TxtAt b z w) (TxtNo b z w) (pre ++ [x]) W .normal ⟨#[], []⟩ (W'.setCell ⟨z + 2, 0, none⟩ v') := by
      intro v' bts' W' hg ho hb hoff
      have n2 : some (z + 2) ≠ v.ownBlock := h1.not_row (by decide) h2
      have k2 : Boxed W' (z + 2) 42 v := (hoff.same (z + 2) hzl (fun e => n2 e.symm)).trans h1
      have n2' : some (z + 2) ≠ v'.ownBlock := k2.not_row (by decide) ho
      have hs := hb.size
      have same : ∀ k, k < W.heap.size → v.ownBlock ≠ some k → k ≠ z + 2 → (W'.setCell ⟨z + 2, 0, none⟩ v').heap[k]? = W.heap[k]? := fun k hk hv hz => (Below.heap_setCell W' ⟨z + 2, 0, none⟩ v' k hz).trans (hoff.same k hk hv)
      refine ⟨⟨by simpa [World.setCell] using hs, fun k o _ hk ho => ?_⟩, ⟨by simpa [World.setCell] using hs, fun k hk hm => same k hk (fun e => h4 k e hm) (fun e => h3 (e ▸ hm))⟩, v', bts', ?_, k2.set v', ho.kept (grownBy_setCell' W' (z + 2) v') (.inr (fun e => n2' e.symm)), h3, fun k hk => ?_, ⟨?_, ?_, h41.2.2.1, h41.2.2.2⟩, fun k hk => ⟨(h5 k hk).1, by have := (h5 k hk).2; simpa [World.setCell] using Nat.lt_of_lt_of_le this hs⟩, by simpa [World.setCell] using Nat.le_trans h6 hs, (h7.trans hb).setCell (p := ⟨z + 2, 0, none⟩) (by show b ≤ z + 2; omega) v'⟩
      · refine (same k (Array.getElem?_eq_some_iff.1 hk).1 (fun e => ?_) (fun e => ?_)).trans hk
        · obtain ⟨c, hc⟩ := own_cellsT h2 k e
          rw [hc] at hk; cases hk; cases ho
        · rw [e, show W.heap[z + 2]? = _ from h1] at hk; cases hk; cases ho
      · rw [growL_snoc, h0]; exact hg
      · rcases hoff.lies k hk with h | h
        · exact h4 k h
        · exact fun hm => by have := (h5 k hm).2; omega
      · exact (same z h41.1.lt (fun e => h41.1.not_row (by decide) h2 e.symm) (by omega)).trans h41.1
      · exact (same (z + 1) h41.2.1.lt (fun e => h41.2.1.not_row (by decide) h2 e.symm) (by omega)).trans h41.2.1
    have KEY := hide key
    have HH := hide (And.intro h0 (And.intro h1 (And.intro h2 (And.intro h3 (And.intro h4 (And.intro h41 (And.intro h5 (And.intro h6 h7))))))))
    have h6' := h6
    clear key h4 h41 h5 h7
    rcases dtok_two (tbN t) st' with ⟨y, hy, e⟩ | ⟨MM, F, m1, m2, f1, f2, e⟩
    · rw [← hx] at e
      subst e
      have SG := hide (imp_grown_byteK v bts b y W h6 h2 (by omega) hy)
      have e0 : W.cell? ⟨p, 0, none⟩ = some (.int .i64 (y : Int)) := by simp [World.cell?, hp]
      have e1 : W.cell? ⟨p, 1, none⟩ = some (.int .i64 0) := by simp [World.cell?, hp]
      have e2 : W.cell? ⟨p, 2, none⟩ = some (.int .i64 0) := by simp [World.cell?, hp]
      clear hx h0 h1 h2 h3 hp hrest
      simp only [tokV]
      gi_wp2_with fail
      refine ⟨trivial, (CallsIn.inRound l (callsIn_wide.2 SG.out)).mono ?_⟩
      rintro e W' ⟨v', rfl, ho, hb, hoff⟩
      have R := hide (KEY.out v' _ W' (growT_byte y bts) ho hb hoff)
      have cX : W'.cell? ⟨z + 2, 0, none⟩ = some v := Boxed.cell ((hoff.same (z + 2) hzl (fun e => HH.out.2.1.not_row (by decide) HH.out.2.2.1 e.symm)).trans HH.out.2.1)
      have fX : W'.frozen? ⟨z + 2, 0, none⟩ = false := Boxed.frozen ((hoff.same (z + 2) hzl (fun e => HH.out.2.1.not_row (by decide) HH.out.2.2.1 e.symm)).trans HH.out.2.1)
      obtain ⟨va, vl, vc, rfl⟩ : ∃ a l c, v' = .slice a l c := by
        obtain ⟨_, ⟨e, _⟩ | ⟨g, cap, cur, e, _⟩⟩ := ho
        · exact ⟨_, _, _, e⟩
        · exact ⟨_, _, _, e⟩
      clear ho hb hoff SG KEY e0 e1 e2 hc hfz HH
      gi_wp2_with fail
      exact R.out
    · rw [← hx] at e
      subst e
      have e0 : W.cell? ⟨p, 0, none⟩ = some (.int .i64 0) := by simp [World.cell?, hp]
      have e1 : W.cell? ⟨p, 1, none⟩ = some (.int .i64 (MM : Int)) := by simp [World.cell?, hp]
      have e2 : W.cell? ⟨p, 2, none⟩ = some (.int .i64 (F : Int)) := by simp [World.cell?, hp]
      by_cases hF : bts.length < F
      · have SG := hide (imp_grown_noK v bts b MM F W h2 (by omega) m1 m2 f2 hF)
        have HNO := hide (show growL (pre ++ [(⟨0, (MM : Int), (F : Int)⟩ : Tok)]) [] = none by rw [growL_snoc, h0]; exact (growT_match MM F bts m1).trans (if_pos hF))
        clear hx h0 h1 h2 h3 hp hrest KEY
        simp only [tokV]
        gi_wp2_with fail
        refine ⟨trivial, (CallsIn.inRound l (callsIn_wide.2 SG.out)).mono ?_⟩
        rintro e W' ⟨rfl, hb⟩
        obtain ⟨_, h1, h2, h3, h4, h41, h5, h6, h7⟩ := HH.out
        have k2 : Boxed W' (z + 2) 42 v := (hb.block _ hzl).trans h1
        have k0 : Boxed W' z 9 (.string ⟨#[]⟩) := (hb.block _ h41.1.lt).trans h41.1
        have k1 : Boxed W' (z + 1) 4 (.bool false) := (hb.block _ h41.2.1.lt).trans h41.2.1
        have cX := k2.cell
        have fX := k2.frozen
        have cY := k0.cell
        have fY := k0.frozen
        have cZ := k1.cell
        have fZ := k1.frozen
        have R := hide (show roundPost w3.heap.size M (TxtAt b z w) (TxtNo b z w) (pre ++ [(⟨0, (MM : Int), (F : Int)⟩ : Tok)]) W .ret ⟨#[], []⟩ (((W'.setCell ⟨z + 2, 0, none⟩ (.slice none 0 0)).setCell ⟨z, 0, none⟩ (.string ⟨#[]⟩)).setCell ⟨z + 1, 0, none⟩ (.bool false)) from by
          have hs := hb.size
          have same : ∀ k, k < W.heap.size → k ≠ z → k ≠ z + 1 → k ≠ z + 2 → (((W'.setCell ⟨z + 2, 0, none⟩ (.slice none 0 0)).setCell ⟨z, 0, none⟩ (.string ⟨#[]⟩)).setCell ⟨z + 1, 0, none⟩ (.bool false)).heap[k]? = W.heap[k]? := fun k hk a0 a1 a2 =>
            (Below.heap_setCell _ ⟨z + 1, 0, none⟩ _ k a1).trans ((Below.heap_setCell _ ⟨z, 0, none⟩ _ k a0).trans ((Below.heap_setCell W' ⟨z + 2, 0, none⟩ _ k a2).trans (hb.block k hk)))
          refine ⟨⟨by simpa [World.setCell] using hs, fun k o _ hk ho => ?_⟩, rfl, HNO.out, ⟨((k0.other (by omega) _).set _).other (by omega) _, ((k1.other (by omega) _).other (by omega) _).set _, h41.2.2.1, h41.2.2.2⟩, fun k hk => ⟨(h5 k hk).1, by have := (h5 k hk).2; simpa [World.setCell] using Nat.lt_of_lt_of_le this hs⟩, by simpa [World.setCell] using Nat.le_trans h6 hs, ?_⟩
          · refine (same k (Array.getElem?_eq_some_iff.1 hk).1 (fun e => ?_) (fun e => ?_) (fun e => ?_)).trans hk
            · rw [e, show W.heap[z]? = _ from h41.1] at hk; cases hk; cases ho
            · rw [e, show W.heap[z + 1]? = _ from h41.2.1] at hk; cases hk; cases ho
            · rw [e, show W.heap[z + 2]? = _ from h1] at hk; cases hk; cases ho
          · exact (((h7.trans (hb.mono h6)).setCell (p := ⟨z + 2, 0, none⟩) (by show b ≤ z + 2; omega) _).setCell (p := ⟨z, 0, none⟩) (by show b ≤ z; omega) _).setCell (p := ⟨z + 1, 0, none⟩) (by show b ≤ z + 1; omega) _)
        clear h1 h2 h3 h4 h41 h5 h6 h7 k0 k1 k2 hb SG e0 e1 e2 hc hfz HH
        gi_wp2_with fail
        exact R.out
      · have SG := hide (imp_grown_matchK v bts b MM F W h6 h2 (by omega) m1 m2 f1 f2 (by omega))
        clear hx h0 h1 h2 h3 hp hrest
        simp only [tokV]
        gi_wp2_with fail
        refine ⟨trivial, (CallsIn.inRound l (callsIn_wide.2 SG.out)).mono ?_⟩
        rintro e W' ⟨v', rfl, ho, hb, hoff⟩
        have R := hide (KEY.out v' _ W' ((growT_match MM F bts m1).trans (if_neg hF)) ho hb hoff)
        have cX : W'.cell? ⟨z + 2, 0, none⟩ = some v := Boxed.cell ((hoff.same (z + 2) hzl (fun e => HH.out.2.1.not_row (by decide) HH.out.2.2.1 e.symm)).trans HH.out.2.1)
        have fX : W'.frozen? ⟨z + 2, 0, none⟩ = false := Boxed.frozen ((hoff.same (z + 2) hzl (fun e => HH.out.2.1.not_row (by decide) HH.out.2.2.1 e.symm)).trans HH.out.2.1)
        obtain ⟨va, vl, vc, rfl⟩ : ∃ a l c, v' = .slice a l c := by
          obtain ⟨_, ⟨e, _⟩ | ⟨g, cap, cur, e, _⟩⟩ := ho
          · exact ⟨_, _, _, e⟩
          · exact ⟨_, _, _, e⟩
        clear ho hb hoff SG KEY e0 e1 e2 hc hfz HH
        gi_wp2_with fail
        exact R.out
  case done =>
    rintro D M xs W hD hxs ⟨v, bts, h0, h1, h2, h3, h4, ⟨r0, r1, _, _⟩, h5, h6, h7⟩ hK
    subst hxs
    obtain ⟨va, vc, hv, hvc⟩ : ∃ a c, v = .slice a bts.length c ∧ bts.length ≤ c := by
      obtain ⟨_, ⟨e, e0⟩ | ⟨g, cap, cur, e, _, _, h, _⟩⟩ := h2
      · exact ⟨none, 0, by rw [e, e0], by omega⟩
      · exact ⟨_, cap, e, h⟩
    have hcv : (convert 42 9 (.slice va bts.length vc)).run Tryd.prog W.drew = .ok (.string ⟨bts.toArray⟩) W.drew := by
      rw [← hv]; exact own_conv (P := Tryd.prog) (World.ownsRow.drew h2) Tryd.underlying42 Tryd.underlying5 Tryd.underlying9
    subst hv
    have hc := h1.cell
    have c0 := r0.cell
    have f0 := r0.frozen
    have c1 := r1.cell
    have f1 := r1.frozen
    have HF := hide (And.intro h0 (And.intro r0 (And.intro r1 (And.intro h6 (And.intro h7 hK)))))
    clear h0 h1 h2 h3 h4 r0 r1 h5 h6 h7 hK
    go_wp2_with fail
    go_region
    obtain ⟨h0, r0, r1, h6, h7, hK⟩ := HF.out
    obtain ⟨W7, hW7⟩ : ∃ W7, W7 = ((W.setCell ⟨z, 0, none⟩ (.string ⟨bts.toArray⟩)).setCell ⟨z + 1, 0, none⟩ (.bool ((bts.length : Int) == (size : Int)))).drew := ⟨_, rfl⟩
    have fa : W7.heap[z]? = some (.cells #[.string ⟨bts.toArray⟩] 9) := by
      rw [hW7]; exact ((r0.set (.string ⟨bts.toArray⟩)).other (B' := z + 1) (by omega) _)
    have fb : W7.heap[z + 1]? = some (.cells #[.bool ((bts.length : Int) == (size : Int))] 4) := by
      rw [hW7]; exact ((r1.other (B' := z) (by omega) _).set (.bool ((bts.length : Int) == (size : Int))))
    have hbl2 : Below b w W7 := by
      rw [hW7]; exact ((h7.setCell (p := ⟨z, 0, none⟩) (by show b ≤ z; omega) _).setCell (p := ⟨z + 1, 0, none⟩) (by show b ≤ z + 1; omega) _).drew
    have hK2 : W7.heap[D]? = some (.deferred (some [])) := by
      rw [hW7]; exact ((KeepsOthers.setCell W ⟨z, 0, none⟩ _).trans (KeepsOthers.setCell _ ⟨z + 1, 0, none⟩ _)).same D _ hK rfl
    have HH := hide (And.intro fa (And.intro fb (And.intro hbl2 hK2)))
    rw [← hW7]
    clear fa fb hbl2 hK2 r0 r1 h6 h7 hK hW7 HF
    go_wp2_with fail
    obtain ⟨fa, fb, hbl2, hK2⟩ := HH.out
    refine ⟨by simp, .inl ⟨D, _, rfl, run_takeDeferred hK2, ?_⟩⟩
    have hbp := belowK_b (w := w3) (n₀ := z + 5) (by omega) W7 D _ (.deferred none) hD hK2 rfl rfl
    have hfa := (hbp.block z (by omega)).trans fa
    have hfb := (hbp.block (z + 1) (by omega)).trans fb
    have hbl3 := hbl2.trans (hbp.mono (by omega))
    generalize W7.putObj D (.deferred none) = W8 at *
    have m0 : W8.cell? ⟨z, 0, none⟩ = some (.string ⟨bts.toArray⟩) := by simp [World.cell?, hfa]
    have m1 : W8.cell? ⟨z + 1, 0, none⟩ = some (.bool ((bts.length : Int) == (size : Int))) := by simp [World.cell?, hfb]
    have hU : unpO t size = (⟨bts.toArray⟩, decide (bts.length = size)) := by
      have h9 := unpack_toks (tbN t) size size (rc0, pv (tbN t) 4) []
      show outU size (unpackG (tbN t) size size (rc0, pv (tbN t) 4) []) = _
      rw [h9, show growL (dtoks (tbN t) size size (rc0, pv (tbN t) 4) ([] : List UInt8).length) [] = some bts from h0]; rfl
    refine ⟨.tuple #[.string ⟨bts.toArray⟩, .bool ((bts.length : Int) == (size : Int))], ?_, ?_, hbl3⟩
    · simp [results, Tryd.results21, go_sem, m0, m1]
    · rw [hU]
      show _ = Ending.returned (.tuple #[.string ⟨bts.toArray⟩, .bool (decide (bts.length = size))])
      have e : ((bts.length : Int) == (size : Int)) = decide (bts.length = size) := by
        by_cases h : bts.length = size
        · rw [h]; simp
        · rw [decide_eq_false h, beq_eq_false_iff_ne]; omega
      rw [e]
  case stop =>
    rintro D c M pre W hD hpre ⟨rfl, h1, ⟨r0, r1, _, _⟩, h5, h6, h7⟩ hK
    have hno := growL_stop pre _ [] hpre h1
    have HH := hide (And.intro r0 (And.intro r1 (And.intro h7 hK)))
    clear r0 r1 h1 h5 h6 h7 hK
    gi_wp2_with fail
    obtain ⟨fa, fb, hbl2, hK2⟩ := HH.out
    obtain ⟨W7, hW7⟩ : ∃ W7, W7 = W := ⟨_, rfl⟩
    rw [← hW7] at fa fb hbl2 hK2 ⊢
    refine ⟨by simp, .inl ⟨D, _, rfl, run_takeDeferred hK2, ?_⟩⟩
    have hbp := belowK_b (w := w3) (n₀ := z + 5) (by omega) W7 D _ (.deferred none) hD hK2 rfl rfl
    have hfa := (hbp.block z (by omega)).trans fa
    have hfb := (hbp.block (z + 1) (by omega)).trans fb
    have hbl3 := hbl2.trans (hbp.mono (by omega))
    generalize W7.putObj D (.deferred none) = W8 at *
    have m0 : W8.cell? ⟨z, 0, none⟩ = some (.string ⟨#[]⟩) := Boxed.cell hfa
    have m1 : W8.cell? ⟨z + 1, 0, none⟩ = some (.bool false) := Boxed.cell hfb
    have hU : unpO t size = (⟨#[]⟩, false) := by
      have h9 := unpack_toks (tbN t) size size (rc0, pv (tbN t) 4) []
      show outU size (unpackG (tbN t) size size (rc0, pv (tbN t) 4) []) = _
      rw [h9, show growL (dtoks (tbN t) size size (rc0, pv (tbN t) 4) ([] : List UInt8).length) [] = none from hno]; rfl
    refine ⟨.tuple #[.string ⟨#[]⟩, .bool false], ?_, by rw [hU], hbl3⟩
    simp [results, Tryd.results21, go_sem, m0, m1]
end Go.Proofs.YtdoodkabmeojmabDoor
/- The program's newCoder, below, layNum (at byte and at int64), putToken (written by mklay.py). -/
namespace Go.Proofs.YtdoodkabmeojmabDoor
open Go.RowKit
theorem CodK.split {w : World} {base g N : Nat} {Mo : Nat → Prop} {s : RC} (h : CodK w base g N Mo s) : ∃ ob : Option Nat, (∀ k, ob = some k → (Mo k ∨ N ≤ k) ∧ k < w.heap.size) ∧ ∀ w', (∀ k, k < w.heap.size → w'.heap[k]? = w.heap[k]?) → ∀ N', CodK w' base g N' (fun k => ob = some k) s := by
  have h2 := h
  obtain ⟨ov, hr, ho, hd, hm⟩ := h
  refine ⟨ov.ownBlock, fun k hk => ⟨hm k hk, (World.ownsRow.lt ho k hk).2⟩, fun w' hw N' => ?_⟩
  exact CodK.keep (N := N') (Mo := fun k => ov.ownBlock = some k) ⟨ov, hr, ho, hd, fun k hk => .inl hk⟩ hw
theorem CodK.join {w : World} {base g N N' : Nat} {Mo : Nat → Prop} {ob : Option Nat} {s : RC} (h : CodK w base g N' (fun k => ob = some k) s) (hob : ∀ k, ob = some k → Mo k ∨ N ≤ k) (hN : N ≤ N') : CodK w base g N Mo s := by
  obtain ⟨ov, hr, ho, hd, hm⟩ := h
  exact ⟨ov, hr, ho, hd, fun k hk => by rcases hm k hk with h | h; exact hob k h; exact .inr (by omega)⟩
theorem FrK.join {w w' : World} {g N N' : Nat} {Mo : Nat → Prop} {ob : Option Nat} (h : FrK N' g (fun k => ob = some k) w w') (hob : ∀ k, ob = some k → Mo k ∨ N ≤ k) (hN : N ≤ N') : FrK N g Mo w w' :=
  ⟨h.1, fun k h1 h2 h3 => h.2 k (by omega) h2 (fun e => by rcases hob k e with h | h; exact h3 h; omega)⟩
set_option maxRecDepth 100000 in
set_option maxHeartbeats 800000 in
theorem imp_newCoder (w : World) :
    Calls Tryd.prog 34 #[] w fun e w' => ∃ g, e = .returned (.pointer (some ⟨g, 0, none⟩)) ∧ w.heap.size ≤ g ∧ (∀ N Mo, CodK w' w.heap.size g N Mo rc0) ∧ Below w.heap.size w w' := by
  go_enter Tryd.func34, Tryd.ntmps34
  go_wp2_with fail
  refine (imp_parting w).mono ?_
  rintro e w2 ⟨rfl, hb2⟩
  have HBT := hide (Tryd.builtCod 4294967295 fun _ => 1024)
  have B2 := hide hb2
  clear hb2
  go_wp2_with (first | (with_reducible (show wpList _ _ _ ({ dst := _, op := .build _ _, type := _, pos := _, after := _, guard := _ } :: _) _ _); refine wpList_build_1 rfl 109 0 _ rfl (.agg (vL 1601 (parF 4294967295 fun _ => 1024)).toArray) rfl _ HBT.out ?_))
  have R3 := vrow_alloc w2 109 1603 (cdF 4294967295 (fun _ => 1024) 0 (.slice none 0 0))
  have B3 := hide (B2.out.alloc B2.out.size (.cells (vL 1603 (cdF 4294967295 (fun _ => 1024) 0 (.slice none 0 0))).toArray 109))
  have hg2 := B2.out.size
  have C3 := hide (show ∀ N Mo, CodK (w2.alloc (.cells (vL 1603 (cdF 4294967295 (fun _ => 1024) 0 (.slice none 0 0))).toArray 109)) w.heap.size w2.heap.size N Mo rc0 from fun N Mo => ⟨.slice none 0 0, R3, ⟨rfl, .inl ⟨rfl, rfl⟩⟩, by simp [Value.ownBlock], by simp [Value.ownBlock]⟩)
  clear R3 HBT
  go_ret
  exact ⟨_, rfl, hg2, C3.out, B3.out⟩
theorem wraps_u8 (n : Int) (h₀ : 0 ≤ n) (h₁ : n < 2 ^ 8) : IntKind.u8.wrap n = n := by rw [IntKind.wrap_u8]; omega
theorem bit_q8 (n k : Nat) (h : n < 256) : bits .and .u8 ((n : Int) / 2 ^ k) 1 = ((n / 2 ^ k % 2 : Nat) : Int) := by
  have e : (n : Int) / 2 ^ k = ((n / 2 ^ k : Nat) : Int) := by simp
  have hle : n / 2 ^ k ≤ n := Nat.div_le_self _ _
  rw [e]
  generalize n / 2 ^ k = q at *
  have h2 := bits_mask .u8 8 (by decide) wraps_u8 1 (by decide) (q : Int) (by omega) (by omega)
  have e1 : ((2 : Int) ^ 1 - 1) = 1 := rfl
  rw [e1] at h2
  rw [h2]
  simp
set_option maxRecDepth 100000 in
set_option maxHeartbeats 1600000 in
theorem imp_lay8 (b0 g n many base N : Nat) (Mo : Nat → Prop) (s : RC) (w : World) (hn : n < 256) (hm : many ≤ 8) (hb : base ≤ 400) (hok : RcOk s) (hsn : s.n + many ≤ 80000) (hbg : b0 ≤ g) (hcod : CodK w b0 g N Mo s) (hN : N ≤ w.heap.size) :
    Calls Tryd.prog 54 #[.int .u8 (n : Int), .int .i64 (base : Int), .int .i64 (many : Int), .func (.func 53) #[.pointer (some ⟨g, 0, none⟩)] #[]] w fun e w' => e = .returned (.tuple #[]) ∧ CodK w' b0 g N Mo (run s (tree n many base)) ∧ Below b0 w w' ∧ FrK N g Mo w w' := by
  obtain ⟨T, hT⟩ : ∃ T, T = tree n many base := ⟨_, rfl⟩
  rw [← hT]
  have HT := hide hT
  have HC := hide hcod
  have HOK := hide hok
  have hgl : g < w.heap.size := by obtain ⟨_, hr, _⟩ := hcod; exact hr.lt
  clear hT hcod hok
  go_enter Tryd.func54, Tryd.ntmps54
  go_wp2_with fail
  go_loopw [8, 9] (fun nd i wx => ∃ (r node : Nat) (k : List (Nat × Bool)), r ≤ many ∧ node < 2 ^ (many - r + 1) ∧ i = .int .i64 ((r : Int) - 1) ∧ nd = .int .i64 (node : Nat) ∧ k.length + r = many ∧ Hid (k ++ treeG n base r node = T) ∧ Hid (CodK wx b0 g N Mo (run s k)) ∧ Hid (Below b0 w wx) ∧ Hid (FrK N g Mo w wx) ∧ N ≤ wx.heap.size) (fun _ i _ => (intOf i + 1).toNat)
  case atStart => exact ⟨many, 1, [], Nat.le_refl _, by rw [Nat.sub_self]; decide, by go_num, rfl, by simp, HT.out.symm, HC, Below.refl _ _, FrK.refl _ _ _ _, hN⟩
  case round =>
    clear HC hN
    obtain ⟨r, node, k, hr, hnd, rfl, rfl, hkl, hk, hcod, hbl, hfr, hNr⟩ := hrel
    have hnode : node < 2048 := Nat.lt_of_lt_of_le hnd (Nat.le_trans (Nat.pow_le_pow_right (by omega) (show many - r + 1 ≤ 11 by omega)) (by decide))
    by_cases hr0 : 0 < r
    · obtain ⟨q, hq⟩ : ∃ q, q = r - 1 := ⟨_, rfl⟩
      have hnode1 : node < 1024 := Nat.lt_of_lt_of_le hnd (Nat.le_trans (Nat.pow_le_pow_right (by omega) (show many - r + 1 ≤ 10 by omega)) (by decide))
      have es : (r : Int) - 1 = (q : Int) := by omega
      rw [es]
      have hs0 : (0 : Int) ≤ (q : Int) := by omega
      have hs10 : (q : Int) ≤ 9 := by omega
      have hnode' : (node : Int) < 2048 := by omega
      have hbq := bit_q8 n q hn
      have hmin : min q 8 = q := Nat.min_eq_left (by omega)
      obtain ⟨t, ht⟩ : ∃ t, t = n / 2 ^ q % 2 := ⟨_, rfl⟩
      rw [← ht] at hbq
      obtain ⟨bit, hbit⟩ : ∃ b, b = bitAt n q := ⟨_, rfl⟩
      have hbt : ((t : Int) == 1) = bit := by
        rw [hbit, bitAt, ← ht]
        by_cases h1 : t = 1
        · rw [h1]; rfl
        · rw [decide_eq_false h1, beq_eq_false_iff_ne]; omega
      obtain ⟨c, hc⟩ : ∃ c, c = base + node := ⟨_, rfl⟩
      have s1 : (base : Int) + (node : Int) = (c : Int) := by omega
      have hr1 : r - 1 = q := hq.symm
      have HK := hide (show (k ++ [(c, bit)]) ++ treeG n base q (2 * node + bN bit) = T by
        rw [← hk.out, show r = q + 1 by omega, hc, hbit, List.append_assoc]; rfl)
      have HND := hide (show 2 * node + bN bit < 2 ^ (many - q + 1) by
        have := bN_le bit
        rw [show many - q + 1 = (many - r + 1) + 1 by omega, Nat.pow_succ]; omega)
      obtain ⟨ob, hob, hcut⟩ := hcod.out.split
      obtain ⟨z, hz⟩ : ∃ z, z = wr.heap.size := ⟨_, rfl⟩
      have hws := hbl.out.size
      have hal : Below wr.heap.size wr (wr.alloc (.cells #[.int .i64 (c : Int), .bool bit] 70)) := (Below.refl _ wr).alloc (Nat.le_refl _) _
      have SP := hide (imp_putK b0 g c (wr.alloc (.cells #[.int .i64 (c : Int), .bool bit] 70)).heap.size (fun j => ob = some j) bit (run s k) (wr.alloc (.cells #[.int .i64 (c : Int), .bool bit] 70)) (run_ok k s HOK.out) (by have := run_n_le k s; omega) (by omega) hbg (hcut _ hal.block _) (Nat.le_refl _))
      have HA := hide (And.intro hal (And.intro hz hob))
      have HS := hide (And.intro hq (And.intro hr hkl))
      clear ht hbit hc hk hq es hnd hkl hal hz hob hcut
      go_wp2_with fail
      refine SP.out.mono ?_
      obtain ⟨hal, hz, hob⟩ := HA.out
      rintro e w9 ⟨rfl, hc9, hb9, hf9⟩
      have zs : (wr.alloc (.cells #[.int .i64 (c : Int), .bool bit] 70)).heap.size = z + 1 := by simp [hz]
      have q9 : w9.heap[z]? = some (.cells #[.int .i64 (c : Int), .bool bit] 70) := (hf9.2 z (by omega) (by omega) (fun e => by have := (hob z e).2; omega)).trans (by rw [hz]; exact heap_alloc_new wr _)
      have e0 : w9.cell? ⟨z, 0, none⟩ = some (.int .i64 (c : Int)) := by simp [World.cell?, q9]
      have e1 : w9.cell? ⟨z, 1, none⟩ = some (.bool bit) := by simp [World.cell?, q9]
      have C9 := hide (show CodK w9 b0 g N Mo (run s (k ++ [(c, bit)])) by rw [run_snoc]; exact hc9.join (fun j hj => (hob j hj).1) (by omega))
      have F9 := hide (show FrK N g Mo w w9 from hfr.out.trans ((FrK.of_below hal hNr).trans (hf9.join (fun j hj => (hob j hj).1) (by omega))))
      have B9 := hide ((hbl.out.trans (hal.mono (by omega))).trans hb9)
      have hN9 : N ≤ w9.heap.size := by have := hf9.1; omega
      rw [← hz]
      clear HA SP hal hz hob hc9 hb9 hf9 q9 zs hcod hbl hfr
      go_wp2_with fail
      refine (imp_below node bit w9 (by omega)).mono ?_
      rintro e w10 ⟨rfl, rfl⟩
      obtain ⟨nn, hnn⟩ : ∃ nn, nn = 2 * node + bN bit := ⟨_, rfl⟩
      rw [← hnn] at HK HND ⊢
      clear hnn e0 e1
      go_wp2_with fail
      go_roundw
      case rel => exact ⟨q, nn, k ++ [(c, bit)], by have := HS.out; omega, HND.out, by go_num, rfl, by have := HS.out; simp; omega, HK, C9, B9, F9, hN9⟩
      case measure => simp [intOf]
    · have hr1 : r = 0 := by omega
      have hlt : ¬ (0 : Int) ≤ (r : Int) - 1 := by omega
      have e := hk.out
      rw [hr1] at e
      have e2 : k = T := by rw [← e]; simp [treeG]
      have HO := hide (show CodK wr b0 g N Mo (run s T) by rw [← e2]; exact hcod.out)
      clear hcod e e2 hk hr1
      go_wp2_with fail
      go_end0
      exact ⟨rfl, HO.out, hbl.out, hfr.out⟩
set_option maxRecDepth 100000 in
set_option maxHeartbeats 1600000 in
theorem imp_lay64 (b0 g n many base N : Nat) (Mo : Nat → Prop) (s : RC) (w : World) (hn : n < 1048576) (hm : many ≤ 10) (hb : base ≤ 400) (hok : RcOk s) (hsn : s.n + many ≤ 80000) (hbg : b0 ≤ g) (hcod : CodK w b0 g N Mo s) (hN : N ≤ w.heap.size) :
    Calls Tryd.prog 55 #[.int .i64 (n : Int), .int .i64 (base : Int), .int .i64 (many : Int), .func (.func 53) #[.pointer (some ⟨g, 0, none⟩)] #[]] w fun e w' => e = .returned (.tuple #[]) ∧ CodK w' b0 g N Mo (run s (tree n many base)) ∧ Below b0 w w' ∧ FrK N g Mo w w' := by
  obtain ⟨T, hT⟩ : ∃ T, T = tree n many base := ⟨_, rfl⟩
  rw [← hT]
  have HT := hide hT
  have HC := hide hcod
  have HOK := hide hok
  have hgl : g < w.heap.size := by obtain ⟨_, hr, _⟩ := hcod; exact hr.lt
  clear hT hcod hok
  go_enter Tryd.func55, Tryd.ntmps55
  go_wp2_with fail
  go_loopw [8, 9] (fun nd i wx => ∃ (r node : Nat) (k : List (Nat × Bool)), r ≤ many ∧ node < 2 ^ (many - r + 1) ∧ i = .int .i64 ((r : Int) - 1) ∧ nd = .int .i64 (node : Nat) ∧ k.length + r = many ∧ Hid (k ++ treeG n base r node = T) ∧ Hid (CodK wx b0 g N Mo (run s k)) ∧ Hid (Below b0 w wx) ∧ Hid (FrK N g Mo w wx) ∧ N ≤ wx.heap.size) (fun _ i _ => (intOf i + 1).toNat)
  case atStart => exact ⟨many, 1, [], Nat.le_refl _, by rw [Nat.sub_self]; decide, by go_num, rfl, by simp, HT.out.symm, HC, Below.refl _ _, FrK.refl _ _ _ _, hN⟩
  case round =>
    clear HC hN
    obtain ⟨r, node, k, hr, hnd, rfl, rfl, hkl, hk, hcod, hbl, hfr, hNr⟩ := hrel
    have hnode : node < 2048 := Nat.lt_of_lt_of_le hnd (Nat.le_trans (Nat.pow_le_pow_right (by omega) (show many - r + 1 ≤ 11 by omega)) (by decide))
    by_cases hr0 : 0 < r
    · obtain ⟨q, hq⟩ : ∃ q, q = r - 1 := ⟨_, rfl⟩
      have hnode1 : node < 1024 := Nat.lt_of_lt_of_le hnd (Nat.le_trans (Nat.pow_le_pow_right (by omega) (show many - r + 1 ≤ 10 by omega)) (by decide))
      have es : (r : Int) - 1 = (q : Int) := by omega
      rw [es]
      have hs0 : (0 : Int) ≤ (q : Int) := by omega
      have hs10 : (q : Int) ≤ 9 := by omega
      have hnode' : (node : Int) < 2048 := by omega
      have hbq := bit_q n q hn
      obtain ⟨t, ht⟩ : ∃ t, t = n / 2 ^ q % 2 := ⟨_, rfl⟩
      rw [← ht] at hbq
      obtain ⟨bit, hbit⟩ : ∃ b, b = bitAt n q := ⟨_, rfl⟩
      have hbt : ((t : Int) == 1) = bit := by
        rw [hbit, bitAt, ← ht]
        by_cases h1 : t = 1
        · rw [h1]; rfl
        · rw [decide_eq_false h1, beq_eq_false_iff_ne]; omega
      obtain ⟨c, hc⟩ : ∃ c, c = base + node := ⟨_, rfl⟩
      have s1 : (base : Int) + (node : Int) = (c : Int) := by omega
      have hr1 : r - 1 = q := hq.symm
      have HK := hide (show (k ++ [(c, bit)]) ++ treeG n base q (2 * node + bN bit) = T by
        rw [← hk.out, show r = q + 1 by omega, hc, hbit, List.append_assoc]; rfl)
      have HND := hide (show 2 * node + bN bit < 2 ^ (many - q + 1) by
        have := bN_le bit
        rw [show many - q + 1 = (many - r + 1) + 1 by omega, Nat.pow_succ]; omega)
      obtain ⟨ob, hob, hcut⟩ := hcod.out.split
      obtain ⟨z, hz⟩ : ∃ z, z = wr.heap.size := ⟨_, rfl⟩
      have hws := hbl.out.size
      have hal : Below wr.heap.size wr (wr.alloc (.cells #[.int .i64 (c : Int), .bool bit] 70)) := (Below.refl _ wr).alloc (Nat.le_refl _) _
      have SP := hide (imp_putK b0 g c (wr.alloc (.cells #[.int .i64 (c : Int), .bool bit] 70)).heap.size (fun j => ob = some j) bit (run s k) (wr.alloc (.cells #[.int .i64 (c : Int), .bool bit] 70)) (run_ok k s HOK.out) (by have := run_n_le k s; omega) (by omega) hbg (hcut _ hal.block _) (Nat.le_refl _))
      have HA := hide (And.intro hal (And.intro hz hob))
      have HS := hide (And.intro hq (And.intro hr hkl))
      clear ht hbit hc hk hq es hnd hkl hal hz hob hcut
      go_wp2_with fail
      refine SP.out.mono ?_
      obtain ⟨hal, hz, hob⟩ := HA.out
      rintro e w9 ⟨rfl, hc9, hb9, hf9⟩
      have zs : (wr.alloc (.cells #[.int .i64 (c : Int), .bool bit] 70)).heap.size = z + 1 := by simp [hz]
      have q9 : w9.heap[z]? = some (.cells #[.int .i64 (c : Int), .bool bit] 70) := (hf9.2 z (by omega) (by omega) (fun e => by have := (hob z e).2; omega)).trans (by rw [hz]; exact heap_alloc_new wr _)
      have e0 : w9.cell? ⟨z, 0, none⟩ = some (.int .i64 (c : Int)) := by simp [World.cell?, q9]
      have e1 : w9.cell? ⟨z, 1, none⟩ = some (.bool bit) := by simp [World.cell?, q9]
      have C9 := hide (show CodK w9 b0 g N Mo (run s (k ++ [(c, bit)])) by rw [run_snoc]; exact hc9.join (fun j hj => (hob j hj).1) (by omega))
      have F9 := hide (show FrK N g Mo w w9 from hfr.out.trans ((FrK.of_below hal hNr).trans (hf9.join (fun j hj => (hob j hj).1) (by omega))))
      have B9 := hide ((hbl.out.trans (hal.mono (by omega))).trans hb9)
      have hN9 : N ≤ w9.heap.size := by have := hf9.1; omega
      rw [← hz]
      clear HA SP hal hz hob hc9 hb9 hf9 q9 zs hcod hbl hfr
      go_wp2_with fail
      refine (imp_below node bit w9 (by omega)).mono ?_
      rintro e w10 ⟨rfl, rfl⟩
      obtain ⟨nn, hnn⟩ : ∃ nn, nn = 2 * node + bN bit := ⟨_, rfl⟩
      rw [← hnn] at HK HND ⊢
      clear hnn e0 e1
      go_wp2_with fail
      go_roundw
      case rel => exact ⟨q, nn, k ++ [(c, bit)], by have := HS.out; omega, HND.out, by go_num, rfl, by have := HS.out; simp; omega, HK, C9, B9, F9, hN9⟩
      case measure => simp [intOf]
    · have hr1 : r = 0 := by omega
      have hlt : ¬ (0 : Int) ≤ (r : Int) - 1 := by omega
      have e := hk.out
      rw [hr1] at e
      have e2 : k = T := by rw [← e]; simp [treeG]
      have HO := hide (show CodK wr b0 g N Mo (run s T) by rw [← e2]; exact hcod.out)
      clear hcod e e2 hk hr1
      go_wp2_with fail
      go_end0
      exact ⟨rfl, HO.out, hbl.out, hfr.out⟩
end Go.Proofs.YtdoodkabmeojmabDoor
/- The program's putToken and Pack. -/
namespace Go.Proofs.YtdoodkabmeojmabDoor
open Go.RowKit
theorem tokBits_byte (t : Tok) (h : t.f = 0) : tokBits t = (0, false) :: tree t.b.toNat 8 16 := if_pos h
theorem tokBits_match (t : Tok) (h : t.f ≠ 0) : tokBits t = (0, true) :: (tree (t.m - 3).toNat 6 300 ++ tree (t.f - 1).toNat 10 400) := if_neg h
set_option maxRecDepth 100000 in
set_option maxHeartbeats 1600000 in
theorem imp_putToken (b0 g N : Nat) (Mo : Nat → Prop) (s : RC) (t : Tok) (w : World) (ht : tokOk t = true) (hok : RcOk s) (hsn : s.n ≤ 70000) (hbg : b0 ≤ g) (hcod : CodK w b0 g N Mo s) (hN : N ≤ w.heap.size) :
    Calls Tryd.prog 36 #[.pointer (some ⟨g, 0, none⟩), .agg #[.int .i64 t.b, .int .i64 t.m, .int .i64 t.f]] w fun e w' => e = .returned (.tuple #[]) ∧ CodK w' b0 g N Mo (run s (tokBits t)) ∧ Below b0 w w' ∧ FrK N g Mo w w' := by
  have HC := hide hcod
  have HOK := hide hok
  have hgl : g < w.heap.size := by obtain ⟨_, hr, _⟩ := hcod; exact hr.lt
  obtain ⟨z, hz⟩ : ∃ z, z = w.heap.size := ⟨_, rfl⟩
  obtain ⟨ob, hob, hcut⟩ := hcod.split
  have hal : Below w.heap.size w (w.alloc (.cells #[.int .i64 t.b, .int .i64 t.m, .int .i64 t.f] 72)) := (Below.refl _ w).alloc (Nat.le_refl _) _
  have C1 := hide (hcut _ hal.block (z + 1))
  have q1 : (w.alloc (.cells #[.int .i64 t.b, .int .i64 t.m, .int .i64 t.f] 72)).heap[z]? = some (.cells #[.int .i64 t.b, .int .i64 t.m, .int .i64 t.f] 72) := by rw [hz]; exact heap_alloc_new w _
  have s1 : (w.alloc (.cells #[.int .i64 t.b, .int .i64 t.m, .int .i64 t.f] 72)).heap.size = z + 1 := by simp [hz]
  have F1 := hide (FrK.of_below (g := g) (Mo := Mo) hal hN)
  have B1 := hide (hal.mono (show b0 ≤ w.heap.size by omega))
  have HOB := hide hob
  have HZ := hide hz
  have hgz : g < z := by omega
  have hNz : N ≤ z := by omega
  have htwo := tokOk_two t ht
  obtain ⟨tb, tm, tf⟩ := t
  simp only at htwo C1 q1 s1 F1 B1
  have HF := hide (show ∀ (W W' : World), FrK (z + 1) g (fun k => ob = some k) W W' → W'.heap[z]? = W.heap[z]? from fun W W' h => h.2 z (by omega) (by omega) (fun e => by have := (HOB.out z e).2; omega))
  have HJ := hide (show ∀ (W W' : World), FrK (z + 1) g (fun k => ob = some k) W W' → FrK N g Mo W W' from fun W W' h => h.join (fun j hj => (HOB.out j hj).1) (by omega))
  clear hob hcut hal hcod hok hz
  by_cases hf0 : tf = 0
  · subst hf0
    obtain ⟨hb1, hb2⟩ : 0 ≤ tb ∧ tb ≤ 255 := by rcases htwo with h | h; exact h.2; exact absurd rfl h.1
    have hm0 : tm = 0 := by
      by_cases h0 : tm = 0
      · exact h0
      · have h := ht
        unfold tokOk at h
        rw [if_neg (fun h => h0 h.1)] at h
        have := of_decide_eq_true h
        have h1 : (1 : Int) ≤ 0 := this.2.2.2.1
        omega
    subst hm0
    obtain ⟨n, rfl⟩ : ∃ n : Nat, tb = (n : Int) := ⟨tb.toNat, by omega⟩
    have wb : IntKind.u8.wrap (n : Int) = (n : Int) := by rw [IntKind.wrap_u8]; omega
    have HT := hide (show tokBits ⟨(n : Int), 0, 0⟩ = (0, false) :: tree n 8 16 from by rw [tokBits_byte _ rfl]; rfl)
    have SI := hide (show ∀ u : World, Calls Tryd.prog 48 #[.agg #[.int .i64 (n : Int), .int .i64 0, .int .i64 0]] u (fun e w' => e = .returned (.bool false) ∧ Below u.heap.size u w') from fun u => by
      have h := imp_isMatch (n : Int) 0 0 u
      rw [show ((0 : Int) != 0) = false from rfl] at h
      exact h)
    have HQ := hide q1
    clear q1 htwo ht
    go_enter Tryd.func36, Tryd.ntmps36
    go_wp2_with fail
    refine (SI.out _).mono ?_
    rw [← HZ.out]
    generalize w.alloc (.cells #[.int .i64 (n : Int), .int .i64 0, .int .i64 0] 72) = W1 at *
    rintro e w2 ⟨rfl, hb2⟩
    have hs2 := hb2.size
    have C2 := C1.out.keep hb2.block
    have q2 := (hb2.block z (by omega)).trans HQ.out
    have SP := hide (imp_putK b0 g 0 (z + 1) (fun k => ob = some k) false s w2 HOK.out (by omega) (by omega) hbg C2 (by omega))
    have F2 := hide (FrK.of_below (g := g) (Mo := Mo) hb2 (show N ≤ W1.heap.size by omega))
    have B2 := hide (B1.out.trans (hb2.mono (show b0 ≤ W1.heap.size by omega)))
    have HQ2 := hide q2
    clear hb2 C2 q2 C1 HQ B1
    go_wp2_with fail
    refine SP.out.mono ?_
    rintro e w3 ⟨rfl, C3, hb3, hf3⟩
    have hs3 := hb3.size
    have q3 := (HF.out _ _ hf3).trans HQ2.out
    have F3 := hide ((F1.out.trans F2.out).trans (HJ.out _ _ hf3))
    have B3 := hide (B2.out.trans hb3)
    have HC3 := hide C3
    have HQ3 := hide q3
    have e0 : w3.cell? ⟨z, 0, none⟩ = some (.int .i64 (n : Int)) := by simp [World.cell?, q3]
    have e1 : w3.cell? ⟨z, 1, none⟩ = some (.int .i64 0) := by simp [World.cell?, q3]
    have e2 : w3.cell? ⟨z, 2, none⟩ = some (.int .i64 0) := by simp [World.cell?, q3]
    clear C3 hb3 hf3 q3 SP B2 F1 F2 HQ2
    go_wp2_with fail
    refine (SI.out _).mono ?_
    rintro e w4 ⟨rfl, hb4⟩
    have hs4 := hb4.size
    have C4 := HC3.out.keep hb4.block
    have q4 := (hb4.block z (by omega)).trans HQ3.out
    have f0 : w4.cell? ⟨z, 0, none⟩ = some (.int .i64 (n : Int)) := by simp [World.cell?, q4]
    have f1 : w4.cell? ⟨z, 1, none⟩ = some (.int .i64 0) := by simp [World.cell?, q4]
    have f2 : w4.cell? ⟨z, 2, none⟩ = some (.int .i64 0) := by simp [World.cell?, q4]
    have F4 := hide (F3.out.trans (FrK.of_below (g := g) (Mo := Mo) hb4 (show N ≤ w3.heap.size by omega)))
    have B4 := hide (B3.out.trans (hb4.mono (show b0 ≤ w3.heap.size by omega)))
    have OK1 := step_ok s 0 false HOK.out
    have ns0 := run_n_le [(0, false)] s
    have ns1 : (step s 0 false).n ≤ s.n + 1 := ns0
    clear ns0
    have HQ4 := hide q4
    have SL := hide (imp_lay8 b0 g n 8 16 (z + 1) (fun k => ob = some k) (step s 0 false) w4 (by omega) (by omega) (by omega) OK1 (by omega) hbg C4 (by omega))
    clear hb4 C4 q4 e0 e1 e2 HC3 HQ3 F3 B3 OK1 ns1 SI
    go_wp2_with fail
    refine SL.out.mono ?_
    rintro e w5 ⟨rfl, C5, hb5, hf5⟩
    have R1 := hide (show CodK w5 b0 g N Mo (run s (tokBits ⟨(n : Int), 0, 0⟩)) by rw [HT.out]; exact C5.join (fun j hj => (HOB.out j hj).1) (by omega))
    have R2 := hide (B4.out.trans hb5)
    have R3 := hide (F4.out.trans (HJ.out _ _ hf5))
    clear C5 hb5 hf5 SL f0 f1 f2
    go_wp2_with fail
    exact bodyPost_ret (v := .tuple #[]) (by simp [results, Tryd.results36]) rfl ⟨rfl, R1.out, R2.out, R3.out⟩
  · obtain ⟨hm1, hm2, hf1, hf2⟩ : 3 ≤ tm ∧ tm ≤ 66 ∧ 1 ≤ tf ∧ tf ≤ 1024 := by rcases htwo with h | h; exact absurd h.1 hf0; exact h.2
    have hb0 : tb = 0 := by
      have h := ht
      unfold tokOk at h
      rw [if_neg (fun h => hf0 h.2)] at h
      exact (of_decide_eq_true h).1
    subst hb0
    obtain ⟨M, hM⟩ : ∃ M : Nat, M = (tm - 3).toNat := ⟨_, rfl⟩
    obtain ⟨Fa, hFa⟩ : ∃ Fa : Nat, Fa = (tf - 1).toNat := ⟨_, rfl⟩
    have HT := hide (show tokBits ⟨0, tm, tf⟩ = ((0, true) :: tree M 6 300) ++ tree Fa 10 400 from by rw [tokBits_match _ hf0, hM, hFa]; rfl)
    have hM2 : (M : Int) = tm - 3 := by omega
    have hF2 : (Fa : Int) = tf - 1 := by omega
    have hMn : M ≤ 63 := by omega
    have hFn : Fa ≤ 1023 := by omega
    clear hM hFa
    have SI := hide (show ∀ u : World, Calls Tryd.prog 48 #[.agg #[.int .i64 0, .int .i64 tm, .int .i64 tf]] u (fun e w' => e = .returned (.bool true) ∧ Below u.heap.size u w') from fun u => by
      have h := imp_isMatch 0 tm tf u
      rw [show ((tm : Int) != 0) = true from by simp; omega] at h
      exact h)
    have HQ := hide q1
    clear q1 htwo ht
    go_enter Tryd.func36, Tryd.ntmps36
    go_wp2_with fail
    refine (SI.out _).mono ?_
    rw [← HZ.out]
    generalize w.alloc (.cells #[.int .i64 0, .int .i64 tm, .int .i64 tf] 72) = W1 at *
    rintro e w2 ⟨rfl, hb2⟩
    have hs2 := hb2.size
    have C2 := C1.out.keep hb2.block
    have q2 := (hb2.block z (by omega)).trans HQ.out
    have SP := hide (imp_putK b0 g 0 (z + 1) (fun k => ob = some k) true s w2 HOK.out (by omega) (by omega) hbg C2 (by omega))
    have F2 := hide (FrK.of_below (g := g) (Mo := Mo) hb2 (show N ≤ W1.heap.size by omega))
    have B2 := hide (B1.out.trans (hb2.mono (show b0 ≤ W1.heap.size by omega)))
    have HQ2 := hide q2
    clear hb2 C2 q2 C1 HQ B1
    go_wp2_with fail
    refine SP.out.mono ?_
    rintro e w3 ⟨rfl, C3, hb3, hf3⟩
    have hs3 := hb3.size
    have q3 := (HF.out _ _ hf3).trans HQ2.out
    have F3 := hide ((F1.out.trans F2.out).trans (HJ.out _ _ hf3))
    have B3 := hide (B2.out.trans hb3)
    have HC3 := hide C3
    have HQ3 := hide q3
    have e0 : w3.cell? ⟨z, 0, none⟩ = some (.int .i64 0) := by simp [World.cell?, q3]
    have e1 : w3.cell? ⟨z, 1, none⟩ = some (.int .i64 tm) := by simp [World.cell?, q3]
    have e2 : w3.cell? ⟨z, 2, none⟩ = some (.int .i64 tf) := by simp [World.cell?, q3]
    clear C3 hb3 hf3 q3 SP B2 F1 F2 HQ2
    go_wp2_with fail
    refine (SI.out _).mono ?_
    rintro e w4 ⟨rfl, hb4⟩
    have hs4 := hb4.size
    have C4 := HC3.out.keep hb4.block
    have q4 := (hb4.block z (by omega)).trans HQ3.out
    have f0 : w4.cell? ⟨z, 0, none⟩ = some (.int .i64 0) := by simp [World.cell?, q4]
    have f1 : w4.cell? ⟨z, 1, none⟩ = some (.int .i64 tm) := by simp [World.cell?, q4]
    have f2 : w4.cell? ⟨z, 2, none⟩ = some (.int .i64 tf) := by simp [World.cell?, q4]
    have F4 := hide (F3.out.trans (FrK.of_below (g := g) (Mo := Mo) hb4 (show N ≤ w3.heap.size by omega)))
    have B4 := hide (B3.out.trans (hb4.mono (show b0 ≤ w3.heap.size by omega)))
    have OK1 := step_ok s 0 true HOK.out
    have ns0 := run_n_le [(0, true)] s
    have ns1 : (step s 0 true).n ≤ s.n + 1 := ns0
    clear ns0
    have HQ4 := hide q4
    have m1 : tm - 3 = ((M : Nat) : Int) := by omega
    have m2 : IntKind.i64.wrap (tm - 3) = ((M : Nat) : Int) := by rw [IntKind.wrap_i64]; omega
    have g1 : tf - 1 = ((Fa : Nat) : Int) := by omega
    have g2 : IntKind.i64.wrap (tf - 1) = ((Fa : Nat) : Int) := by rw [IntKind.wrap_i64]; omega
    have SL := hide (imp_lay64 b0 g M 6 300 (z + 1) (fun k => ob = some k) (step s 0 true) w4 (by omega) (by omega) (by omega) OK1 (by omega) hbg C4 (by omega))
    have HG := hide (And.intro OK1 (And.intro ns1 (And.intro g1 g2)))
    clear hM2 hF2 hb4 C4 q4 e0 e1 e2 HC3 HQ3 F3 B3 OK1 ns1 SI g1 g2
    go_wp2_with fail
    refine SL.out.mono ?_
    rintro e w5 ⟨rfl, C5, hb5, hf5⟩
    have hs5 := hb5.size
    have q5 := (HF.out _ _ hf5).trans HQ4.out
    obtain ⟨OK1, ns1, g1, g2⟩ := HG.out
    have h0 : w5.cell? ⟨z, 0, none⟩ = some (.int .i64 0) := by simp [World.cell?, q5]
    have h1 : w5.cell? ⟨z, 1, none⟩ = some (.int .i64 tm) := by simp [World.cell?, q5]
    have h2 : w5.cell? ⟨z, 2, none⟩ = some (.int .i64 tf) := by simp [World.cell?, q5]
    have F5 := hide (F4.out.trans (HJ.out _ _ hf5))
    have B5 := hide (B4.out.trans hb5)
    have ns2 := run_n_le (tree M 6 300) (step s 0 true)
    have tl : (tree M 6 300).length = 6 := treeG_len _ _ _ _
    have SL2 := hide (imp_lay64 b0 g Fa 10 400 (z + 1) (fun k => ob = some k) (run (step s 0 true) (tree M 6 300)) w5 (by omega) (by omega) (by omega) (run_ok _ _ OK1) (by omega) hbg C5 (by omega))
    clear C5 hb5 hf5 SL f0 f1 f2 m1 m2 q5 OK1 ns1 ns2 tl
    go_wp2_with fail
    refine SL2.out.mono ?_
    rintro e w6 ⟨rfl, C6, hb6, hf6⟩
    have R1 := hide (show CodK w6 b0 g N Mo (run s (tokBits ⟨0, tm, tf⟩)) by rw [HT.out, run_app]; exact C6.join (fun j hj => (HOB.out j hj).1) (by omega))
    have R2 := hide (B5.out.trans hb6)
    have R3 := hide (F5.out.trans (HJ.out _ _ hf6))
    clear C6 hb6 hf6 SL2 h0 h1 h2 g1 g2
    go_wp2_with fail
    go_end0
    exact ⟨rfl, R1.out, R2.out, R3.out⟩
end Go.Proofs.YtdoodkabmeojmabDoor
/- The program's keys: three bytes are a key of its map. -/
namespace Go.Proofs.YtdoodkabmeojmabDoor
open Go Go.RowKit
open Go.WideMaps (KeyLaw)
theorem Tryd.laidOutP : laidOutB Tryd.prog = true := by kernel_rfl
theorem Tryd.wideO : (match Tryd.prog.underlying 138 with | some (.array _ _) | some (.struct _) => true | _ => false) = true := by rw [Tryd.underlying138]
set_option maxRecDepth 100000 in
theorem Tryd.lawO : KeyLaw Tryd.prog 138 := deep_law_laid Tryd.laidOutP (m := 2) (by omega) (of_decide_eq_true (by kernel_rfl)) (by kernel_rfl) Tryd.wideO
theorem Tryd.zeroO (w : World) : (zeroValue 145).run Tryd.prog w = .ok (.slice none 0 0) w := by kernel_rfl
theorem Tryd.cellsO : Tryd.prog.cellsOf 138 = 3 := by kernel_rfl
theorem Tryd.cellsU : Tryd.prog.cellsOf 5 = 1 := by kernel_rfl
theorem Tryd.keyTypeO : Tryd.prog.keyType 138 = true := by kernel_rfl
theorem Tryd.typesO : Tryd.prog.types.size + 1 = (180 - 1) + 1 + 1 := by kernel_rfl
theorem Tryd.keyO (f : Nat → UInt8) : ∃ l, keyOf Tryd.prog 138 (kV f) = some l := by
  have e : kV f = .agg #[.int .u8 ((f 0).toNat : Int), .int .u8 ((f 1).toNat : Int), .int .u8 ((f 2).toNat : Int)] := by
    simp [kV, bL, u8V, List.range_succ]
  rw [e]
  have wf : ∀ b : UInt8, (Lit.int .u8 (b.toNat : Int)).wf = true := fun b => by have := b.toNat_lt; have h1 : IntKind.u8.min = 0 := rfl; have h2 : IntKind.u8.max = 255 := rfl; simp [Lit.wf, h1, h2]; omega
  refine ⟨.string (keyBytes [.int .u8 ((f 0).toNat : Int), .int .u8 ((f 1).toNat : Int), .int .u8 ((f 2).toNat : Int)]), ?_⟩
  unfold keyOf
  simp only [Tryd.underlying138]
  rw [if_pos (by simp [Tryd.keyTypeO, Value.formed, Tryd.underlying138, Tryd.cellsO]), Tryd.typesO]
  unfold Program.keyLits
  simp only [Tryd.underlying138, Value.cells]
  rw [if_pos (by rw [Tryd.cellsO]; rfl), show List.range 3 = [0, 1, 2] from rfl, List.mapM_cons, List.mapM_cons, List.mapM_cons, List.mapM_nil]
  simp [Tryd.cellsU, Program.keyLits, Tryd.underlying5, wf]
end Go.Proofs.YtdoodkabmeojmabDoor
/- The program's past: newPast, cut, alike walked. -/
namespace Go.Proofs.YtdoodkabmeojmabDoor
open Go Go.RowKit
/-- What a *past lies as: the block p holds the text's bytes (T, N of them, in block tb) and the map's block mb. -/
structure Pst (w : World) (p tb mb N cap : Nat) (T : Nat → UInt8) : Prop where
  c0 : w.cell? ⟨p, 0, none⟩ = some (.slice (some ⟨tb, 0, none⟩) N cap)
  c1 : w.cell? ⟨p, 1, none⟩ = some (.map (some mb))
  row : rowC w tb N T
  cap : N ≤ cap
  lt : p < w.heap.size
theorem Pst.of_blocks {w w' : World} {p tb mb N cap : Nat} {T : Nat → UInt8} (h : Pst w p tb mb N cap T) (hs : w.heap.size ≤ w'.heap.size) (hp : w'.heap[p]? = w.heap[p]?) (ht : w'.heap[tb]? = w.heap[tb]?) : Pst w' p tb mb N cap T :=
  ⟨(World.cell?_of_block (w := w) (a := ⟨p, 0, none⟩) hp).trans h.c0, (World.cell?_of_block (w := w) (a := ⟨p, 1, none⟩) hp).trans h.c1, h.row.of_block (Nat.lt_of_lt_of_le h.row.1 hs) ht, h.cap, Nat.lt_of_lt_of_le h.lt hs⟩
theorem Pst.below {w w' : World} {p tb mb N cap : Nat} {T : Nat → UInt8} (h : Pst w p tb mb N cap T) (hb : Below w.heap.size w w') : Pst w' p tb mb N cap T :=
  h.of_blocks hb.size (hb.block p h.lt) (hb.block tb h.row.1)
theorem Pst.alloc {w : World} {p tb mb N cap : Nat} {T : Nat → UInt8} (h : Pst w p tb mb N cap T) (o : Obj) : Pst (w.alloc o) p tb mb N cap T := h.below ((Below.refl _ _).alloc (Nat.le_refl _) _)
theorem Pst.drew {w : World} {p tb mb N cap : Nat} {T : Nat → UInt8} (h : Pst w p tb mb N cap T) : Pst w.drew p tb mb N cap T := ⟨h.c0, h.c1, h.row.drew, h.cap, h.lt⟩
set_option maxRecDepth 100000 in
set_option maxHeartbeats 800000 in
theorem imp_newPast (t : ByteArray) (w : World) :
    Calls Tryd.prog 50 #[.string t] w fun e w' => ∃ cap, e = .returned (.pointer (some ⟨w.heap.size + 2, 0, none⟩)) ∧ Pst w' (w.heap.size + 2) w.heap.size (w.heap.size + 1) t.size cap (bF t) ∧ w'.heap[w.heap.size + 1]? = some (.map #[] 0) ∧ w'.heap.size = w.heap.size + 3 ∧ Below w.heap.size w w' := by
  have hcv := fun (w : World) => run_bytes_of_string (P := Tryd.prog) w 9 42 5 t Tryd.underlying9 Tryd.underlying42 Tryd.underlying5
  have hmm := @run_makeMap Tryd.prog
  have hcap := grownCap_ge w t.size 0 5
  have hrow0 := hasRow.of_text w w.heap.size 5 (grownCap w t.size 0 5) t hcap (Nat.le_refl _)
  have hbl0 := hide ((Below.refl w.heap.size w).alloc (Nat.le_refl _) (.cells (bytesRow t (grownCap w t.size 0 5)) 5 ((bytesRow t (grownCap w t.size 0 5)).size, (bytesRow t (grownCap w t.size 0 5)).size + 1)))
  have HR0 := hide (rowC.of_text hrow0 (bF_at t t.size rfl))
  have HC := hide hcap
  clear hrow0 hcap
  go_enter Tryd.func50, Tryd.ntmps50
  go_wp2_with fail
  go_ret
  generalize hW : (w.alloc (.cells (bytesRow t (grownCap w t.size 0 5)) 5 ((bytesRow t (grownCap w t.size 0 5)).size, (bytesRow t (grownCap w t.size 0 5)).size + 1))) = W at *
  have hWs : W.heap.size = w.heap.size + 1 := by rw [← hW]; simp
  refine ⟨_, rfl, ⟨?_, ?_, ?_, HC.out, by simp [hWs]⟩, ?_, by simp [hWs], ((hbl0.out.alloc hbl0.out.size _).alloc (by simp; have := hbl0.out.size; omega) _).drew⟩
  · have e : w.heap.size + 2 = (W.alloc (.map #[] 0)).heap.size := by simp [hWs]
    rw [e, World.cell?_drew]; simp
  · have e : w.heap.size + 2 = (W.alloc (.map #[] 0)).heap.size := by simp [hWs]
    rw [e, World.cell?_drew]; simp
  · exact ((HR0.out.alloc _).alloc _).drew
  · show ((W.alloc (.map #[] 0)).alloc _).heap[w.heap.size + 1]? = _
    rw [Below.heap_alloc _ _ _ (by simp [hWs])]
    rw [← hWs]; exact heap_alloc_new W _
set_option maxRecDepth 100000 in
set_option maxHeartbeats 800000 in
theorem imp_cut (p tb mb N cap fr many : Nat) (T : Nat → UInt8) (w : World) (h : Pst w p tb mb N cap T) (hN : N ≤ 4000) (hm1 : 1 ≤ many) (hm : fr + many ≤ N) :
    Calls Tryd.prog 64 #[.pointer (some ⟨p, 0, none⟩), .int .i64 (fr : Int), .int .i64 (many : Int)] w fun e w' => e = .returned (.slice (some ⟨tb, fr, none⟩) many many) ∧ w' = w := by
  have c0 := h.c0
  have hcap := h.cap
  obtain ⟨q, hq⟩ : ∃ q, q = fr + many := ⟨_, rfl⟩
  have s1 : (fr : Int) + (many : Int) = (q : Int) := by omega
  have s1w : IntKind.i64.wrap ((fr : Int) + (many : Int)) = (q : Int) := by simp only [IntKind.wrap_i64]; omega
  have h1 : (fr : Int) ≤ (q : Int) := by omega
  have h2 : (q : Int) ≤ (cap : Int) := by omega
  have h3 : q - fr = many := by omega
  have hq4 : (q : Int) ≤ 4000 := by omega
  have hm0 : many ≠ 0 := by omega
  clear h hm hq
  go_enter Tryd.func64, Tryd.ntmps64
  go_wp2_with fail
  go_ret
  exact ⟨rfl, rfl⟩
/-- How many bytes are alike, m at most. -/
def alikeG (A B : Nat → UInt8) : Nat → Nat → Nat
  | 0, n => n
  | k + 1, n => if B n = A n then alikeG A B k (n + 1) else n
set_option maxRecDepth 100000 in
set_option maxHeartbeats 800000 in
theorem imp_alike (tb a b m N : Nat) (T : Nat → UInt8) (w : World) (h : rowC w tb N T) (ha : a + m ≤ N) (hb : b + m ≤ N) (hN : N ≤ 4000) :
    Calls Tryd.prog 66 #[.slice (some ⟨tb, a, none⟩) m m, .slice (some ⟨tb, b, none⟩) m m] w fun e w' => e = .returned (.int .i64 (alikeG (fun j => T (a + j)) (fun j => T (b + j)) m 0 : Nat)) ∧ w' = w := by
  go_enter Tryd.func66, Tryd.ntmps66
  go_wp2_with fail
  go_loopw [9] (fun i wx => ∃ k : Nat, k ≤ m ∧ i = .int .i64 (k : Int) ∧ Hid (alikeG (fun j => T (a + j)) (fun j => T (b + j)) (m - k) k = alikeG (fun j => T (a + j)) (fun j => T (b + j)) m 0) ∧ wx = w) (fun i _ => m - (intOf i).toNat)
  case atStart => exact ⟨0, by omega, rfl, rfl, rfl⟩
  case round =>
    obtain ⟨k, hk, rfl, hl, rfl⟩ := hrel
    by_cases hlt : k < m
    · have hlt' : (k : Int) < (m : Int) := by omega
      have c1 := (h.2 (a + k) (by omega)).1
      have c2 := (h.2 (b + k) (by omega)).1
      have hm4 : (m : Int) ≤ 4000 := by omega
      by_cases he : T (b + k) = T (a + k)
      · have hd : (((T (b + k)).toNat : Int) != ((T (a + k)).toNat : Int)) = false := by rw [he]; simp
        have HL := hide (show alikeG (fun j => T (a + j)) (fun j => T (b + j)) (m - (k + 1)) (k + 1) = alikeG (fun j => T (a + j)) (fun j => T (b + j)) m 0 by
          rw [← hl.out, show m - k = (m - (k + 1)) + 1 by omega]
          show _ = if T (b + k) = T (a + k) then _ else _
          rw [if_pos he])
        clear he hl
        go_wp2_with fail
        go_roundw
        case rel => exact ⟨k + 1, by omega, by go_num, HL, trivial⟩
        case measure => simp [intOf]; omega
      · have hd : (((T (b + k)).toNat : Int) != ((T (a + k)).toNat : Int)) = true := by
          simp only [bne_iff_ne, ne_eq, Int.natCast_inj]
          exact fun e => he (UInt8.toNat_inj.1 e)
        have HL := hide (show alikeG (fun j => T (a + j)) (fun j => T (b + j)) m 0 = k by
          rw [← hl.out, show m - k = (m - (k + 1)) + 1 by omega]
          show (if T (b + k) = T (a + k) then _ else _) = _
          rw [if_neg he])
        clear he hl
        go_wp2_with fail
        go_ret
        exact ⟨by rw [HL.out]; rfl, rfl⟩
    · have hlt' : ¬ (k : Int) < (m : Int) := by omega
      have hm4 : (m : Int) ≤ 4000 := by omega
      have HL := hide (show alikeG (fun j => T (a + j)) (fun j => T (b + j)) m 0 = m by
        rw [← hl.out, show k = m by omega, Nat.sub_self]
        rfl)
      clear hl
      go_wp2_with fail
      go_ret
      exact ⟨by rw [HL.out]; rfl, rfl⟩
end Go.Proofs.YtdoodkabmeojmabDoor
/- The program's past: openingAt walked. -/
namespace Go.Proofs.YtdoodkabmeojmabDoor
open Go Go.RowKit
theorem Tryd.size3 : (Tryd.prog.info? 138).map (·.size) = some 3 := by kernel_rfl
theorem ret_BT {P : Program} {fn : Func} {p u : Tmp} {ty : TypeId} (h : fn.results = #[.cell p ty, .tmp u]) (tmps : Array Value) (w : World) (g n : Nat) (t : TypeId) (k : Nat → UInt8) (d : TypeDesc)
    (hp : tmps.getD p undef = .pointer (some ⟨g, 0, none⟩)) (hrow : w.rowIs g t n (u8V k)) (hu : P.underlying ty = some d) (hd : d.isRow = true) (hi : (P.info? ty).map (·.size) = some n) :
    (results fn tmps).run P w = .ok (.tuple #[.agg (bL n k).toArray, tmps.getD u undef]) w := by
  rw [results_cell_tmp h, hp]
  simp [asAddr, run_loadVar_row w g t ty _ (0, 0) d (row_heap hrow) hu (by cases d <;> simp_all) (by rw [bL_size]; exact hi), Result.andThen]
/-- The opening at a place: what lies there, as far as the text goes. -/
def opF (T : Nat → UInt8) (N here j : Nat) : UInt8 := if here + j < N then T (here + j) else 0
set_option maxRecDepth 100000 in
set_option maxHeartbeats 800000 in
theorem imp_openingAt (p tb mb N cap here : Nat) (T : Nat → UInt8) (w : World) (h : Pst w p tb mb N cap T) (hN : N ≤ 4000) (hh : here < N) (ok : Bool) (hok : ok = decide (here + 3 ≤ N)) :
    Calls Tryd.prog 63 #[.pointer (some ⟨p, 0, none⟩), .int .i64 (here : Int)] w fun e w' => e = .returned (.tuple #[.agg (bL 3 (opF T N here)).toArray, .bool ok]) ∧ Below w.heap.size w w' := by
  obtain ⟨m, hm⟩ : ∃ m, m = Nat.min (N - here) 3 := ⟨_, rfl⟩
  have hm3 : m ≤ 3 := by rw [hm]; exact Nat.min_le_right _ _
  have hmN : m ≤ N - here := by rw [hm]; exact Nat.min_le_left _ _
  have hmc : m = 3 ∨ m = N - here := by rw [hm]; show (if N - here ≤ 3 then N - here else 3) = 3 ∨ (if N - here ≤ 3 then N - here else 3) = N - here; split <;> omega
  have hmk : ((m : Int) == 3) = ok := by
    rw [hok]
    by_cases e : here + 3 ≤ N
    · rw [decide_eq_true e]
      have : m = 3 := by omega
      rw [this]; rfl
    · rw [decide_eq_false e, beq_eq_false_iff_ne]
      omega
  have h0 : w.heap.size < w.heap.size + 1 := Nat.lt_succ_self _
  obtain ⟨W, hW⟩ : ∃ W, W = (w.alloc (.cells #[.int .u8 0, .int .u8 0, .int .u8 0] 138)).alloc (.cells #[.int .u8 0, .int .u8 0, .int .u8 0] 138) := ⟨_, rfl⟩
  have r4 : W.rowIs w.heap.size 138 3 (u8V fun _ => 0) := by rw [hW]; exact (zeros8_row 3 w _ _ rfl).alloc _
  have r6 : W.rowIs (w.heap.size + 1) 138 3 (u8V fun _ => 0) := by
    have := zeros8_row 3 (w.alloc (.cells #[.int .u8 0, .int .u8 0, .int .u8 0] 138)) #[.int .u8 0, .int .u8 0, .int .u8 0] 138 rfl
    rw [hW]; simpa using this
  have HP := h
  have hP : Pst W p tb mb N cap T := by rw [hW]; exact (h.alloc _).alloc _
  have hB : Below w.heap.size w W := by rw [hW]; exact ((Below.refl _ w).alloc (Nat.le_refl _) _).alloc (by simp) _
  have hcap := h.cap
  have hhc : (here : Int) ≤ (N : Int) := by omega
  have htb : tb < w.heap.size := h.row.1
  have hpl : p < w.heap.size := h.lt
  clear h hok HP
  go_enter Tryd.func63, Tryd.ntmps63
  go_wp2_with fail
  rw [← hW]
  clear hW
  have c0 : W.drew.cell? ⟨p, 0, none⟩ = some (.slice (some ⟨tb, 0, none⟩) N cap) := hP.c0
  have hne : here < cap := by omega
  have hmin := hide (show m = Nat.min (N - here) 3 from hm)
  have hrg : W.drew.rangeAt tb here (bL m (fun j => T (here + j))) := by
    intro j v hv
    have hj : j < m := by
      rcases Nat.lt_or_ge j m with h | h
      · exact h
      · rw [List.getElem?_eq_none (by rw [bL_len]; exact h)] at hv; cases hv
    have e : (bL m (fun j => T (here + j)))[j]? = some (u8V (fun j => T (here + j)) j) := by simp [bL, hj]
    rw [e] at hv
    rw [← Option.some.inj hv]
    exact (hP.row.drew.2 (here + j) (by omega)).1
  have hth := row_there (w := W.drew) (o := 0) (n := m) r6 (by omega)
  have hnc : cap - here ≠ 0 := by omega
  have c0' : (W.drew.setCells (w.heap.size + 1) 0 (bL m (fun j => T (here + j)))).cell? ⟨p, 0, none⟩ = some (.slice (some ⟨tb, 0, none⟩) N cap) :=
    (World.cell?_of_block (w := W.drew) (a := ⟨p, 0, none⟩) (setCells_far (w.heap.size + 1) _ 0 W.drew p (by omega))).trans c0
  clear hm
  refine wp_region_held_drew (S := fun w' => w'.cell? ⟨p, 0, none⟩ = some (.slice (some ⟨tb, 0, none⟩) N cap)) (by kernel_rfl) c0 (fun hHeld => ?_)
  refine takeD (i := 0) (v := .slice (some ⟨w.heap.size + 1, 0, none⟩) 3 3) (some 8) rfl rfl (by kernel_rfl) (by kernel_rfl) (by kernel_rfl) (fun _ _ _ h => h) (Or.inl ⟨by rfl, fun w hSw => by go_simp⟩) hHeld ?_
  simp only [Act.put, List.setIfInBounds_toArray, List.set_cons_zero, List.set_cons_succ]
  refine takeD (i := 1) (v := .pointer (some ⟨p, 0, none⟩)) (some 9) rfl rfl (by kernel_rfl) (by kernel_rfl) (by kernel_rfl) (fun _ _ _ h => h) (Or.inl ⟨by rfl, fun w hSw => by go_simp⟩) hHeld ?_
  simp only [Act.put, List.setIfInBounds_toArray, List.set_cons_zero, List.set_cons_succ]
  refine takeD (i := 2) (v := .pointer (some ⟨p, 0, none⟩)) (some 10) rfl rfl (by kernel_rfl) (by kernel_rfl) (by kernel_rfl) (fun _ _ _ h => h) (Or.inl ⟨by rfl, fun w hSw => by go_simp⟩) hHeld ?_
  simp only [Act.put, List.setIfInBounds_toArray, List.set_cons_zero, List.set_cons_succ]
  refine takeD (i := 3) (v := .pointer (some ⟨p, 0, none⟩)) (some 11) rfl rfl (by kernel_rfl) (by kernel_rfl) (by kernel_rfl) (fun _ _ _ h => h) (Or.inl ⟨by rfl, fun w hSw => by go_simp⟩) hHeld ?_
  simp only [Act.put, List.setIfInBounds_toArray, List.set_cons_zero, List.set_cons_succ]
  refine takeD (i := 4) (v := .slice (some ⟨tb, 0, none⟩) N cap) (some 12) rfl rfl (by kernel_rfl) (by kernel_rfl) (by kernel_rfl) (fun _ _ _ h => h) (Or.inl ⟨by rfl, fun w hSw => by go_simp⟩) hHeld ?_
  simp only [Act.put, List.setIfInBounds_toArray, List.set_cons_zero, List.set_cons_succ]
  refine takeD (i := 5) (v := .int .i64 (here : Int)) (some 13) rfl rfl (by kernel_rfl) (by kernel_rfl) (by kernel_rfl) (fun _ _ _ h => h) (Or.inl ⟨by rfl, fun w hSw => by go_simp⟩) hHeld ?_
  simp only [Act.put, List.setIfInBounds_toArray, List.set_cons_zero, List.set_cons_succ]
  refine takeD (i := 6) (v := .slice (some ⟨tb, here, none⟩) (N - here) (cap - here)) (some 14) rfl rfl (by kernel_rfl) (by kernel_rfl) (by kernel_rfl) (fun _ _ _ h => h) (Or.inl ⟨by rfl, fun w hSw => by go_simp; omega⟩) hHeld ?_
  simp only [Act.put, List.setIfInBounds_toArray, List.set_cons_zero, List.set_cons_succ]
  refine wpAnyH_ready (rs := [7]) (by kernel_rfl) (by simp) ?_
  refine AllReadyH.cons rfl (fun KK hK => ?_) AllReadyH.nil
  refine step_copy_BD (some 15) rfl rfl (.tmp 8) (.tmp 14) 42 42 rfl 5 Tryd.underlying42 (by kernel_rfl) (w.heap.size + 1) 0 3 3 tb here (N - here) (cap - here) rfl rfl m (fun j => T (here + j)) hmin.out hrg hth ?_
  simp only [Act.put, List.setIfInBounds_toArray, List.set_cons_zero, List.set_cons_succ]
  refine hK.out _ _ c0' (fun hHeld => ?_)
  clear hK KK
  refine takeD (i := 8) (v := goInt m) (some 7) rfl rfl (by kernel_rfl) (by kernel_rfl) (by kernel_rfl) (fun _ _ _ h => h) (Or.inl ⟨by rfl, fun w hSw => by go_simp⟩) hHeld ?_
  simp only [Act.put, List.setIfInBounds_toArray, List.set_cons_zero, List.set_cons_succ]
  refine wpAnyH_done (by kernel_rfl) ?_ _
  have s4 := row_setCells_other (b := w.heap.size + 1) (o := 0) (vs := bL m (fun j => T (here + j))) r4.drew (by omega)
  have s6 := (row_setCells (o := 0) (n := m) (k := fun j => T (here + j)) r6.drew (by omega)).congr (g := u8V (opF T N here)) (fun i hi => by
    show Value.int .u8 _ = Value.int .u8 _
    congr 3
    show (if 0 ≤ i ∧ i < 0 + m then T (here + (i - 0)) else 0) = if here + i < N then T (here + i) else 0
    by_cases e : i < m
    · rw [if_pos (show 0 ≤ i ∧ i < 0 + m by omega), if_pos (show here + i < N by omega), Nat.sub_zero]
    · rw [if_neg (show ¬ (0 ≤ i ∧ i < 0 + m) by omega), if_neg (show ¬ here + i < N by omega)])
  have sb := below_setCells' (b := w.heap.size + 1) (o := 0) (vs := bL m (fun j => T (here + j))) hB.drew (by omega)
  generalize W.drew.setCells (w.heap.size + 1) 0 (bL m (fun j => T (here + j))) = W5 at *
  clear r4 r6 hrg hth hmin c0 c0' hP hB
  have hth := row_there (o := 0) (n := 3) s4 (by omega)
  have hfin := row_setCells0 (k := opF T N here) s4
  obtain ⟨K, hK⟩ : ∃ K, K = opF T N here := ⟨_, rfl⟩
  rw [← hK] at s6 hfin
  have HK := hide hK
  clear hK hHeld
  go_wp2_with (first | (refine wpList_load_B rfl 138 (.tmp 6) rfl (w.heap.size + 1) 0 rfl _ _ 3 _ K _ s6 (by omega) (fun j _ => by rw [Nat.zero_add]) Tryd.underlying138 rfl Tryd.size3 ?_) | (refine wpList_store_B rfl 138 (.tmp 4) (.tmp 16) rfl w.heap.size 0 3 K rfl rfl hth Tryd.size3 ?_))
  exact bodyPost_ret (ret_BT Tryd.results63 _ _ w.heap.size 3 _ _ _ rfl hfin Tryd.underlying138 rfl Tryd.size3) rfl ⟨by rw [← HK.out]; rfl, below_setCells' sb (Nat.le_refl _)⟩
end Go.Proofs.YtdoodkabmeojmabDoor

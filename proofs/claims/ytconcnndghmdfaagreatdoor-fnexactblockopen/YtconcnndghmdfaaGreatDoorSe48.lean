/- Put together: ImpText, As, AsHit. -/
import Derived.Test.YtconcnndghmdfaaGreatDoorSe46
import Derived.Test.YtconcnndghmdfaaGreatDoorSe47
import Derived.Test.YtconcnndghmdfaaGreatDoorSe17
import Derived.Test.YtconcnndghmdfaaGreatDoorSe16
import Derived.Test.YtconcnndghmdfaaGreatDoorSe38
import Derived.Test.YtconcnndghmdfaaGreatDoorRows
import Derived.WalkKit
import Derived.LaidEql
import Derived.Stop.Asserts
import Derived.RowKitTokens
namespace Go.Proofs.YtconcnndghmdfaaGreatDoor
open Go Go.RowKit Go.Shelf
attribute [local go_sem] Oper.semAt_some
def noPanT (Q : Exit → Act → World → Prop) : Exit → Act → World → Prop
  | .panic _, _, _ => False
  | e, a, w => Q e a w
theorem noPanT_to (Q : Exit → Act → World → Prop) : ∀ e a w, noPanT Q e a w → Q e a w := fun e a w h => by
  cases e <;> first | exact h | exact h.elim
theorem own_cellsT {w : World} {base e size n : Nat} {v : Value} {xs : List Value} (h : w.ownsRow base e size v n xs) : ∀ g, v.ownBlock = some g → ∃ c, w.heap[g]? = some (.cells c e) := by
  intro g hg
  rcases h.2 with ⟨rfl, _⟩ | ⟨g', cap, cur, rfl, _, hgb, _⟩
  · simp [Value.ownBlock] at hg
  · obtain rfl : g' = g := by simpa [Value.ownBlock] using hg
    exact ⟨cur, hgb⟩
/-- What lies in memory between two rounds: the results' cells z and z + 1, the box z + 2 of what is there. -/
def TxtAt (b z : Nat) (w : World) (M : Nat → Prop) (pre : List Tok) (W : World) : Prop :=
  ∃ v bts, growL pre [] = some bts ∧ Boxed W (z + 2) 22 v ∧ W.ownsRow b 5 1 v bts.length (bts.map byteV) ∧ ¬ M (z + 2) ∧ (∀ g, v.ownBlock = some g → ¬ M g) ∧ (Boxed W z 9 (.string ⟨#[]⟩) ∧ Boxed W (z + 1) 4 (.bool false) ∧ ¬ M z ∧ ¬ M (z + 1)) ∧ (∀ g, M g → b ≤ g ∧ g < W.heap.size) ∧ b ≤ W.heap.size ∧ Below b w W
/-- .. where a match goes too far back. -/
def TxtNo (b z : Nat) (w : World) (c : Code) (M : Nat → Prop) (pre : List Tok) (W : World) : Prop :=
  c = .ret ∧ growL pre [] = none ∧ (Boxed W z 9 (.string ⟨#[]⟩) ∧ Boxed W (z + 1) 4 (.bool false) ∧ ¬ M z ∧ ¬ M (z + 1)) ∧ (∀ g, M g → b ≤ g ∧ g < W.heap.size) ∧ b ≤ W.heap.size ∧ Below b w W
theorem txtAt_stands {b z B : Nat} {w : World} (hB : b ≤ B) : StandsB B (TxtAt b z w) := by
  rintro M M' pre W W' ⟨v, bts, h0, h1, h2, h3, h4, ⟨r1, r2, r3, r4⟩, h5, h6, h7⟩ hm hM
  have off : ∀ k, k < W.heap.size → ¬ M k → ¬ M' k := fun k hk h hh => by
    rcases hM k hh with h' | h'
    · exact h h'
    · omega
  refine ⟨v, bts, h0, hm.cells h3 h1, own_of_block h2 (fun g hg => ?_), off _ h1.lt h3, fun g hg => off g (h2.lt g hg).2 (h4 g hg), ⟨hm.cells r3 r1, hm.cells r4 r2, off _ r1.lt r3, off _ r2.lt r4⟩, fun g hg => ?_, Nat.le_trans h6 hm.size, hm.toBelow h7 h6 hB (fun g hg => (h5 g hg).1)⟩
  · obtain ⟨c, hc⟩ := own_cellsT h2 g hg
    rw [hc, hm.cells (h4 g hg) hc]
  · rcases hM g hg with h | h
    · exact ⟨(h5 g h).1, Nat.lt_of_lt_of_le (h5 g h).2 hm.size⟩
    · exact ⟨Nat.le_trans h6 h.1, h.2⟩
theorem txtNo_stands {b z B : Nat} {w : World} (hB : b ≤ B) (c : Code) : StandsB B (TxtNo b z w c) := by
  rintro M M' pre W W' ⟨h0, h1, ⟨r1, r2, r3, r4⟩, h5, h6, h7⟩ hm hM
  have off : ∀ k, k < W.heap.size → ¬ M k → ¬ M' k := fun k hk h hh => by
    rcases hM k hh with h' | h'
    · exact h h'
    · omega
  refine ⟨h0, h1, ⟨hm.cells r3 r1, hm.cells r4 r2, off _ r1.lt r3, off _ r2.lt r4⟩, fun g hg => ?_, Nat.le_trans h6 hm.size, hm.toBelow h7 h6 hB (fun g hg => (h5 g hg).1)⟩
  rcases hM g hg with h | h
  · exact ⟨(h5 g h).1, Nat.lt_of_lt_of_le (h5 g h).2 hm.size⟩
  · exact ⟨Nat.le_trans h6 h.1, h.2⟩
set_option maxRecDepth 100000 in
set_option maxHeartbeats 3200000 in
theorem imp_text (b g size : Nat) (t : ByteArray) (w : World) (h4 : size ≤ 4000) (hts : t.size ≤ 9223372036854775807) (hdec : DecP w g t rc0 (pv (tbN t) 4)) (hbg : b ≤ g) :
    Calls Tryz.prog 132 #[.pointer (some ⟨g, 0, none⟩), .int .i64 (size : Int)] w fun e w' => e = .returned (.tuple #[.string (unpO t size).1, .bool (unpO t size).2]) ∧ Below b w w' := by
  have hgl := hdec.lt
  have hp4 : pv (tbN t) 4 < 18446744073709551616 := Nat.lt_of_lt_of_le (pv_lt (tbN t) (tbN_lt t) 4) (by decide)
  have hok0 : DecOk (rc0, pv (tbN t) 4) 0 := ⟨rc0_ok, hp4, Nat.le_refl _⟩
  obtain ⟨z, hz⟩ : ∃ z, z = w.heap.size := ⟨_, rfl⟩
  refine (callsIn_wide (n := 5)).1 ?_
  refine callsIn_of_wp_marks Tryz.func132 rfl trivial ?_ rfl
  simp only [Tryz.ntmps132, List.size_toArray, List.length_cons, List.length_nil, Nat.reduceAdd, Nat.reduceSub, Array.replicate_succ, Array.replicate_zero, List.push_toArray, List.append_toArray, List.nil_append, List.cons_append]
  refine Go.wpIn_mono (Q := noPanT _) ?_ (noPanT_to _)
  refine wpIn_wide.2 ?_
  have hal : Below w.heap.size w (((w.alloc (.cells #[.string ⟨#[]⟩] 9)).alloc (.cells #[.bool false] 4)).alloc (.cells #[.slice none 0 0] 22)) := (((Below.refl _ w).alloc (Nat.le_refl _) _).alloc (by simp) _).alloc (by simp; omega) _
  have x0 : Boxed (((w.alloc (.cells #[.string ⟨#[]⟩] 9)).alloc (.cells #[.bool false] 4)).alloc (.cells #[.slice none 0 0] 22)) z 9 (.string ⟨#[]⟩) := by
    rw [hz]; exact ((Boxed.new w 9 (.string ⟨#[]⟩)).alloc _).alloc _
  have x1 : Boxed (((w.alloc (.cells #[.string ⟨#[]⟩] 9)).alloc (.cells #[.bool false] 4)).alloc (.cells #[.slice none 0 0] 22)) (z + 1) 4 (.bool false) := by
    have h := (Boxed.new (w.alloc (.cells #[.string ⟨#[]⟩] 9)) 4 (.bool false)).alloc (.cells #[.slice none 0 0] 22)
    rw [World.size_alloc, ← hz] at h; exact h
  have x2 : Boxed (((w.alloc (.cells #[.string ⟨#[]⟩] 9)).alloc (.cells #[.bool false] 4)).alloc (.cells #[.slice none 0 0] 22)) (z + 2) 22 (.slice none 0 0) := by
    have h := Boxed.new ((w.alloc (.cells #[.string ⟨#[]⟩] 9)).alloc (.cells #[.bool false] 4)) 22 (.slice none 0 0)
    rw [World.size_alloc, World.size_alloc, ← hz] at h; exact h
  have xs : (((w.alloc (.cells #[.string ⟨#[]⟩] 9)).alloc (.cells #[.bool false] 4)).alloc (.cells #[.slice none 0 0] 22)).heap.size = z + 3 := by simp [hz]
  have xd := hide (hdec.kept (hal.block g hgl))
  have HA := hide hal
  have HZ := hide hz
  have hgz : g < z := by omega
  clear hdec hz hal hp4
  go_wp2_with fail
  rw [← HZ.out]
  generalize (((w.alloc (.cells #[.string ⟨#[]⟩] 9)).alloc (.cells #[.bool false] 4)).alloc (.cells #[.slice none 0 0] 22)) = w2 at *
  refine (imp_tokens g size w2).mono ?_
  rintro e w3 ⟨rfl, hw3⟩
  have hal3 : Below w2.heap.size w2 w3 := by rw [hw3]; exact ((Below.refl _ w2).alloc (Nat.le_refl _) _).alloc (by simp) _
  have s3 : w3.heap.size = z + 5 := by rw [hw3]; simp [xs]
  have y3 : w3.heap[z + 3]? = some (.cells #[.pointer (some ⟨g, 0, none⟩)] 179) := by
    rw [hw3]
    have h := World.alloc_heap_new w2 (.cells #[.pointer (some ⟨g, 0, none⟩)] 179)
    rw [xs] at h
    exact (Below.heap_alloc (w2.alloc (.cells #[.pointer (some ⟨g, 0, none⟩)] 179)) (.cells #[.int .i64 (size : Int)] 3) (z + 3) (by simp [xs])).trans h
  have y4 : w3.heap[z + 4]? = some (.cells #[.int .i64 (size : Int)] 3) := by
    rw [hw3]
    have h := World.alloc_heap_new (w2.alloc (.cells #[.pointer (some ⟨g, 0, none⟩)] 179)) (.cells #[.int .i64 (size : Int)] 3)
    rw [World.size_alloc, xs] at h; exact h
  have d3 : DecP w3 g t rc0 (pv (tbN t) 4) := xd.out.kept (hal3.block g (by omega))
  have b3 : Below b w w3 := (HA.out.mono (by rw [← HZ.out]; omega)).trans (hal3.mono (by omega))
  have x0' : Boxed w3 z 9 (.string ⟨#[]⟩) := (hal3.block z (by omega)).trans x0
  have x1' : Boxed w3 (z + 1) 4 (.bool false) := (hal3.block (z + 1) (by omega)).trans x1
  have x2' : Boxed w3 (z + 2) 22 (.slice none 0 0) := (hal3.block (z + 2) (by omega)).trans x2
  rw [xs]
  clear hw3 hal3 x0 x1 x2 xd
  go_wp2_with fail
  refine (wpIn_wide (n := 5)).1 ?_
  refine wpIn_rangeM rfl (by omega) (gf := 155) (lb := #[.pointer (some ⟨z + 4, 0, none⟩), .pointer (some ⟨z + 3, 0, none⟩)]) rfl trivial (enters_of Tryz.func155 (by kernel_rfl) rfl) (dtoks_seq 4 (z + 4) (z + 3) g size (by omega) t h4 hts (rc0, pv (tbN t) 4) hok0 w3 y4 y3 d3 (by omega) (by omega)) (fun k hk => by rcases hk with h | h | h <;> omega) (fun _ => rfl) (TxtAt b z w) (TxtNo b z w) (txtAt_stands (by omega)) (txtNo_stands (by omega))
    ⟨_, [], rfl, x2', World.ownsRow_nil _ _ _ _, by omega, by simp [Value.ownBlock], ⟨x0', x1', by omega, by omega⟩, fun k hk => by rcases hk with h | h | h <;> omega, by omega, b3⟩
    (fun x a' W => ∃ p, a' = { tmps := #[.pointer (some ⟨g, 0, none⟩), .int .i64 (size : Int), undef, undef, .pointer (some ⟨z, 0, none⟩), .pointer (some ⟨z + 1, 0, none⟩), .pointer (some ⟨z + 2, 0, none⟩), .pointer (some ⟨p, 0, none⟩), undef, .pointer (some ⟨g, 0, none⟩), .int .i64 (size : Int), .func (.func 155) #[] #[.pointer (some ⟨z + 4, 0, none⟩), .pointer (some ⟨z + 3, 0, none⟩)], tokV x, undef, undef, undef, undef, undef, undef, undef, undef, undef, undef, undef, undef, undef, undef], defers := [] } ∧ W.heap[p]? = some (.cells #[.int .i64 x.b, .int .i64 x.m, .int .i64 x.f] 80))
    ?hAx ?assign ?body ?done ?stop
  case hAx =>
    rintro x a' _ W W' row ⟨p, e, hp⟩ hg hrow
    refine ⟨p, e, (hg.block p (Array.getElem?_eq_some_iff.1 hp).1 (fun h => ?_)).trans hp⟩
    obtain ⟨_, o, ho, hc⟩ := hrow p h.symm
    rw [hp] at ho; cases ho; cases hc
  case assign =>
    intro l M pre x W K hI hK
    obtain ⟨xb, xm, xf⟩ := x
    simp only [tokV] at hK ⊢
    gi_wp2_with fail
    refine hK _ _ (KeepsFrom.below ((Below.refl _ W).alloc (Nat.le_refl _) _)) (KeptM.below ((Below.refl _ W).alloc (Nat.le_refl _) _)) ((txtAt_stands (B := b) (Nat.le_refl _)).alloc _ hI) ⟨W.heap.size, ?_, World.alloc_heap_new W _⟩
    simp
  case body =>
    rintro l M pre x a' W ⟨v, bts, h0, h1, h2, h3, h4, h41, h5, h6, h7⟩ ⟨p, rfl, hp⟩ hpre
    obtain ⟨rest, hrest⟩ := hpre
    rw [List.append_assoc] at hrest
    obtain ⟨hlt, st', hx⟩ := dt_step (tbN t) size pre size (rc0, pv (tbN t) 4) [] bts x rest hrest h0
    have hc := h1.cell
    have hfz := h1.frozen
    have hzl := h1.lt
    have key : ∀ (v' : Value) (bts' : List UInt8) (W' : World), growT x bts = some bts' → W'.ownsRow b 5 1 v' bts'.length (bts'.map byteV) → Below b W W' → OffV v v' W W' → roundPost w3.heap.size M (TxtAt b z w) (TxtNo b z w) (pre ++ [x]) W .normal ⟨#[], []⟩ (W'.setCell ⟨z + 2, 0, none⟩ v') := by
      intro v' bts' W' hg ho hb hoff
      have n2 : some (z + 2) ≠ v.ownBlock := h1.not_row (by decide) h2
      have k2 : Boxed W' (z + 2) 22 v := (hoff.same (z + 2) hzl (fun e => n2 e.symm)).trans h1
      have n2' : some (z + 2) ≠ v'.ownBlock := k2.not_row (by decide) ho
      have hs := hb.size
      have same : ∀ k, k < W.heap.size → v.ownBlock ≠ some k → k ≠ z + 2 → (W'.setCell ⟨z + 2, 0, none⟩ v').heap[k]? = W.heap[k]? := fun k hk hv hz => (Below.heap_setCell W' ⟨z + 2, 0, none⟩ v' k hz).trans (hoff.same k hk hv)
      refine ⟨⟨by simpa [World.setCell] using hs, fun k o _ hk ho => ?_⟩, ⟨by simpa [World.setCell] using hs, fun k hk hm => same k hk (fun e => h4 k e hm) (fun e => h3 (e ▸ hm))⟩, v', bts', ?_, k2.set v', ho.kept (grownBy_setCell' W' (z + 2) v') (.inr (fun e => n2' e.symm)), h3, fun k hk => ?_, ⟨?_, ?_, h41.2.2.1, h41.2.2.2⟩, fun k hk => ⟨(h5 k hk).1, by have := (h5 k hk).2; simpa [World.setCell] using Nat.lt_of_lt_of_le this hs⟩, by simpa [World.setCell] using Nat.le_trans h6 hs, (h7.trans hb).setCell (p := ⟨z + 2, 0, none⟩) (by show b ≤ z + 2; omega) v'⟩
      · refine (same k (Array.getElem?_eq_some_iff.1 hk).1 (fun e => ?_) (fun e => ?_)).trans hk
        · obtain ⟨c, hc⟩ := own_cellsT h2 k e
          rw [hc] at hk; cases hk; cases ho
        · rw [e, show W.heap[z + 2]? = _ from h1] at hk; cases hk; cases ho
      · rw [growL_snoc, h0]; exact hg
      · rcases hoff.lies k hk with h | h
        · exact h4 k h
        · exact fun hm => by have := (h5 k hm).2; omega
      · exact (same z h41.1.lt (fun e => h41.1.not_row (by decide) h2 e.symm) (by omega)).trans h41.1
      · exact (same (z + 1) h41.2.1.lt (fun e => h41.2.1.not_row (by decide) h2 e.symm) (by omega)).trans h41.2.1
    have KEY := hide key
    have HH := hide (And.intro h0 (And.intro h1 (And.intro h2 (And.intro h3 (And.intro h4 (And.intro h41 (And.intro h5 (And.intro h6 h7))))))))
    have h6' := h6
    clear key h4 h41 h5 h7
    rcases dtok_two (tbN t) st' with ⟨y, hy, e⟩ | ⟨MM, F, m1, m2, f1, f2, e⟩
    · rw [← hx] at e
      subst e
      have SG := hide (imp_grown_byteK v bts b y W h6 h2 (by omega) hy)
      have e0 : W.cell? ⟨p, 0, none⟩ = some (.int .i64 (y : Int)) := by simp [World.cell?, hp]
      have e1 : W.cell? ⟨p, 1, none⟩ = some (.int .i64 0) := by simp [World.cell?, hp]
      have e2 : W.cell? ⟨p, 2, none⟩ = some (.int .i64 0) := by simp [World.cell?, hp]
      clear hx h0 h1 h2 h3 hp hrest
      simp only [tokV]
      gi_wp2_with fail
      refine ⟨trivial, (CallsIn.inRound l (callsIn_wide.2 SG.out)).mono ?_⟩
      rintro e W' ⟨v', rfl, ho, hb, hoff⟩
      have R := hide (KEY.out v' _ W' (growT_byte y bts) ho hb hoff)
      have cX : W'.cell? ⟨z + 2, 0, none⟩ = some v := Boxed.cell ((hoff.same (z + 2) hzl (fun e => HH.out.2.1.not_row (by decide) HH.out.2.2.1 e.symm)).trans HH.out.2.1)
      have fX : W'.frozen? ⟨z + 2, 0, none⟩ = false := Boxed.frozen ((hoff.same (z + 2) hzl (fun e => HH.out.2.1.not_row (by decide) HH.out.2.2.1 e.symm)).trans HH.out.2.1)
      obtain ⟨va, vl, vc, rfl⟩ : ∃ a l c, v' = .slice a l c := by
        obtain ⟨_, ⟨e, _⟩ | ⟨g, cap, cur, e, _⟩⟩ := ho
        · exact ⟨_, _, _, e⟩
        · exact ⟨_, _, _, e⟩
      clear ho hb hoff SG KEY e0 e1 e2 hc hfz HH
      gi_wp2_with fail
      exact R.out
    · rw [← hx] at e
      subst e
      have e0 : W.cell? ⟨p, 0, none⟩ = some (.int .i64 0) := by simp [World.cell?, hp]
      have e1 : W.cell? ⟨p, 1, none⟩ = some (.int .i64 (MM : Int)) := by simp [World.cell?, hp]
      have e2 : W.cell? ⟨p, 2, none⟩ = some (.int .i64 (F : Int)) := by simp [World.cell?, hp]
      by_cases hF : bts.length < F
      · have SG := hide (imp_grown_noK v bts b MM F W h2 (by omega) m1 m2 f2 hF)
        have HNO := hide (show growL (pre ++ [(⟨0, (MM : Int), (F : Int)⟩ : Tok)]) [] = none by rw [growL_snoc, h0]; exact (growT_match MM F bts m1).trans (if_pos hF))
        clear hx h0 h1 h2 h3 hp hrest KEY
        simp only [tokV]
        gi_wp2_with fail
        refine ⟨trivial, (CallsIn.inRound l (callsIn_wide.2 SG.out)).mono ?_⟩
        rintro e W' ⟨rfl, hb⟩
        obtain ⟨_, h1, h2, h3, h4, h41, h5, h6, h7⟩ := HH.out
        have k2 : Boxed W' (z + 2) 22 v := (hb.block _ hzl).trans h1
        have k0 : Boxed W' z 9 (.string ⟨#[]⟩) := (hb.block _ h41.1.lt).trans h41.1
        have k1 : Boxed W' (z + 1) 4 (.bool false) := (hb.block _ h41.2.1.lt).trans h41.2.1
        have cX := k2.cell
        have fX := k2.frozen
        have cY := k0.cell
        have fY := k0.frozen
        have cZ := k1.cell
        have fZ := k1.frozen
        have R := hide (show roundPost w3.heap.size M (TxtAt b z w) (TxtNo b z w) (pre ++ [(⟨0, (MM : Int), (F : Int)⟩ : Tok)]) W .ret ⟨#[], []⟩ (((W'.setCell ⟨z + 2, 0, none⟩ (.slice none 0 0)).setCell ⟨z, 0, none⟩ (.string ⟨#[]⟩)).setCell ⟨z + 1, 0, none⟩ (.bool false)) from by
          have hs := hb.size
          have same : ∀ k, k < W.heap.size → k ≠ z → k ≠ z + 1 → k ≠ z + 2 → (((W'.setCell ⟨z + 2, 0, none⟩ (.slice none 0 0)).setCell ⟨z, 0, none⟩ (.string ⟨#[]⟩)).setCell ⟨z + 1, 0, none⟩ (.bool false)).heap[k]? = W.heap[k]? := fun k hk a0 a1 a2 =>
            (Below.heap_setCell _ ⟨z + 1, 0, none⟩ _ k a1).trans ((Below.heap_setCell _ ⟨z, 0, none⟩ _ k a0).trans ((Below.heap_setCell W' ⟨z + 2, 0, none⟩ _ k a2).trans (hb.block k hk)))
          refine ⟨⟨by simpa [World.setCell] using hs, fun k o _ hk ho => ?_⟩, rfl, HNO.out, ⟨((k0.other (by omega) _).set _).other (by omega) _, ((k1.other (by omega) _).other (by omega) _).set _, h41.2.2.1, h41.2.2.2⟩, fun k hk => ⟨(h5 k hk).1, by have := (h5 k hk).2; simpa [World.setCell] using Nat.lt_of_lt_of_le this hs⟩, by simpa [World.setCell] using Nat.le_trans h6 hs, ?_⟩
          · refine (same k (Array.getElem?_eq_some_iff.1 hk).1 (fun e => ?_) (fun e => ?_) (fun e => ?_)).trans hk
            · rw [e, show W.heap[z]? = _ from h41.1] at hk; cases hk; cases ho
            · rw [e, show W.heap[z + 1]? = _ from h41.2.1] at hk; cases hk; cases ho
            · rw [e, show W.heap[z + 2]? = _ from h1] at hk; cases hk; cases ho
          · exact (((h7.trans (hb.mono h6)).setCell (p := ⟨z + 2, 0, none⟩) (by show b ≤ z + 2; omega) _).setCell (p := ⟨z, 0, none⟩) (by show b ≤ z; omega) _).setCell (p := ⟨z + 1, 0, none⟩) (by show b ≤ z + 1; omega) _)
        clear h1 h2 h3 h4 h41 h5 h6 h7 k0 k1 k2 hb SG e0 e1 e2 hc hfz HH
        gi_wp2_with fail
        exact R.out
      · have SG := hide (imp_grown_matchK v bts b MM F W h6 h2 (by omega) m1 m2 f1 f2 (by omega))
        clear hx h0 h1 h2 h3 hp hrest
        simp only [tokV]
        gi_wp2_with fail
        refine ⟨trivial, (CallsIn.inRound l (callsIn_wide.2 SG.out)).mono ?_⟩
        rintro e W' ⟨v', rfl, ho, hb, hoff⟩
        have R := hide (KEY.out v' _ W' ((growT_match MM F bts m1).trans (if_neg hF)) ho hb hoff)
        have cX : W'.cell? ⟨z + 2, 0, none⟩ = some v := Boxed.cell ((hoff.same (z + 2) hzl (fun e => HH.out.2.1.not_row (by decide) HH.out.2.2.1 e.symm)).trans HH.out.2.1)
        have fX : W'.frozen? ⟨z + 2, 0, none⟩ = false := Boxed.frozen ((hoff.same (z + 2) hzl (fun e => HH.out.2.1.not_row (by decide) HH.out.2.2.1 e.symm)).trans HH.out.2.1)
        obtain ⟨va, vl, vc, rfl⟩ : ∃ a l c, v' = .slice a l c := by
          obtain ⟨_, ⟨e, _⟩ | ⟨g, cap, cur, e, _⟩⟩ := ho
          · exact ⟨_, _, _, e⟩
          · exact ⟨_, _, _, e⟩
        clear ho hb hoff SG KEY e0 e1 e2 hc hfz HH
        gi_wp2_with fail
        exact R.out
  case done =>
    rintro D M xs W hD hxs ⟨v, bts, h0, h1, h2, h3, h4, ⟨r0, r1, _, _⟩, h5, h6, h7⟩ hK
    subst hxs
    obtain ⟨va, vc, hv, hvc⟩ : ∃ a c, v = .slice a bts.length c ∧ bts.length ≤ c := by
      obtain ⟨_, ⟨e, e0⟩ | ⟨g, cap, cur, e, _, _, h, _⟩⟩ := h2
      · exact ⟨none, 0, by rw [e, e0], by omega⟩
      · exact ⟨_, cap, e, h⟩
    have hcv : (convert 22 9 (.slice va bts.length vc)).run Tryz.prog W.drew = .ok (.string ⟨bts.toArray⟩) W.drew := by
      rw [← hv]; exact own_conv (P := Tryz.prog) (World.ownsRow.drew h2) Tryz.underlying22 Tryz.underlying5 Tryz.underlying9
    subst hv
    have hc := h1.cell
    have c0 := r0.cell
    have f0 := r0.frozen
    have c1 := r1.cell
    have f1 := r1.frozen
    have HF := hide (And.intro h0 (And.intro r0 (And.intro r1 (And.intro h6 (And.intro h7 hK)))))
    clear h0 h1 h2 h3 h4 r0 r1 h5 h6 h7 hK
    go_wp2_with fail
    go_region
    obtain ⟨h0, r0, r1, h6, h7, hK⟩ := HF.out
    obtain ⟨W7, hW7⟩ : ∃ W7, W7 = ((W.setCell ⟨z, 0, none⟩ (.string ⟨bts.toArray⟩)).setCell ⟨z + 1, 0, none⟩ (.bool ((bts.length : Int) == (size : Int)))).drew := ⟨_, rfl⟩
    have fa : W7.heap[z]? = some (.cells #[.string ⟨bts.toArray⟩] 9) := by
      rw [hW7]; exact ((r0.set (.string ⟨bts.toArray⟩)).other (B' := z + 1) (by omega) _)
    have fb : W7.heap[z + 1]? = some (.cells #[.bool ((bts.length : Int) == (size : Int))] 4) := by
      rw [hW7]; exact ((r1.other (B' := z) (by omega) _).set (.bool ((bts.length : Int) == (size : Int))))
    have hbl2 : Below b w W7 := by
      rw [hW7]; exact ((h7.setCell (p := ⟨z, 0, none⟩) (by show b ≤ z; omega) _).setCell (p := ⟨z + 1, 0, none⟩) (by show b ≤ z + 1; omega) _).drew
    have hK2 : W7.heap[D]? = some (.deferred (some [])) := by
      rw [hW7]; exact ((KeepsOthers.setCell W ⟨z, 0, none⟩ _).trans (KeepsOthers.setCell _ ⟨z + 1, 0, none⟩ _)).same D _ hK rfl
    have HH := hide (And.intro fa (And.intro fb (And.intro hbl2 hK2)))
    rw [← hW7]
    clear fa fb hbl2 hK2 r0 r1 h6 h7 hK hW7 HF
    go_wp2_with fail
    obtain ⟨fa, fb, hbl2, hK2⟩ := HH.out
    refine ⟨by simp, .inl ⟨D, _, rfl, run_takeDeferred hK2, ?_⟩⟩
    have hbp := belowK_b (w := w3) (n₀ := z + 5) (by omega) W7 D _ (.deferred none) hD hK2 rfl rfl
    have hfa := (hbp.block z (by omega)).trans fa
    have hfb := (hbp.block (z + 1) (by omega)).trans fb
    have hbl3 := hbl2.trans (hbp.mono (by omega))
    generalize W7.putObj D (.deferred none) = W8 at *
    have m0 : W8.cell? ⟨z, 0, none⟩ = some (.string ⟨bts.toArray⟩) := by simp [World.cell?, hfa]
    have m1 : W8.cell? ⟨z + 1, 0, none⟩ = some (.bool ((bts.length : Int) == (size : Int))) := by simp [World.cell?, hfb]
    have hU : unpO t size = (⟨bts.toArray⟩, decide (bts.length = size)) := by
      have h9 := unpack_toks (tbN t) size size (rc0, pv (tbN t) 4) []
      show outU size (unpackG (tbN t) size size (rc0, pv (tbN t) 4) []) = _
      rw [h9, show growL (dtoks (tbN t) size size (rc0, pv (tbN t) 4) ([] : List UInt8).length) [] = some bts from h0]; rfl
    refine ⟨.tuple #[.string ⟨bts.toArray⟩, .bool ((bts.length : Int) == (size : Int))], ?_, ?_, hbl3⟩
    · simp [results, Tryz.results132, go_sem, m0, m1]
    · rw [hU]
      show _ = Ending.returned (.tuple #[.string ⟨bts.toArray⟩, .bool (decide (bts.length = size))])
      have e : ((bts.length : Int) == (size : Int)) = decide (bts.length = size) := by
        by_cases h : bts.length = size
        · rw [h]; simp
        · rw [decide_eq_false h, beq_eq_false_iff_ne]; omega
      rw [e]
  case stop =>
    rintro D c M pre W hD hpre ⟨rfl, h1, ⟨r0, r1, _, _⟩, h5, h6, h7⟩ hK
    have hno := growL_stop pre _ [] hpre h1
    have HH := hide (And.intro r0 (And.intro r1 (And.intro h7 hK)))
    clear r0 r1 h1 h5 h6 h7 hK
    gi_wp2_with fail
    obtain ⟨fa, fb, hbl2, hK2⟩ := HH.out
    obtain ⟨W7, hW7⟩ : ∃ W7, W7 = W := ⟨_, rfl⟩
    rw [← hW7] at fa fb hbl2 hK2 ⊢
    refine ⟨by simp, .inl ⟨D, _, rfl, run_takeDeferred hK2, ?_⟩⟩
    have hbp := belowK_b (w := w3) (n₀ := z + 5) (by omega) W7 D _ (.deferred none) hD hK2 rfl rfl
    have hfa := (hbp.block z (by omega)).trans fa
    have hfb := (hbp.block (z + 1) (by omega)).trans fb
    have hbl3 := hbl2.trans (hbp.mono (by omega))
    generalize W7.putObj D (.deferred none) = W8 at *
    have m0 : W8.cell? ⟨z, 0, none⟩ = some (.string ⟨#[]⟩) := Boxed.cell hfa
    have m1 : W8.cell? ⟨z + 1, 0, none⟩ = some (.bool false) := Boxed.cell hfb
    have hU : unpO t size = (⟨#[]⟩, false) := by
      have h9 := unpack_toks (tbN t) size size (rc0, pv (tbN t) 4) []
      show outU size (unpackG (tbN t) size size (rc0, pv (tbN t) 4) []) = _
      rw [h9, show growL (dtoks (tbN t) size size (rc0, pv (tbN t) 4) ([] : List UInt8).length) [] = none from hno]; rfl
    refine ⟨.tuple #[.string ⟨#[]⟩, .bool false], ?_, by rw [hU], hbl3⟩
    simp [results, Tryz.results132, go_sem, m0, m1]
end Go.Proofs.YtconcnndghmdfaaGreatDoor
namespace Go.Proofs.YtconcnndghmdfaaGreatDoor
open Go.RowKit Go.Extern.Stop Go.Stop Go.Extern

theorem as_nil (t : Value) (w : World) :
    Calls Tryz.prog 133 #[.nilIface, t] w fun e w' => e = .returned (.bool false) ∧ w = w' := by
  go_enter Tryz.func133, Tryz.ntmps133
  go_wp2
  go_ret
  exact ⟨rfl, rfl⟩

theorem as_valueOf (t : Addr) (w : World) : (ReflectliteValue.unpack (.iface 183 (.pointer (some t)))).run Tryz.prog w
    = .ok (.agg #[.pointer (some ⟨2, 183, none⟩), .pointer (some ⟨w.heap.size, 0, none⟩), .int .u64 150]) (w.alloc (.cells #[.pointer (some t)] 183)) := by kernel_rfl
theorem as_type (a : Addr) (w : World) : (ReflectliteValue.methodAny (ReflectliteValue.valueError "reflectlite.Value.Type" 0) (fun t _ _ _ => ReflectliteType.toType t) #[.agg #[.pointer (some ⟨2, 183, none⟩), .pointer (some a), .int .u64 150]]).run Tryz.prog w
    = .ok (.iface 221 (.agg #[.pointer (some ⟨2, 183, none⟩)])) w := by kernel_rfl
theorem as_kindP (w : World) : ((ReflectliteType.abiMethod fun t => (fun a : Nat => Value.int IntKind.u8 (a : Int)) <$> Rtype.kind t) #[.pointer (some ⟨2, 183, none⟩)]).run Tryz.prog w = .ok (.int .u8 22) w := by kernel_rfl
theorem as_kindE (w : World) : ((ReflectliteType.abiMethod fun t => (fun a : Nat => Value.int IntKind.u8 (a : Int)) <$> Rtype.kind t) #[.pointer (some ⟨2, 84, none⟩)]).run Tryz.prog w = .ok (.int .u8 25) w := by kernel_rfl
theorem rlm (z : Sem Value) (f : TypeId → Addr → Nat → Nat → Sem Value) (v : Value) :
    ReflectliteValue.method z f #[v] = (do match ← ReflectliteValue.parts v with | none => z | some (t, a, fl) => f t a fl (fl % 32)) := rfl
theorem as_partsP (a : Addr) (w : World) : (ReflectliteValue.parts (.agg #[.pointer (some ⟨2, 183, none⟩), .pointer (some a), .int .u64 150])).run Tryz.prog w = .ok (some (183, a, 150)) w := by kernel_rfl
theorem as_isNil (a p : Addr) (W : World) (ha : W.cell? a = some (.pointer (some p))) :
    (ReflectliteValue.method (ReflectliteValue.valueError "reflectlite.Value.IsNil" 0) ReflectliteValue.isNil #[.agg #[.pointer (some ⟨2, 183, none⟩), .pointer (some a), .int .u64 150]]).run Tryz.prog W = .ok (.bool false) W := by
  rw [rlm]
  simp only [Sem.run_bind, as_partsP, Result.andThen]
  simp [ReflectliteValue.isNil, loadVar, isAgg, underlying, Tryz.underlying183, ha, Result.andThen]
theorem as_elem (w : World) : (ReflectliteType.method ReflectliteType.elem #[.agg #[.pointer (some ⟨2, 183, none⟩)]]).run Tryz.prog w = .ok (.iface 221 (.agg #[.pointer (some ⟨2, 84, none⟩)])) w := by kernel_rfl
theorem as_implements (w : World) : (ReflectliteType.relation "Implements" ReflectliteType.implements_ #[.agg #[.pointer (some ⟨2, 84, none⟩)], .iface 221 (.agg #[.pointer (some ⟨2, 138, none⟩)])]).run Tryz.prog w = .ok (.bool true) w := by kernel_rfl
theorem as_typeOf (v : Value) (w : World) : (ReflectliteType.typeOf #[.iface 84 v]).run Tryz.prog w = .ok (.iface 221 (.agg #[.pointer (some ⟨2, 84, none⟩)])) w := by kernel_rfl
theorem as_assignable (w : World) : (ReflectliteType.relation "AssignableTo" ReflectliteType.assignableTo #[.agg #[.pointer (some ⟨2, 84, none⟩)], .iface 221 (.agg #[.pointer (some ⟨2, 84, none⟩)])]).run Tryz.prog w = .ok (.bool true) w := by kernel_rfl
theorem as_valueE (c : Int) (w : World) : (ReflectliteValue.unpack (.iface 84 (.agg #[.int .i64 c]))).run Tryz.prog w
    = .ok (.agg #[.pointer (some ⟨2, 84, none⟩), .pointer (some ⟨w.heap.size, 0, none⟩), .int .u64 153]) (w.alloc (.cells #[.int .i64 c] 84)) := by kernel_rfl
theorem as_elemOf (w : World) : (Rtype.elem? 183).run Tryz.prog w = .ok (some 84) w := by kernel_rfl
theorem as_mkE (p : Addr) (w : World) : (ReflectliteValue.mk 84 p ReflectliteValue.flagAddr).run Tryz.prog w = .ok (.agg #[.pointer (some ⟨2, 84, none⟩), .pointer (some p), .int .u64 409]) w := by kernel_rfl
theorem as_elemV (a p : Addr) (W : World) (ha : W.cell? a = some (.pointer (some p))) :
    (ReflectliteValue.method (ReflectliteValue.valueError "reflectlite.Value.Elem" 0) ReflectliteValue.elem #[.agg #[.pointer (some ⟨2, 183, none⟩), .pointer (some a), .int .u64 150]]).run Tryz.prog W
      = .ok (.agg #[.pointer (some ⟨2, 84, none⟩), .pointer (some p), .int .u64 409]) W := by
  rw [rlm]
  simp only [Sem.run_bind, as_partsP, Result.andThen]
  simp [ReflectliteValue.elem, loadVar, isAgg, underlying, Tryz.underlying183, ha, Result.andThen, as_elemOf, as_mkE]
theorem as_partsEa (a : Addr) (w : World) : (ReflectliteValue.parts (.agg #[.pointer (some ⟨2, 84, none⟩), .pointer (some a), .int .u64 409])).run Tryz.prog w = .ok (some (84, a, 409)) w := by kernel_rfl
theorem as_partsE (a : Addr) (w : World) : (ReflectliteValue.parts (.agg #[.pointer (some ⟨2, 84, none⟩), .pointer (some a), .int .u64 153])).run Tryz.prog w = .ok (some (84, a, 153)) w := by kernel_rfl
theorem as_direct (w : World) : (Rtype.directlyAssignable 84 84).run Tryz.prog w = .ok true w := by kernel_rfl
end Go.Proofs.YtconcnndghmdfaaGreatDoor
namespace Go.Proofs.YtconcnndghmdfaaGreatDoor
open Go.RowKit Go.Extern.Stop Go.Stop Go.Extern

theorem rls (v x : Value) : ReflectliteValue.set #[v, x] = (do
    let (some (dst, a, fl), some (src, b, _)) := (← ReflectliteValue.parts v, ← ReflectliteValue.parts x)
      | unsupported (.noEntry "extern/(internal/reflectlite.Value).Set.zeroValue")
    if fl / ReflectliteValue.flagAddr % 2 == 0 then unsupported (.noEntry "extern/(internal/reflectlite.Value).Set.unaddressable")
    let val ← loadVar src b
    if ← Rtype.directlyAssignable dst src then storeVar dst a val
    else if ← Rtype.implements dst src then
      if (← Rtype.kind src) == 20 then
        match val with
        | .nilIface => unsupported (.noEntry "extern/reflectlite: a nil value of one interface type handed on as a value of another")
        | _ => storeVar dst a val
      else storeVar dst a (.iface src val)
    else panicString ("reflectlite.Set: value of type " ++ (← Rtype.spelt src) ++ " is not assignable to type " ++ (← Rtype.spelt dst))
    pure (.tuple #[])) := rfl
theorem as_set (ta b : Addr) (c : Int) (old : Value) (W : World) (hb : W.cell? b = some (.int .i64 c)) (ht : W.cell? ta = some old) (hf : W.frozen? ta = false) :
    (ReflectliteValue.set #[.agg #[.pointer (some ⟨2, 84, none⟩), .pointer (some ta), .int .u64 409], .agg #[.pointer (some ⟨2, 84, none⟩), .pointer (some b), .int .u64 153]]).run Tryz.prog W
      = .ok (.tuple #[]) (W.setCell ta (.int .i64 c)) := by
  rw [rls]
  simp only [Sem.run_bind, as_partsEa, as_partsE, Result.andThen]
  have hl := run_loadCells_list (P := Tryz.prog) W b [.int .i64 c] (fun j v hj => by
    match j, hj with
    | 0, hj => simp at hj; subst hj; simpa [Addr.add] using hb)
  simp only [List.length_cons, List.length_nil, Nat.zero_add] at hl
  simp [ReflectliteValue.flagAddr, loadVar, isAgg, underlying, Tryz.underlying84, Result.andThen, as_direct, storeVar, Value.cells, hl]
  simp [storeCells, Addr.add]
  rw [run_store Tryz.prog W ta _ _ (by rfl)]
  simp [ht, hf]
end Go.Proofs.YtconcnndghmdfaaGreatDoor

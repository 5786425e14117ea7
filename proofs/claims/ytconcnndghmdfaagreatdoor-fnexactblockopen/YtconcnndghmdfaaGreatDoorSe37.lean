/- A loop over an iterator that keeps memory of its own (a set M of blocks, which grows): what such an iterator promises, and the loop's rule. No program is named here. -/
import Derived.RangeFuncNested
import Derived.RangeFuncCalls
import Derived.RangeFuncBox
import Derived.Deep.AppendLies
import Derived.OwnWalkIn
import Derived.Test.YtconcnndghmdfaaGreatDoorSe1
namespace Go.Proofs.YtconcnndghmdfaaGreatDoor
open Go Go.RowKit
/-- What an iterator's step does: the blocks of M may turn, new ones may be made, all others stay. -/
structure Moves (M : Nat → Prop) (W W' : World) : Prop where
  os : W'.os = W.os
  tape : W'.tape = W.tape
  output : W'.output = W.output
  size : W.heap.size ≤ W'.heap.size
  block : ∀ g, g < W.heap.size → ¬ M g → W'.heap[g]? = W.heap[g]?
/-- What a round does: the blocks of M stay. -/
structure KeptM (M : Nat → Prop) (W W' : World) : Prop where
  size : W.heap.size ≤ W'.heap.size
  block : ∀ g, g < W.heap.size → M g → W'.heap[g]? = W.heap[g]?
theorem KeptM.refl (M : Nat → Prop) (W : World) : KeptM M W W := ⟨Nat.le_refl _, fun _ _ _ => rfl⟩
theorem KeptM.trans {M : Nat → Prop} {A B C : World} (h : KeptM M A B) (k : KeptM M B C) : KeptM M A C :=
  ⟨Nat.le_trans h.size k.size, fun g h1 h2 => (k.block g (Nat.lt_of_lt_of_le h1 h.size) h2).trans (h.block g h1 h2)⟩
theorem KeptM.below {M : Nat → Prop} {A B : World} (h : Below A.heap.size A B) : KeptM M A B := ⟨h.size, fun g h1 _ => h.block g h1⟩
/-- .. and whatever else is done to blocks beyond B that are no cells (the loop's own record, and what is deferred). -/
structure MovesB (B : Nat) (M : Nat → Prop) (W W' : World) : Prop where
  os : W'.os = W.os
  tape : W'.tape = W.tape
  output : W'.output = W.output
  size : W.heap.size ≤ W'.heap.size
  block : ∀ g, g < W.heap.size → ¬ M g → (g < B ∨ ∀ o, W.heap[g]? = some o → o.isCells = true) → W'.heap[g]? = W.heap[g]?
theorem Moves.toB {M : Nat → Prop} {A B : World} (h : Moves M A B) (b : Nat) : MovesB b M A B := ⟨h.os, h.tape, h.output, h.size, fun g h1 h2 _ => h.block g h1 h2⟩
theorem MovesB.toBelow {B b : Nat} {M : Nat → Prop} {w W W' : World} (h : MovesB B M W W') (hb : Below b w W) (hw : b ≤ W.heap.size) (hB : b ≤ B) (hM : ∀ g, M g → b ≤ g) : Below b w W' :=
  hb.trans ⟨h.os, h.tape, h.output, h.size, fun g hg => h.block g (by omega) (fun hm => by have := hM g hm; omega) (.inl (by omega))⟩
theorem MovesB.cells {B g : Nat} {M : Nat → Prop} {W W' : World} {c : Array Value} {t : TypeId} {m : Nat × Nat} (h : MovesB B M W W') (hM : ¬ M g) (hg : W.heap[g]? = some (.cells c t m)) : W'.heap[g]? = some (.cells c t m) :=
  (h.block g (Array.getElem?_eq_some_iff.1 hg).1 hM (.inr (fun o ho => by rw [hg] at ho; cases ho; rfl))).trans hg
theorem Moves.below {M : Nat → Prop} {A B : World} (h : Below A.heap.size A B) : Moves M A B := ⟨h.os, h.tape, h.output, h.size, fun g h1 _ => h.block g h1⟩
theorem Moves.trans {M : Nat → Prop} {A B C : World} (h : Moves M A B) (k : Moves M B C) : Moves M A C :=
  ⟨k.os.trans h.os, k.tape.trans h.tape, k.output.trans h.output, Nat.le_trans h.size k.size, fun g h1 h2 => (k.block g (Nat.lt_of_lt_of_le h1 h.size) h2).trans (h.block g h1 h2)⟩
/-- J stands whatever the iterator does to its own blocks. -/
def StandsM {β : Type} (J : (Nat → Prop) → β → World → Prop) : Prop :=
  ∀ M M' s W W', J M s W → Moves M W W' → (∀ g, M' g → M g ∨ W.heap.size ≤ g ∧ g < W'.heap.size) → J M' s W'
/-- .. and whatever is done to blocks beyond B that are no cells. -/
def StandsB {β : Type} (B : Nat) (J : (Nat → Prop) → β → World → Prop) : Prop :=
  ∀ M M' s W W', J M s W → MovesB B M W W' → (∀ g, M' g → M g ∨ W.heap.size ≤ g ∧ g < W'.heap.size) → J M' s W'
theorem StandsB.moves {β : Type} {B : Nat} {J : (Nat → Prop) → β → World → Prop} (h : StandsB B J) : StandsM J :=
  fun M M' s W W' hj hm hM => h M M' s W W' hj (hm.toB B) hM
theorem StandsB.alloc {β : Type} {B : Nat} {J : (Nat → Prop) → β → World → Prop} (h : StandsB B J) {M : Nat → Prop} {s : β} {W : World} (o : Obj) (hj : J M s W) : J M s (W.alloc o) :=
  h M M s W _ hj ⟨rfl, rfl, rfl, by simp, fun g h1 _ _ => Below.heap_alloc _ _ _ h1⟩ (fun g hg => .inl hg)
theorem StandsB.putObj {β : Type} {B : Nat} {J : (Nat → Prop) → β → World → Prop} (h : StandsB B J) {M : Nat → Prop} {s : β} {W : World} {l : Nat} {o : Obj} (o' : Obj) (hj : J M s W) (hB : B ≤ l) (hl : W.heap[l]? = some o) (ho : o.isCells = false) : J M s (W.putObj l o') := by
  have hg := grownBy_putObj' W l o'
  refine h M M s W _ hj ⟨hg.os, hg.tape, hg.output, hg.size, fun g h1 _ h3 => hg.block g h1 (fun e => ?_)⟩ (fun g hg => .inl hg)
  cases e
  rcases h3 with h3 | h3
  · omega
  · have := h3 o hl; rw [ho] at this; cases this
theorem KeepsFrom.below {B : Nat} {A C : World} (h : Below A.heap.size A C) : KeepsFrom B A C := ⟨h.size, fun k _ _ hk _ => (h.block k (Array.getElem?_eq_some_iff.1 hk).1).trans hk⟩
section
variable {F : Fence} {n : Nat} {P : Program}
/-- What an iterator promises that keeps memory of its own: it begins with the blocks of M₀; each thing that comes is handed to the loop's round, in order. -/
def SeqM {α : Type} (F : Fence) (n : Nat) (P : Program) (g : Nat) (lb : Array Value) (encs : α → Array Value) (M₀ : Nat → Prop) (S Sp : List α → Prop) (R : List α → α → Prop) (w : World) : Prop :=
  ∀ (l : Nat) (J Jx : (Nat → Prop) → List α → World → Prop) (W : World), KeptM M₀ w W → StandsM J → StandsM Jx →
    (∀ M pre x W1, J M pre W1 → R pre x → YieldAt F (n - 1) P l (encs x) W1 fun e W' =>
      (e = .returned (.bool true) ∧ J M (pre ++ [x]) W' ∧ KeptM M W1 W') ∨ (e = .returned (.bool false) ∧ Jx M (pre ++ [x]) W')) →
    J M₀ [] W →
    CallsIn F n P g (#[.func (.yield l) #[] #[]] ++ lb) W fun e W' => (∃ v, e = .returned v) ∧ ((∃ M xs, S xs ∧ J M xs W') ∨ (∃ M pre, Sp pre ∧ Jx M pre W'))
theorem SeqM.later {α : Type} {F : Fence} {n : Nat} {P : Program} {g : Nat} {lb : Array Value} {encs : α → Array Value} {M₀ : Nat → Prop} {S Sp : List α → Prop} {R : List α → α → Prop} {w w' : World} (h : SeqM F n P g lb encs M₀ S Sp R w) (hk : KeptM M₀ w w') : SeqM F n P g lb encs M₀ S Sp R w' :=
  fun l J Jx W hW => h l J Jx W (hk.trans hW)
/-- How a round may be left. -/
def roundPost {α : Type} (B : Nat) (M : Nat → Prop) (I : (Nat → Prop) → List α → World → Prop) (Ix : Code → (Nat → Prop) → List α → World → Prop) (xs : List α) (W : World) : Exit → Act → World → Prop
  | .normal, _, W' => KeepsFrom B W W' ∧ KeptM M W W' ∧ I M xs W'
  | .ret, _, W' => KeepsFrom B W W' ∧ Ix .ret M xs W'
  | .exit id, _, W' => KeepsFrom B W W' ∧ Ix (.exit id) M xs W'
  | .goto t, _, W' => KeepsFrom B W W' ∧ Ix (.goto t) M xs W'
  | .panic _, _, _ => False
  | .outgrown, _, _ => False
theorem keptM_putObj {M : Nat → Prop} {W : World} {l : Nat} (o : Obj) (h : ¬ M l) : KeptM M W (W.putObj l o) :=
  ⟨(grownBy_putObj' W l o).size, fun g h1 h2 => (grownBy_putObj' W l o).block g h1 (fun e => h (by cases e; exact h2))⟩
/-- The rule of a loop over such an iterator. -/
theorem wpIn_rangeM {α : Type} {g : Operand} {ps : Array Tmp} {assign body : Code} {Q : Exit → Act → World → Prop} {a : Act} {w : World}
    (hro : F.round = none) (h1 : 1 ≤ n) {gf : Nat} {lb : Array Value} (hg : a.eval g = .func (.func gf) #[] lb) (hFg : F.fn gf) (eg : ∀ args w, (callFunc gf args).run P w = .ok (.enter gf args) w)
    {encs : α → Array Value} {M₀ : Nat → Prop} {S Sp : List α → Prop} {R : List α → α → Prop} (hseq : SeqM F (n - 1) P gf lb encs M₀ S Sp R w) (hM₀ : ∀ k, M₀ k → k < w.heap.size) (hps : ∀ x, (encs x).size = ps.size)
    (I : (Nat → Prop) → List α → World → Prop) (Ix : Code → (Nat → Prop) → List α → World → Prop) (hI : StandsB w.heap.size I) (hIx : ∀ c, StandsB w.heap.size (Ix c)) (h0 : I M₀ [] w) (Ax : α → Act → World → Prop) (hAx : ∀ x a', OwnFrom w.heap.size (fun (_ : Unit) W => Ax x a' W))
    (hassign : ∀ (l : Nat) (M : Nat → Prop) (pre : List α) (x : α) (W : World) (K : Act → World → Prop), I M pre W → (∀ a' W', KeepsFrom w.heap.size W W' → KeptM M W W' → I M pre W' → Ax x a' W' → K a' W') →
      assign.wpIn (F.inRound l) (n - 1 - 1) P (Exit.then K (fun _ _ _ => False)) { tmps := (ps.zip (encs x)).foldl (fun t (p, v) => t.setIfInBounds p v) a.tmps, defers := [] } W)
    (hbody : ∀ (l : Nat) (M : Nat → Prop) (pre : List α) (x : α) (a' : Act) (W : World), I M pre W → Ax x a' W → R pre x → body.wpIn (F.inRound l) (n - 1 - 1) P (roundPost w.heap.size M I Ix (pre ++ [x]) W) a' W)
    (hdone : ∀ (D : Nat) (M : Nat → Prop) (xs : List α) (W : World), w.heap.size ≤ D → S xs → I M xs W → W.heap[D]? = some (.deferred (some [])) → Q .normal { a with defers := { target := .collected D, args := #[] } :: a.defers } W)
    (hstop : ∀ (D : Nat) (c : Code) (M : Nat → Prop) (pre : List α) (W : World), w.heap.size ≤ D → Sp pre → Ix c M pre W → W.heap[D]? = some (.deferred (some [])) → c.wpIn F n P Q { a with defers := { target := .collected D, args := #[] } :: a.defers } W) :
    (Code.rangeFunc g ps assign body).wpIn F n P Q a w := by
  obtain ⟨D, hD⟩ : ∃ D, D = w.heap.size := ⟨_, rfl⟩
  refine wpIn_rangeFunc ?_
  intro fn hfn
  rw [hro]
  obtain ⟨rec, hrec⟩ : ∃ rec : LoopState → Option Code → Loop, rec = fun st pe => { state := st, pending := pe, fn, tmps := a.tmps, params := ps, assign, body, defers := D } := ⟨_, rfl⟩
  obtain ⟨V, hV⟩ : ∃ V, (w.alloc (.deferred (some []))).alloc (.loop (rec .ready none)) = V := ⟨_, rfl⟩
  have vL : V.heap[D + 1]? = some (.loop (rec .ready none)) := by
    rw [← hV, hD]; have := World.alloc_heap_new (w.alloc (.deferred (some []))) (.loop (rec .ready none)); rwa [World.size_alloc] at this
  have vD : V.heap[D]? = some (.deferred (some [])) := by
    rw [← hV, hD]; exact (Below.heap_alloc _ _ _ (by simp)).trans (World.alloc_heap_new w _)
  have vI : I M₀ [] V := by rw [← hV]; exact hI.alloc _ (hI.alloc _ h0)
  have vb : Below w.heap.size w V := by rw [← hV]; exact ((Below.refl _ w).alloc (Nat.le_refl _) _).alloc (by simp) _
  refine ⟨D + 1, [{ target := .collected D, args := #[] }], V, { target := .fn (.func gf) lb, args := #[.func (.yield (D + 1)) #[] #[]] }, V, gf, #[.func (.yield (D + 1)) #[] #[]] ++ lb, V, ?_, ?_, ?_, ?_, fun _ => h1, ?_⟩
  · rw [← hV, hrec, hD]; exact run_enterLoop_outer _ _ _ _ _
  · simp only [resolve, hg]
    simp [go_sem]
  · intro f' hf'; simp [Target.leads] at hf'; subst hf'; exact hFg
  · simp [invoke, go_sem, eg]
  rw [← hD] at hI hIx hAx hassign hbody hdone hstop hM₀
  -- the two blocks of the loop's own: its record and what is deferred; neither is the iterator's
  let Two : Option Code → LoopState → (Nat → Prop) → World → Prop := fun c st M W => W.heap[D + 1]? = some (.loop (rec st c)) ∧ W.heap[D]? = some (.deferred (some [])) ∧ ¬ M D ∧ ¬ M (D + 1)
  have two_moves : ∀ c st M M' W W', Two c st M W → Moves M W W' → (∀ k, M' k → M k ∨ W.heap.size ≤ k ∧ k < W'.heap.size) → Two c st M' W' := fun c st M M' W W' ⟨t1, t2, t3, t4⟩ hm hM' => by
    have s1 := (Array.getElem?_eq_some_iff.1 t1).1
    have s2 := (Array.getElem?_eq_some_iff.1 t2).1
    refine ⟨(hm.block _ s1 t4).trans t1, (hm.block _ s2 t3).trans t2, fun h => ?_, fun h => ?_⟩ <;> rcases hM' _ h with h | h
    · exact t3 h
    · omega
    · exact t4 h
    · omega
  refine (hseq (D + 1) (fun M pre W => I M pre W ∧ Two none .ready M W) (fun M pre W => ∃ c, Ix c M pre W ∧ Two (some c) .done M W) V (.below vb)
    (fun M M' s W W' ⟨j1, j2⟩ hm hM' => ⟨hI.moves M M' s W W' j1 hm hM', two_moves _ _ M M' W W' j2 hm hM'⟩)
    (fun M M' s W W' ⟨c, j1, j2⟩ hm hM' => ⟨c, (hIx c).moves M M' s W W' j1 hm hM', two_moves _ _ M M' W W' j2 hm hM'⟩)
    ?_ ⟨vI, vL, vD, fun h => (Nat.lt_irrefl _ (hM₀ _ h)), fun h => by have := hM₀ _ h; omega⟩).mono ?_
  · rintro M pre x W ⟨hi, tl, td, m1, m2⟩ hlen
    have hy := run_yield (P := P) (args := encs x) tl (by rw [hrec]; exact hps x)
    rw [hrec] at hy
    refine ⟨fn, _, assign, body, hy, roundIn_of_wpIn hfn (hassign _ M pre x W _ hi ?_)⟩
    clear hy
    intro a' Wa ka pa ia ax
    have al := ka.same _ _ (by omega) tl rfl
    have ad := ka.same _ _ (Nat.le_refl _) td rfl
    have asz := (Array.getElem?_eq_some_iff.1 al).1
    refine ⟨_, run_beginRound al (by rw [hrec]), ?_⟩
    obtain ⟨Wb, hWb⟩ : ∃ Wb, Wa.putObj (D + 1) (.loop { rec .ready none with state := .busy }) = Wb := ⟨_, rfl⟩
    have bl : Wb.heap[D + 1]? = some (.loop { rec .ready none with state := .busy }) := by rw [← hWb]; exact World.putObj_heap_same asz
    have bd : Wb.heap[D]? = some (.deferred (some [])) := by rw [← hWb]; exact (World.putObj_heap_other (by omega)).trans ad
    have bk : KeptM M Wa Wb := by rw [← hWb]; exact keptM_putObj _ m2
    have bi : I M pre Wb := by rw [← hWb]; exact hI.putObj _ ia (by omega) al rfl
    have bx : Ax x a' Wb := by rw [← hWb]; exact (hAx x a').putObj (s := ()) _ ax (by omega) al rfl
    rw [hWb]
    refine wpIn_mono (hbody _ M pre x a' Wb bi bx hlen) ?_
    have fin : ∀ (j : Option Code) (W3 : World), KeepsFrom D Wb W3 →
        ∃ W4, (Instr.endRound (D + 1) j).run P W3 = .ok (.bool j.isNone) W4 ∧ Two j (if j.isNone then .ready else .done) M W4 ∧ KeptM M W3 W4 ∧ W4 = W3.putObj (D + 1) (.loop (rec (if j.isNone then .ready else .done) j)) ∧ W3.heap[D + 1]? = some (.loop { rec .ready none with state := .busy }) := fun j W3 k3 => by
      have l3 := k3.same _ _ (by omega) bl rfl
      have d3 := k3.same _ _ (Nat.le_refl _) bd rfl
      refine ⟨_, ?_, ⟨World.putObj_heap_same (Array.getElem?_eq_some_iff.1 l3).1, (World.putObj_heap_other (by omega)).trans d3, m1, m2⟩, keptM_putObj _ m2, rfl, l3⟩
      have := run_endRound (P := P) j l3
      rw [hrec] at this ⊢
      exact this
    rintro e a3 W3 hp
    cases e with
    | normal =>
      obtain ⟨k3, p3, i3⟩ := hp
      obtain ⟨W4, hr, h2, h3, h4, l3⟩ := fin none W3 k3
      exact ⟨_, _, hr, .inl ⟨rfl, ⟨by rw [h4]; exact hI.putObj _ i3 (by omega) l3 rfl, h2⟩, ((pa.trans bk).trans p3).trans h3⟩⟩
    | ret =>
      obtain ⟨k3, i3⟩ := hp
      obtain ⟨W4, hr, h2, _, h4, l3⟩ := fin (some .ret) W3 k3
      exact ⟨_, _, hr, .inr ⟨rfl, .ret, by rw [h4]; exact (hIx _).putObj _ i3 (by omega) l3 rfl, h2⟩⟩
    | exit id =>
      obtain ⟨k3, i3⟩ := hp
      obtain ⟨W4, hr, h2, _, h4, l3⟩ := fin (some (.exit id)) W3 k3
      exact ⟨_, _, hr, .inr ⟨rfl, .exit id, by rw [h4]; exact (hIx _).putObj _ i3 (by omega) l3 rfl, h2⟩⟩
    | goto t =>
      obtain ⟨k3, i3⟩ := hp
      obtain ⟨W4, hr, h2, _, h4, l3⟩ := fin (some (.goto t)) W3 k3
      exact ⟨_, _, hr, .inr ⟨rfl, .goto t, by rw [h4]; exact (hIx _).putObj _ i3 (by omega) l3 rfl, h2⟩⟩
    | panic ch => exact hp.elim
    | outgrown => exact hp.elim
  · rintro e W2 ⟨⟨v, rfl⟩, (⟨M, xs, hS, hi, tl, td, _, _⟩ | ⟨M, pre, hSp, c, hi, tl, td, _, _⟩)⟩
    · exact ⟨none, _, by have := run_endLoop (P := P) tl (by rw [hrec]; simp); rw [hrec] at this; exact this, hdone _ M xs _ (Nat.le_refl _) hS (hI.putObj _ hi (by omega) tl rfl) ((World.putObj_heap_other (by omega)).trans td)⟩
    · exact ⟨some c, _, by have := run_endLoop (P := P) tl (by rw [hrec]; simp); rw [hrec] at this; exact this, hstop _ c M pre _ (Nat.le_refl _) hSp ((hIx c).putObj _ hi (by omega) tl rfl) ((World.putObj_heap_other (by omega)).trans td)⟩
/-- An append that tells where the new row lies, inside a fence. -/
theorem wpListIn_append_lies (w : World) {ops : Array Oper} {rest : List Oper} {o : Oper} {a : Act} {Q : Exit → Act → World → Prop} (hgd : o.guard = none) (s x : Operand) (t : TypeId)
    (ho : o.op = .call { callee := .builtin .append, args := #[s, x], argTypes := #[t, t] })
    (base : Nat) (e : TypeId) (i : TypeInfo) (z : Value) (size bytes : Nat) (ht : P.underlying t = some (.slice e)) (hi : P.info? e = some i) (hz : i.zero = some z)
    (hsize : i.size = size) (hby : i.bytes = bytes) (hzs : z.cells.size = size) (hsz : 0 < size)
    (v : Value) (k : Nat) (xs : List Value) (hs : a.eval s = v) (hown : w.ownsRow base e size v k xs)
    (ad : Addr) (m c : Nat) (news : List Value) (hx : a.eval x = .slice (some ad) m c) (hl : news.length = m * size) (hnews : ∀ j u, news[j]? = some u → w.cell? (ad.add j) = some u) (h1 : ∀ u ∈ news, u.oneCell' = true)
    (hm : 0 < m) (h63 : k + m ≤ maxLen) (hbytes : (k + m) * bytes ≤ 140737488355328) (hbase : base ≤ w.heap.size) (H : Nat) (hH : w.heap.size = H)
    (h : ∀ g cap w', w'.ownsRow base e size (.slice (some ⟨g, 0, none⟩) (k + m) cap) (k + m) (xs ++ news) → w.grownBy w' v.ownBlock → (v.ownBlock = some g ∨ g = H) → g < w'.heap.size → wpListIn F n P ops Q rest (a.put o.dst (.slice (some ⟨g, 0, none⟩) (k + m) cap)) w') :
    wpListIn F n P ops Q (o :: rest) a w := by
  refine wpListIn_plain hgd fun K hK => ?_
  obtain ⟨g, cap, w', hr, h2, h3, h4, h5⟩ := run_append_lies (P := P) w t o.type base e i z size bytes ht hi hz hsize hby hzs hsz v k xs hown ad m c news hl hnews h1 hm h63 hbytes hbase H hH
  unfold Oper.wpIn
  refine ⟨?_, ?_⟩
  · simp [Oper.about, ho, resolve, Target.leads, Sem.run_pure]
  · rw [Oper.semAt_plain F _ _ (by rw [ho]; intro c hc'; cases hc')]
    simp [execOp, ho, resolve, invoke, builtin, hs, hx, hr, Result.andThen]
    exact hK _ _ (h g cap w' h2 h3 h4 h5)
end
end Go.Proofs.YtconcnndghmdfaaGreatDoor

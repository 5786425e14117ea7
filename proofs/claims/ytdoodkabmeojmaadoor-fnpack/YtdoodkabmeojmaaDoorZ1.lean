/- IterM, Val, RngN, RngB, RngP, RngC, RngT, RngK, RngS, RngA, RngQ, one behind the other. -/
import Derived.RangeFuncNested
import Derived.RangeFuncCalls
import Derived.RangeFuncBox
import Derived.Deep.AppendLies
import Derived.OwnWalkIn
import Derived.Test.YtdoodkabmeojmaaDoorOwn
import Derived.Test.YtdoodkabmeojmaaDoorArr
import Derived.Test.YtdoodkabmeojmaaDoorRows
import Derived.Test.YtdoodkabmeojmaaDoorRangeF
import Derived.OwnWalk
import Derived.Test.YtdoodkabmeojmaaDoorSrc
import Derived.Deep.QuietTactic
import Derived.BigRegion
import Derived.BigQuiet
import Derived.Test.YtdoodkabmeojmaaDoorRangeN
import Derived.Test.YtdoodkabmeojmaaDoorRangeB
import Derived.Test.YtdoodkabmeojmaaDoorRangeM
import Derived.Test.YtdoodkabmeojmaaDoorRangeBit
import Derived.Deep.RegionWith
/- A loop over an iterator that keeps memory of its own (a set M of blocks, which grows): what such an iterator promises, and the loop's rule. No program is named here. -/
namespace Go.Proofs.YtdoodkabmeojmaaDoor
open Go Go.RowKit
/-- What an iterator's step does: the blocks of M may turn, new ones may be made, all others stay. -/
structure Moves (M : Nat → Prop) (W W' : World) : Prop where
  os : W'.os = W.os
  tape : W'.tape = W.tape
  output : W'.output = W.output
  size : W.heap.size ≤ W'.heap.size
  block : ∀ g, g < W.heap.size → ¬ M g → W'.heap[g]? = W.heap[g]?
/-- What a round does: the blocks of M stay. -/
structure KeptM (M : Nat → Prop) (W W' : World) : Prop where
  size : W.heap.size ≤ W'.heap.size
  block : ∀ g, g < W.heap.size → M g → W'.heap[g]? = W.heap[g]?
theorem KeptM.refl (M : Nat → Prop) (W : World) : KeptM M W W := ⟨Nat.le_refl _, fun _ _ _ => rfl⟩
theorem KeptM.trans {M : Nat → Prop} {A B C : World} (h : KeptM M A B) (k : KeptM M B C) : KeptM M A C :=
  ⟨Nat.le_trans h.size k.size, fun g h1 h2 => (k.block g (Nat.lt_of_lt_of_le h1 h.size) h2).trans (h.block g h1 h2)⟩
theorem KeptM.below {M : Nat → Prop} {A B : World} (h : Below A.heap.size A B) : KeptM M A B := ⟨h.size, fun g h1 _ => h.block g h1⟩
/-- .. and whatever else is done to blocks beyond B that are no cells (the loop's own record, and what is deferred). -/
structure MovesB (B : Nat) (M : Nat → Prop) (W W' : World) : Prop where
  os : W'.os = W.os
  tape : W'.tape = W.tape
  output : W'.output = W.output
  size : W.heap.size ≤ W'.heap.size
  block : ∀ g, g < W.heap.size → ¬ M g → (g < B ∨ ∀ o, W.heap[g]? = some o → o.isCells = true) → W'.heap[g]? = W.heap[g]?
theorem Moves.toB {M : Nat → Prop} {A B : World} (h : Moves M A B) (b : Nat) : MovesB b M A B := ⟨h.os, h.tape, h.output, h.size, fun g h1 h2 _ => h.block g h1 h2⟩
theorem MovesB.toBelow {B b : Nat} {M : Nat → Prop} {w W W' : World} (h : MovesB B M W W') (hb : Below b w W) (hw : b ≤ W.heap.size) (hB : b ≤ B) (hM : ∀ g, M g → b ≤ g) : Below b w W' :=
  hb.trans ⟨h.os, h.tape, h.output, h.size, fun g hg => h.block g (by omega) (fun hm => by have := hM g hm; omega) (.inl (by omega))⟩
theorem MovesB.cells {B g : Nat} {M : Nat → Prop} {W W' : World} {c : Array Value} {t : TypeId} {m : Nat × Nat} (h : MovesB B M W W') (hM : ¬ M g) (hg : W.heap[g]? = some (.cells c t m)) : W'.heap[g]? = some (.cells c t m) :=
  (h.block g (Array.getElem?_eq_some_iff.1 hg).1 hM (.inr (fun o ho => by rw [hg] at ho; cases ho; rfl))).trans hg
theorem Moves.below {M : Nat → Prop} {A B : World} (h : Below A.heap.size A B) : Moves M A B := ⟨h.os, h.tape, h.output, h.size, fun g h1 _ => h.block g h1⟩
theorem Moves.trans {M : Nat → Prop} {A B C : World} (h : Moves M A B) (k : Moves M B C) : Moves M A C :=
  ⟨k.os.trans h.os, k.tape.trans h.tape, k.output.trans h.output, Nat.le_trans h.size k.size, fun g h1 h2 => (k.block g (Nat.lt_of_lt_of_le h1 h.size) h2).trans (h.block g h1 h2)⟩
/-- J stands whatever the iterator does to its own blocks. -/
def StandsM {β : Type} (J : (Nat → Prop) → β → World → Prop) : Prop :=
  ∀ M M' s W W', J M s W → Moves M W W' → (∀ g, M' g → M g ∨ W.heap.size ≤ g ∧ g < W'.heap.size) → J M' s W'
/-- .. and whatever is done to blocks beyond B that are no cells. -/
def StandsB {β : Type} (B : Nat) (J : (Nat → Prop) → β → World → Prop) : Prop :=
  ∀ M M' s W W', J M s W → MovesB B M W W' → (∀ g, M' g → M g ∨ W.heap.size ≤ g ∧ g < W'.heap.size) → J M' s W'
theorem StandsB.moves {β : Type} {B : Nat} {J : (Nat → Prop) → β → World → Prop} (h : StandsB B J) : StandsM J :=
  fun M M' s W W' hj hm hM => h M M' s W W' hj (hm.toB B) hM
theorem StandsB.alloc {β : Type} {B : Nat} {J : (Nat → Prop) → β → World → Prop} (h : StandsB B J) {M : Nat → Prop} {s : β} {W : World} (o : Obj) (hj : J M s W) : J M s (W.alloc o) :=
  h M M s W _ hj ⟨rfl, rfl, rfl, by simp, fun g h1 _ _ => Below.heap_alloc _ _ _ h1⟩ (fun g hg => .inl hg)
theorem StandsB.putObj {β : Type} {B : Nat} {J : (Nat → Prop) → β → World → Prop} (h : StandsB B J) {M : Nat → Prop} {s : β} {W : World} {l : Nat} {o : Obj} (o' : Obj) (hj : J M s W) (hB : B ≤ l) (hl : W.heap[l]? = some o) (ho : o.isCells = false) : J M s (W.putObj l o') := by
  have hg := grownBy_putObj' W l o'
  refine h M M s W _ hj ⟨hg.os, hg.tape, hg.output, hg.size, fun g h1 _ h3 => hg.block g h1 (fun e => ?_)⟩ (fun g hg => .inl hg)
  cases e
  rcases h3 with h3 | h3
  · omega
  · have := h3 o hl; rw [ho] at this; cases this
theorem KeepsFrom.below {B : Nat} {A C : World} (h : Below A.heap.size A C) : KeepsFrom B A C := ⟨h.size, fun k _ _ hk _ => (h.block k (Array.getElem?_eq_some_iff.1 hk).1).trans hk⟩
section
variable {F : Fence} {n : Nat} {P : Program}
/-- What an iterator promises that keeps memory of its own: it begins with the blocks of M₀; each thing that comes is handed to the loop's round, in order. -/
def SeqM {α : Type} (F : Fence) (n : Nat) (P : Program) (g : Nat) (lb : Array Value) (encs : α → Array Value) (M₀ : Nat → Prop) (S Sp : List α → Prop) (R : List α → α → Prop) (w : World) : Prop :=
  ∀ (l : Nat) (J Jx : (Nat → Prop) → List α → World → Prop) (W : World), KeptM M₀ w W → StandsM J → StandsM Jx →
    (∀ M pre x W1, J M pre W1 → R pre x → YieldAt F (n - 1) P l (encs x) W1 fun e W' =>
      (e = .returned (.bool true) ∧ J M (pre ++ [x]) W' ∧ KeptM M W1 W') ∨ (e = .returned (.bool false) ∧ Jx M (pre ++ [x]) W')) →
    J M₀ [] W →
    CallsIn F n P g (#[.func (.yield l) #[] #[]] ++ lb) W fun e W' => (∃ v, e = .returned v) ∧ ((∃ M xs, S xs ∧ J M xs W') ∨ (∃ M pre, Sp pre ∧ Jx M pre W'))
theorem SeqM.later {α : Type} {F : Fence} {n : Nat} {P : Program} {g : Nat} {lb : Array Value} {encs : α → Array Value} {M₀ : Nat → Prop} {S Sp : List α → Prop} {R : List α → α → Prop} {w w' : World} (h : SeqM F n P g lb encs M₀ S Sp R w) (hk : KeptM M₀ w w') : SeqM F n P g lb encs M₀ S Sp R w' :=
  fun l J Jx W hW => h l J Jx W (hk.trans hW)
/-- How a round may be left. -/
def roundPost {α : Type} (B : Nat) (M : Nat → Prop) (I : (Nat → Prop) → List α → World → Prop) (Ix : Code → (Nat → Prop) → List α → World → Prop) (xs : List α) (W : World) : Exit → Act → World → Prop
  | .normal, _, W' => KeepsFrom B W W' ∧ KeptM M W W' ∧ I M xs W'
  | .ret, _, W' => KeepsFrom B W W' ∧ Ix .ret M xs W'
  | .exit id, _, W' => KeepsFrom B W W' ∧ Ix (.exit id) M xs W'
  | .goto t, _, W' => KeepsFrom B W W' ∧ Ix (.goto t) M xs W'
  | .panic _, _, _ => False
  | .outgrown, _, _ => False
theorem keptM_putObj {M : Nat → Prop} {W : World} {l : Nat} (o : Obj) (h : ¬ M l) : KeptM M W (W.putObj l o) :=
  ⟨(grownBy_putObj' W l o).size, fun g h1 h2 => (grownBy_putObj' W l o).block g h1 (fun e => h (by cases e; exact h2))⟩
/-- The rule of a loop over such an iterator. -/
theorem wpIn_rangeM {α : Type} {g : Operand} {ps : Array Tmp} {assign body : Code} {Q : Exit → Act → World → Prop} {a : Act} {w : World}
    (hro : F.round = none) (h1 : 1 ≤ n) {gf : Nat} {lb : Array Value} (hg : a.eval g = .func (.func gf) #[] lb) (hFg : F.fn gf) (eg : ∀ args w, (callFunc gf args).run P w = .ok (.enter gf args) w)
    {encs : α → Array Value} {M₀ : Nat → Prop} {S Sp : List α → Prop} {R : List α → α → Prop} (hseq : SeqM F (n - 1) P gf lb encs M₀ S Sp R w) (hM₀ : ∀ k, M₀ k → k < w.heap.size) (hps : ∀ x, (encs x).size = ps.size)
    (I : (Nat → Prop) → List α → World → Prop) (Ix : Code → (Nat → Prop) → List α → World → Prop) (hI : StandsB w.heap.size I) (hIx : ∀ c, StandsB w.heap.size (Ix c)) (h0 : I M₀ [] w) (Ax : α → Act → World → Prop) (hAx : ∀ x a', OwnFrom w.heap.size (fun (_ : Unit) W => Ax x a' W))
    (hassign : ∀ (l : Nat) (M : Nat → Prop) (pre : List α) (x : α) (W : World) (K : Act → World → Prop), I M pre W → (∀ a' W', KeepsFrom w.heap.size W W' → KeptM M W W' → I M pre W' → Ax x a' W' → K a' W') →
      assign.wpIn (F.inRound l) (n - 1 - 1) P (Exit.then K (fun _ _ _ => False)) { tmps := (ps.zip (encs x)).foldl (fun t (p, v) => t.setIfInBounds p v) a.tmps, defers := [] } W)
    (hbody : ∀ (l : Nat) (M : Nat → Prop) (pre : List α) (x : α) (a' : Act) (W : World), I M pre W → Ax x a' W → R pre x → body.wpIn (F.inRound l) (n - 1 - 1) P (roundPost w.heap.size M I Ix (pre ++ [x]) W) a' W)
    (hdone : ∀ (D : Nat) (M : Nat → Prop) (xs : List α) (W : World), w.heap.size ≤ D → S xs → I M xs W → W.heap[D]? = some (.deferred (some [])) → Q .normal { a with defers := { target := .collected D, args := #[] } :: a.defers } W)
    (hstop : ∀ (D : Nat) (c : Code) (M : Nat → Prop) (pre : List α) (W : World), w.heap.size ≤ D → Sp pre → Ix c M pre W → W.heap[D]? = some (.deferred (some [])) → c.wpIn F n P Q { a with defers := { target := .collected D, args := #[] } :: a.defers } W) :
    (Code.rangeFunc g ps assign body).wpIn F n P Q a w := by
  obtain ⟨D, hD⟩ : ∃ D, D = w.heap.size := ⟨_, rfl⟩
  refine wpIn_rangeFunc ?_
  intro fn hfn
  rw [hro]
  obtain ⟨rec, hrec⟩ : ∃ rec : LoopState → Option Code → Loop, rec = fun st pe => { state := st, pending := pe, fn, tmps := a.tmps, params := ps, assign, body, defers := D } := ⟨_, rfl⟩
  obtain ⟨V, hV⟩ : ∃ V, (w.alloc (.deferred (some []))).alloc (.loop (rec .ready none)) = V := ⟨_, rfl⟩
  have vL : V.heap[D + 1]? = some (.loop (rec .ready none)) := by
    rw [← hV, hD]; have := World.alloc_heap_new (w.alloc (.deferred (some []))) (.loop (rec .ready none)); rwa [World.size_alloc] at this
  have vD : V.heap[D]? = some (.deferred (some [])) := by
    rw [← hV, hD]; exact (Below.heap_alloc _ _ _ (by simp)).trans (World.alloc_heap_new w _)
  have vI : I M₀ [] V := by rw [← hV]; exact hI.alloc _ (hI.alloc _ h0)
  have vb : Below w.heap.size w V := by rw [← hV]; exact ((Below.refl _ w).alloc (Nat.le_refl _) _).alloc (by simp) _
  refine ⟨D + 1, [{ target := .collected D, args := #[] }], V, { target := .fn (.func gf) lb, args := #[.func (.yield (D + 1)) #[] #[]] }, V, gf, #[.func (.yield (D + 1)) #[] #[]] ++ lb, V, ?_, ?_, ?_, ?_, fun _ => h1, ?_⟩
  · rw [← hV, hrec, hD]; exact run_enterLoop_outer _ _ _ _ _
  · simp only [resolve, hg]
    simp [go_sem]
  · intro f' hf'; simp [Target.leads] at hf'; subst hf'; exact hFg
  · simp [invoke, go_sem, eg]
  rw [← hD] at hI hIx hAx hassign hbody hdone hstop hM₀
  -- the two blocks of the loop's own: its record and what is deferred; neither is the iterator's
  let Two : Option Code → LoopState → (Nat → Prop) → World → Prop := fun c st M W => W.heap[D + 1]? = some (.loop (rec st c)) ∧ W.heap[D]? = some (.deferred (some [])) ∧ ¬ M D ∧ ¬ M (D + 1)
  have two_moves : ∀ c st M M' W W', Two c st M W → Moves M W W' → (∀ k, M' k → M k ∨ W.heap.size ≤ k ∧ k < W'.heap.size) → Two c st M' W' := fun c st M M' W W' ⟨t1, t2, t3, t4⟩ hm hM' => by
    have s1 := (Array.getElem?_eq_some_iff.1 t1).1
    have s2 := (Array.getElem?_eq_some_iff.1 t2).1
    refine ⟨(hm.block _ s1 t4).trans t1, (hm.block _ s2 t3).trans t2, fun h => ?_, fun h => ?_⟩ <;> rcases hM' _ h with h | h
    · exact t3 h
    · omega
    · exact t4 h
    · omega
  refine (hseq (D + 1) (fun M pre W => I M pre W ∧ Two none .ready M W) (fun M pre W => ∃ c, Ix c M pre W ∧ Two (some c) .done M W) V (.below vb)
    (fun M M' s W W' ⟨j1, j2⟩ hm hM' => ⟨hI.moves M M' s W W' j1 hm hM', two_moves _ _ M M' W W' j2 hm hM'⟩)
    (fun M M' s W W' ⟨c, j1, j2⟩ hm hM' => ⟨c, (hIx c).moves M M' s W W' j1 hm hM', two_moves _ _ M M' W W' j2 hm hM'⟩)
    ?_ ⟨vI, vL, vD, fun h => (Nat.lt_irrefl _ (hM₀ _ h)), fun h => by have := hM₀ _ h; omega⟩).mono ?_
  · rintro M pre x W ⟨hi, tl, td, m1, m2⟩ hlen
    have hy := run_yield (P := P) (args := encs x) tl (by rw [hrec]; exact hps x)
    rw [hrec] at hy
    refine ⟨fn, _, assign, body, hy, roundIn_of_wpIn hfn (hassign _ M pre x W _ hi ?_)⟩
    clear hy
    intro a' Wa ka pa ia ax
    have al := ka.same _ _ (by omega) tl rfl
    have ad := ka.same _ _ (Nat.le_refl _) td rfl
    have asz := (Array.getElem?_eq_some_iff.1 al).1
    refine ⟨_, run_beginRound al (by rw [hrec]), ?_⟩
    obtain ⟨Wb, hWb⟩ : ∃ Wb, Wa.putObj (D + 1) (.loop { rec .ready none with state := .busy }) = Wb := ⟨_, rfl⟩
    have bl : Wb.heap[D + 1]? = some (.loop { rec .ready none with state := .busy }) := by rw [← hWb]; exact World.putObj_heap_same asz
    have bd : Wb.heap[D]? = some (.deferred (some [])) := by rw [← hWb]; exact (World.putObj_heap_other (by omega)).trans ad
    have bk : KeptM M Wa Wb := by rw [← hWb]; exact keptM_putObj _ m2
    have bi : I M pre Wb := by rw [← hWb]; exact hI.putObj _ ia (by omega) al rfl
    have bx : Ax x a' Wb := by rw [← hWb]; exact (hAx x a').putObj (s := ()) _ ax (by omega) al rfl
    rw [hWb]
    refine wpIn_mono (hbody _ M pre x a' Wb bi bx hlen) ?_
    have fin : ∀ (j : Option Code) (W3 : World), KeepsFrom D Wb W3 →
        ∃ W4, (Instr.endRound (D + 1) j).run P W3 = .ok (.bool j.isNone) W4 ∧ Two j (if j.isNone then .ready else .done) M W4 ∧ KeptM M W3 W4 ∧ W4 = W3.putObj (D + 1) (.loop (rec (if j.isNone then .ready else .done) j)) ∧ W3.heap[D + 1]? = some (.loop { rec .ready none with state := .busy }) := fun j W3 k3 => by
      have l3 := k3.same _ _ (by omega) bl rfl
      have d3 := k3.same _ _ (Nat.le_refl _) bd rfl
      refine ⟨_, ?_, ⟨World.putObj_heap_same (Array.getElem?_eq_some_iff.1 l3).1, (World.putObj_heap_other (by omega)).trans d3, m1, m2⟩, keptM_putObj _ m2, rfl, l3⟩
      have := run_endRound (P := P) j l3
      rw [hrec] at this ⊢
      exact this
    rintro e a3 W3 hp
    cases e with
    | normal =>
      obtain ⟨k3, p3, i3⟩ := hp
      obtain ⟨W4, hr, h2, h3, h4, l3⟩ := fin none W3 k3
      exact ⟨_, _, hr, .inl ⟨rfl, ⟨by rw [h4]; exact hI.putObj _ i3 (by omega) l3 rfl, h2⟩, ((pa.trans bk).trans p3).trans h3⟩⟩
    | ret =>
      obtain ⟨k3, i3⟩ := hp
      obtain ⟨W4, hr, h2, _, h4, l3⟩ := fin (some .ret) W3 k3
      exact ⟨_, _, hr, .inr ⟨rfl, .ret, by rw [h4]; exact (hIx _).putObj _ i3 (by omega) l3 rfl, h2⟩⟩
    | exit id =>
      obtain ⟨k3, i3⟩ := hp
      obtain ⟨W4, hr, h2, _, h4, l3⟩ := fin (some (.exit id)) W3 k3
      exact ⟨_, _, hr, .inr ⟨rfl, .exit id, by rw [h4]; exact (hIx _).putObj _ i3 (by omega) l3 rfl, h2⟩⟩
    | goto t =>
      obtain ⟨k3, i3⟩ := hp
      obtain ⟨W4, hr, h2, _, h4, l3⟩ := fin (some (.goto t)) W3 k3
      exact ⟨_, _, hr, .inr ⟨rfl, .goto t, by rw [h4]; exact (hIx _).putObj _ i3 (by omega) l3 rfl, h2⟩⟩
    | panic ch => exact hp.elim
    | outgrown => exact hp.elim
  · rintro e W2 ⟨⟨v, rfl⟩, (⟨M, xs, hS, hi, tl, td, _, _⟩ | ⟨M, pre, hSp, c, hi, tl, td, _, _⟩)⟩
    · exact ⟨none, _, by have := run_endLoop (P := P) tl (by rw [hrec]; simp); rw [hrec] at this; exact this, hdone _ M xs _ (Nat.le_refl _) hS (hI.putObj _ hi (by omega) tl rfl) ((World.putObj_heap_other (by omega)).trans td)⟩
    · exact ⟨some c, _, by have := run_endLoop (P := P) tl (by rw [hrec]; simp); rw [hrec] at this; exact this, hstop _ c M pre _ (Nat.le_refl _) hSp ((hIx c).putObj _ hi (by omega) tl rfl) ((World.putObj_heap_other (by omega)).trans td)⟩
/-- An append that tells where the new row lies, inside a fence. -/
theorem wpListIn_append_lies (w : World) {ops : Array Oper} {rest : List Oper} {o : Oper} {a : Act} {Q : Exit → Act → World → Prop} (hgd : o.guard = none) (s x : Operand) (t : TypeId)
    (ho : o.op = .call { callee := .builtin .append, args := #[s, x], argTypes := #[t, t] })
    (base : Nat) (e : TypeId) (i : TypeInfo) (z : Value) (size bytes : Nat) (ht : P.underlying t = some (.slice e)) (hi : P.info? e = some i) (hz : i.zero = some z)
    (hsize : i.size = size) (hby : i.bytes = bytes) (hzs : z.cells.size = size) (hsz : 0 < size)
    (v : Value) (k : Nat) (xs : List Value) (hs : a.eval s = v) (hown : w.ownsRow base e size v k xs)
    (ad : Addr) (m c : Nat) (news : List Value) (hx : a.eval x = .slice (some ad) m c) (hl : news.length = m * size) (hnews : ∀ j u, news[j]? = some u → w.cell? (ad.add j) = some u) (h1 : ∀ u ∈ news, u.oneCell' = true)
    (hm : 0 < m) (h63 : k + m ≤ maxLen) (hbytes : (k + m) * bytes ≤ 140737488355328) (hbase : base ≤ w.heap.size) (H : Nat) (hH : w.heap.size = H)
    (h : ∀ g cap w', w'.ownsRow base e size (.slice (some ⟨g, 0, none⟩) (k + m) cap) (k + m) (xs ++ news) → w.grownBy w' v.ownBlock → (v.ownBlock = some g ∨ g = H) → g < w'.heap.size → wpListIn F n P ops Q rest (a.put o.dst (.slice (some ⟨g, 0, none⟩) (k + m) cap)) w') :
    wpListIn F n P ops Q (o :: rest) a w := by
  refine wpListIn_plain hgd fun K hK => ?_
  obtain ⟨g, cap, w', hr, h2, h3, h4, h5⟩ := run_append_lies (P := P) w t o.type base e i z size bytes ht hi hz hsize hby hzs hsz v k xs hown ad m c news hl hnews h1 hm h63 hbytes hbase H hH
  unfold Oper.wpIn
  refine ⟨?_, ?_⟩
  · simp [Oper.about, ho, resolve, Target.leads, Sem.run_pure]
  · rw [Oper.semAt_plain F _ _ (by rw [ho]; intro c hc'; cases hc')]
    simp [execOp, ho, resolve, invoke, builtin, hs, hx, hr, Result.andThen]
    exact hK _ _ (h g cap w' h2 h3 h4 h5)
end
end Go.Proofs.YtdoodkabmeojmaaDoor
/- Rows of cells of whatever kind, as values and in memory. No program is named here. -/
namespace Go.Proofs.YtdoodkabmeojmaaDoor
open Go Go.RowKit
/-- The cells of a row of n cells f. -/
def vL (n : Nat) (f : Nat → Value) : List Value := (List.range n).map f
theorem vL_len (n : Nat) (f : Nat → Value) : (vL n f).length = n := by simp [vL]
theorem vL_at (n : Nat) (f : Nat → Value) (j : Nat) (h : j < n) : (vL n f)[j]? = some (f j) := by simp [vL, h]
theorem vL_get {n : Nat} {f : Nat → Value} {j : Nat} {v : Value} (h : (vL n f)[j]? = some v) : j < n ∧ v = f j := by
  have hj : j < n := by
    have := (List.getElem?_eq_some_iff.1 h).1
    rwa [vL_len] at this
  rw [vL_at n f j hj] at h
  exact ⟨hj, (Option.some.inj h).symm⟩
theorem vL_congr {n : Nat} {f g : Nat → Value} (h : ∀ j, j < n → f j = g j) : vL n f = vL n g := by
  apply List.map_congr_left
  intro j hj
  exact h j (List.mem_range.1 hj)
theorem vL_size (n : Nat) (f : Nat → Value) : (vL n f).toArray.size = n := by rw [List.size_toArray, vL_len]
theorem vL_one {n : Nat} {f : Nat → Value} (h : ∀ j, j < n → (f j).oneCell' = true) : ∀ v ∈ vL n f, v.oneCell' = true := by
  intro v hv
  obtain ⟨j, hj, rfl⟩ := List.mem_map.1 hv
  exact h j (List.mem_range.1 hj)
theorem vrow_heap {w : World} {g t n : Nat} {f : Nat → Value} (h : w.rowIs g t n f) : w.heap[g]? = some (.cells (vL n f).toArray t (0, 0)) := by
  obtain ⟨c, hb, hn, hc⟩ := h
  have e : c = (vL n f).toArray := by
    apply Array.ext_getElem?
    intro i
    by_cases hi : i < n
    · rw [hc i hi, List.getElem?_toArray, vL_at n f i hi]
    · rw [Array.getElem?_eq_none (by omega), Array.getElem?_eq_none (by rw [vL_size]; omega)]
  rw [hb, e]
theorem vrow_of_heap {w : World} {g t n : Nat} {f : Nat → Value} (h : w.heap[g]? = some (.cells (vL n f).toArray t (0, 0))) : w.rowIs g t n f :=
  ⟨_, h, vL_size n f, fun i hi => by rw [List.getElem?_toArray, vL_at n f i hi]⟩
theorem vrow_alloc (w : World) (t n : Nat) (f : Nat → Value) : (w.alloc (.cells (vL n f).toArray t)).rowIs w.heap.size t n f := vrow_of_heap (heap_alloc_new w _)
theorem vrow_range {w : World} {g t N n o : Nat} {f k : Nat → Value} (h : w.rowIs g t N f) (hn : o + n ≤ N) (hk : ∀ j, j < n → k j = f (o + j)) : w.rangeAt g o (vL n k) := by
  intro j v hv
  obtain ⟨hj, rfl⟩ := vL_get hv
  rw [h.cell (i := o + j) (by omega), hk j hj]
theorem vrow_there {w : World} {g t N n o : Nat} {f : Nat → Value} (h : w.rowIs g t N f) (hn : o + n ≤ N) : w.there g o n := fun j hj => ⟨by rw [h.cell (i := o + j) (by omega)]; rfl, h.frozen _⟩
theorem vrow_setCells {w : World} {g t N n o : Nat} {f k : Nat → Value} (h : w.rowIs g t N f) (hn : o + n ≤ N) : (w.setCells g o (vL n k)).rowIs g t N (fun j => if o ≤ j ∧ j < o + n then k (j - o) else f j) := by
  have hh := vrow_heap h
  obtain ⟨c', h2, h3⟩ := setCells_heap g t (0, 0) (vL n k) o w _ hh
  rw [vL_size] at h3
  refine ⟨c', h2, h3, fun i hi => ?_⟩
  have hcell := cell_of_row _ g i c' t (0, 0) h2
  rw [← hcell]
  show (w.setCells g o (vL n k)).cell? ⟨g, i, none⟩ = some (if o ≤ i ∧ i < o + n then k (i - o) else f i)
  by_cases e : o ≤ i ∧ i < o + n
  · have hin := World.cell?_setCells_in g (vL n k) o w (fun j hj => by rw [vL_len] at hj; rw [h.cell (i := o + j) (by omega)]; rfl) (i - o) (by rw [vL_len]; omega)
    rw [show o + (i - o) = i by omega] at hin
    rw [hin]
    have e2 := vL_at n k (i - o) (by omega)
    rw [List.getElem?_eq_getElem (by rw [vL_len]; omega)] at e2
    rw [e2, if_pos e]
  · rw [World.cell?_setCells_out g _ o w ⟨g, i, none⟩ (fun _ _ => by rw [vL_len]; show i < o ∨ o + n ≤ i; omega), h.cell hi, if_neg e]
theorem vrow_setCells0 {w : World} {g t n : Nat} {f k : Nat → Value} (h : w.rowIs g t n f) : (w.setCells g 0 (vL n k)).rowIs g t n k :=
  (vrow_setCells h (by omega)).congr fun i hi => by
    show (if 0 ≤ i ∧ i < 0 + n then k (i - 0) else f i) = k i
    rw [if_pos ⟨by omega, by omega⟩, Nat.sub_zero]
theorem wpList_load_V {P : Program} {ops : Array Oper} {rest : List Oper} {op : Oper} {a : Act} {w : World} {Q : Exit → Act → World → Prop} (hgd : op.guard = none) (ty : TypeId) (x : Operand) (ho : op.op = .load ty x)
    (g o : Nat) (hx : a.eval x = .pointer (some ⟨g, o, none⟩)) (t N n : Nat) (f k : Nat → Value) (d : TypeDesc) (hrow : w.rowIs g t N f) (hn : o + n ≤ N) (hk : ∀ j, j < n → k j = f (o + j))
    (hu : P.underlying ty = some d) (hd : d.isRow = true) (hi : (P.info? ty).map (·.size) = some n)
    (h : wpList P ops Q rest (a.put op.dst (.agg (vL n k).toArray)) w) : wpList P ops Q (op :: rest) a w :=
  wpList_load_mid hgd ty x ho g o hx (vL n k) d (vrow_range hrow hn hk) hu hd (by rw [vL_len]; exact hi) h
theorem wpList_store_V {P : Program} {ops : Array Oper} {rest : List Oper} {op : Oper} {a : Act} {w : World} {Q : Exit → Act → World → Prop} (hgd : op.guard = none) (ty : TypeId) (x y : Operand) (ho : op.op = .store ty x y)
    (g o n : Nat) (k : Nat → Value) (hx : a.eval x = .pointer (some ⟨g, o, none⟩)) (hy : a.eval y = .agg (vL n k).toArray) (ht : w.there g o n) (hi : (P.info? ty).map (·.size) = some n) (h1 : ∀ j, j < n → (k j).oneCell' = true)
    (h : wpList P ops Q rest (a.put op.dst undef) (w.setCells g o (vL n k))) : wpList P ops Q (op :: rest) a w :=
  wpList_store_mid hgd ty x y ho g o (vL n k).toArray hx hy (by rw [vL_size]; exact ht) (by rw [vL_size]; exact hi) (all_oneCell_toArray (vL_one h1)) h
theorem ret_V {P : Program} {fn : Func} {p : Tmp} {ty : TypeId} (h : fn.results = #[.cell p ty]) (tmps : Array Value) (w : World) (g n : Nat) (t : TypeId) (k : Nat → Value) (d : TypeDesc)
    (hp : tmps.getD p undef = .pointer (some ⟨g, 0, none⟩)) (hrow : w.rowIs g t n k) (hu : P.underlying ty = some d) (hd : d.isRow = true) (hi : (P.info? ty).map (·.size) = some n) :
    (results fn tmps).run P w = .ok (.agg (vL n k).toArray) w :=
  results_cell_row h tmps w g t _ (0, 0) d hp (vrow_heap hrow) hu (by cases d <;> simp_all) (by rw [vL_size]; exact hi)
/-- A row with a part of it laid anew. -/
def laid (o n : Nat) (k f : Nat → Value) (i : Nat) : Value := if o ≤ i ∧ i < o + n then k (i - o) else f i
theorem lay_list (off : Nat) : ∀ (l : List Value) (k : Nat) (cs : Array Value), ((l.zipIdx k).foldl (fun cs (x : Value × Nat) => cs.setIfInBounds (off + x.2) x.1) cs).size = cs.size ∧
    ∀ i, i < cs.size → ((l.zipIdx k).foldl (fun cs (x : Value × Nat) => cs.setIfInBounds (off + x.2) x.1) cs)[i]? = if off + k ≤ i ∧ i < off + k + l.length then l[i - (off + k)]? else cs[i]?
  | [], k, cs => ⟨rfl, fun i _ => by rw [if_neg (by simp)]; rfl⟩
  | v :: l, k, cs => by
    obtain ⟨h1, h2⟩ := lay_list off l (k + 1) (cs.setIfInBounds (off + k) v)
    rw [Array.size_setIfInBounds] at h1 h2
    refine ⟨by rw [List.zipIdx_cons, List.foldl_cons]; exact h1, fun i hi => ?_⟩
    rw [List.zipIdx_cons, List.foldl_cons, h2 i hi, Array.getElem?_setIfInBounds, List.length_cons]
    by_cases e : i = off + k
    · subst e
      rw [if_neg (by omega), if_pos rfl, if_pos hi, if_pos (by omega), Nat.sub_self]; rfl
    · by_cases e2 : off + (k + 1) ≤ i ∧ i < off + (k + 1) + l.length
      · rw [if_pos e2, if_pos (by omega), show i - (off + k) = (i - (off + (k + 1))) + 1 by omega]; rfl
      · rw [if_neg e2, if_neg (by omega), if_neg (by omega)]
theorem lay_vL (off n N : Nat) (k f : Nat → Value) : (vL n k).toArray.zipIdx.foldl (fun cs (c, j) => cs.setIfInBounds (off + j) c) (vL N f).toArray = (vL N (laid off n k f)).toArray := by
  rw [← Array.foldl_toList, Array.toList_zipIdx]
  obtain ⟨h1, h2⟩ := lay_list off (vL n k) 0 (vL N f).toArray
  rw [vL_size] at h1 h2
  rw [vL_len] at h2
  apply Array.ext_getElem?
  intro i
  by_cases hi : i < N
  · have h3 := h2 i hi
    refine h3.trans ?_
    rw [List.getElem?_toArray, List.getElem?_toArray, vL_at N _ i hi, vL_at N _ i hi]
    unfold laid
    rw [Nat.add_zero]
    by_cases e : off ≤ i ∧ i < off + n
    · rw [if_pos e, if_pos e, vL_at n k _ (by omega)]
    · rw [if_neg e, if_neg e]
  · rw [Array.getElem?_eq_none (xs := (vL N (laid off n k f)).toArray) (by rw [vL_size]; omega)]
    exact Array.getElem?_eq_none (Nat.le_trans (Nat.le_of_eq h1) (by omega))
theorem fill_V (place : Nat → Option (Nat × Nat)) (N i off n : Nat) (f k : Nat → Value) (rest : List (Nat × Value)) (hp : place i = some (off, n)) (h : off + n ≤ N) :
    Instr.fill place (vL N f).toArray ((i, .agg (vL n k).toArray) :: rest) = Instr.fill place (vL N (laid off n k f)).toArray rest := by
  conv => lhs; unfold Instr.fill
  rw [hp]
  show (if ((vL n k).toArray.size ≠ n || off + (vL n k).toArray.size > (vL N f).toArray.size) = true then none else Instr.fill place ((vL n k).toArray.zipIdx.foldl (fun cs (c, j) => cs.setIfInBounds (off + j) c) (vL N f).toArray) rest) = _
  rw [lay_vL off n N k f, vL_size, vL_size, if_neg (by simp; omega)]
theorem fill_1 (place : Nat → Option (Nat × Nat)) (N i off : Nat) (f : Nat → Value) (v : Value) (hv : v.cells = #[v]) (rest : List (Nat × Value)) (hp : place i = some (off, 1)) (h : off + 1 ≤ N) :
    Instr.fill place (vL N f).toArray ((i, v) :: rest) = Instr.fill place (vL N (laid off 1 (fun _ => v) f)).toArray rest := by
  rw [← fill_V place N i off 1 f (fun _ => v) rest hp h]
  unfold Instr.fill
  rw [hp, hv]; rfl
theorem fill_end (place : Nat → Option (Nat × Nat)) {n : Nat} {f g : Nat → Value} (h : ∀ j, j < n → f j = g j) : Instr.fill place (vL n f).toArray [] = some (vL n g).toArray := by rw [vL_congr h]; rfl
theorem built_of {P : Program} {t : TypeId} {z : Array Value} {n : Nat} {fields : Array Field} {places : List (Nat × Nat)} (parts : List (Nat × Value)) (hi : (P.info? t).map (fun i => (i.zero, i.size)) = some (some (.agg z), n)) (hu : P.underlying t = some (.struct fields))
    (hp : fields.toList.mapM (fun f => (P.info? f.type).map fun i => (f.offset, i.size)) = some places) : P.built t parts = Instr.fill (places.toArray[·]?) z parts := by
  obtain ⟨it, h1, h2⟩ := Option.map_eq_some_iff.1 hi
  have h3 : it.zero = some (.agg z) := congrArg Prod.fst h2
  unfold Program.built
  rw [h1, hu]
  show (match it.zero, fields.toList.mapM (fun f => (P.info? f.type).map fun i => (f.offset, i.size)) with
    | some z, some places => Instr.fill (places.toArray[·]?) z.cells parts
    | _, _ => none) = _
  rw [h3, hp]; rfl
theorem wpList_build_1 {P : Program} {ops : Array Oper} {rest : List Oper} {o : Oper} {a : Act} {w : World} {Q : Exit → Act → World → Prop} (hg : o.guard = none) (t : TypeId) (i : Nat) (x : Operand) (ho : o.op = .build t #[(i, x)])
    (v : Value) (hv : a.eval x = v) (cells : Array Value) (hb : P.built t [(i, v)] = some cells)
    (h : wpList P ops Q rest (a.put o.dst (.agg cells)) w) : wpList P ops Q (o :: rest) a w := by
  subst hv
  have e : (#[(i, x)].map fun ((i, x) : Nat × Operand) => (i, a.eval x)).toList = [(i, a.eval x)] := by simp
  refine wpList_build hg t _ ho (by rw [e, hb]; rfl) ?_
  rw [e, hb]; exact h
theorem wpList_build_2 {P : Program} {ops : Array Oper} {rest : List Oper} {o : Oper} {a : Act} {w : World} {Q : Exit → Act → World → Prop} (hg : o.guard = none) (t : TypeId) (i : Nat) (x : Operand) (j : Nat) (y : Operand) (ho : o.op = .build t #[(i, x), (j, y)])
    (v : Value) (hv : a.eval x = v) (u : Value) (hu : a.eval y = u) (cells : Array Value) (hb : P.built t [(i, v), (j, u)] = some cells)
    (h : wpList P ops Q rest (a.put o.dst (.agg cells)) w) : wpList P ops Q (o :: rest) a w := by
  subst hv hu
  have e : (#[(i, x), (j, y)].map fun ((i, x) : Nat × Operand) => (i, a.eval x)).toList = [(i, a.eval x), (j, a.eval y)] := by simp
  refine wpList_build hg t _ ho (by rw [e, hb]; rfl) ?_
  rw [e, hb]; exact h
end Go.Proofs.YtdoodkabmeojmaaDoor
/- The walk over the program's newParting. -/
namespace Go.Proofs.YtdoodkabmeojmaaDoor
open Go.RowKit
/-- What a coder's or a decoder's block begins with: the range, the chances. -/
def parF (size : Nat) (ch : Nat → Nat) (j : Nat) : Value := if j = 0 then .int .u64 (size : Nat) else .int .u64 (ch (j - 1) : Nat)
theorem parF_one (size : Nat) (ch : Nat → Nat) (j : Nat) : (parF size ch j).oneCell' = true := by unfold parF; split <;> rfl
theorem Tryd.infoPart : (Tryd.prog.info? 61).map (fun i => (i.zero, i.size)) = some (some (.agg (vL 1601 (parF 0 fun _ => 0)).toArray), 1601) := by kernel_rfl
theorem Tryd.builtPart : Tryd.prog.built 61 [(0, .int .u64 4294967295)] = some (vL 1601 (parF 4294967295 fun _ => 0)).toArray := by kernel_rfl
end Go.Proofs.YtdoodkabmeojmaaDoor
/- What the program's literals of a coder and of a decoder build. -/
namespace Go.Proofs.YtdoodkabmeojmaaDoor
open Go.RowKit
/-- A coder's or a decoder's block. -/
def cdF (size : Nat) (ch : Nat → Nat) (x : Nat) (v : Value) (j : Nat) : Value := if j ≤ 1600 then parF size ch j else if j = 1601 then .int .u64 (x : Nat) else v
theorem Tryd.infoCod : (Tryd.prog.info? 64).map (fun i => (i.zero, i.size)) = some (some (.agg (vL 1603 (cdF 0 (fun _ => 0) 0 (.slice none 0 0))).toArray), 1603) := by kernel_rfl
theorem Tryd.infoDecP : (Tryd.prog.info? 122).map (fun i => (i.zero, i.size)) = some (some (.agg (vL 1603 (cdF 0 (fun _ => 0) 0 (.string ByteArray.empty))).toArray), 1603) := by kernel_rfl
theorem Tryd.fieldsCod : ∃ fields, Tryd.prog.underlying 64 = some (.struct fields) ∧ fields.toList.mapM (fun f => (Tryd.prog.info? f.type).map fun i => (f.offset, i.size)) = some [(0, 1601), (1601, 1), (1602, 1)] := ⟨_, Tryd.underlying64, by kernel_rfl⟩
theorem Tryd.fieldsDec : ∃ fields, Tryd.prog.underlying 122 = some (.struct fields) ∧ fields.toList.mapM (fun f => (Tryd.prog.info? f.type).map fun i => (f.offset, i.size)) = some [(0, 1601), (1601, 1), (1602, 1)] := ⟨_, Tryd.underlying122, by kernel_rfl⟩
theorem Tryd.builtCod (size : Nat) (ch : Nat → Nat) : Tryd.prog.built 64 [(0, .agg (vL 1601 (parF size ch)).toArray)] = some (vL 1603 (cdF size ch 0 (.slice none 0 0))).toArray := by
  obtain ⟨fields, h1, h2⟩ := Tryd.fieldsCod
  rw [built_of _ Tryd.infoCod h1 h2, fill_V _ 1603 0 0 1601 _ _ _ rfl (by omega)]
  apply fill_end
  intro j hj
  unfold laid cdF
  by_cases e : j ≤ 1600
  · rw [if_pos (by omega), if_pos e, Nat.sub_zero]
  · rw [if_neg (by omega), if_neg e, if_neg e]
theorem Tryd.builtDec (size : Nat) (ch : Nat → Nat) (t : ByteArray) : Tryd.prog.built 122 [(0, .agg (vL 1601 (parF size ch)).toArray), (2, .string t)] = some (vL 1603 (cdF size ch 0 (.string t))).toArray := by
  obtain ⟨fields, h1, h2⟩ := Tryd.fieldsDec
  rw [built_of _ Tryd.infoDecP h1 h2, fill_V _ 1603 0 0 1601 _ _ _ rfl (by omega), fill_1 _ 1603 2 1602 _ (.string t) rfl _ rfl (by omega)]
  apply fill_end
  intro j hj
  unfold laid cdF
  by_cases e : j ≤ 1600
  · rw [if_neg (by omega), if_pos (by omega), if_pos e, Nat.sub_zero]
  · by_cases e2 : j = 1601
    · rw [if_neg (by omega), if_neg (by omega), if_neg e, if_pos e2, if_neg e, if_pos e2]
    · rw [if_pos (by omega), if_neg e, if_neg e2]
end Go.Proofs.YtdoodkabmeojmaaDoor
/- The walk over the program's newParting. -/
namespace Go.Proofs.YtdoodkabmeojmaaDoor
open Go.RowKit
theorem parF_set {w : World} {g T size c X : Nat} {ch : Nat → Nat} {n : Nat} (h : w.rowIs g T n (parF size ch)) : (w.setCell ⟨g, 1 + c, none⟩ (.int .u64 (X : Int))).rowIs g T n (parF size (setCh ch c X)) := by
  refine (h.set (1 + c) _).congr ?_
  intro i _
  show (if i = 1 + c then Value.int .u64 (X : Int) else parF size ch i) = parF size (setCh ch c X) i
  unfold parF setCh
  by_cases e : i = 1 + c
  · rw [if_pos e, if_neg (by omega), if_pos (by omega)]
  · rw [if_neg e]
    by_cases e0 : i = 0
    · rw [if_pos e0, if_pos e0]
    · rw [if_neg e0, if_neg e0, if_neg (by omega)]
set_option maxRecDepth 100000 in
set_option maxHeartbeats 800000 in
theorem imp_parting (w : World) :
    Calls Tryd.prog 28 #[] w fun e w' => e = .returned (.agg (vL 1601 (parF 4294967295 fun _ => 1024)).toArray) ∧ Below w.heap.size w w' := by
  obtain ⟨hz, hsz⟩ := zero_of_info Tryd.infoPart
  have hbt := hide Tryd.builtPart
  have r0 := vrow_alloc w 61 1601 (parF 0 fun _ => 0)
  have r1 := vrow_alloc (w.alloc (.cells (vL 1601 (parF 0 fun _ => 0)).toArray 61)) 61 1601 (parF 0 fun _ => 0)
  rw [World.size_alloc] at r1
  have hth := vrow_there (o := 0) (n := 1601) r1 (by omega)
  have r2 := vrow_setCells0 (k := parF 4294967295 fun _ => 0) r1
  have r3 := row_setCells_other (b := w.heap.size + 1) (o := 0) (vs := vL 1601 (parF 4294967295 fun _ => 0)) (r0.alloc (.cells (vL 1601 (parF 0 fun _ => 0)).toArray 61)) (by omega)
  have rb := below_setCells' (b := w.heap.size + 1) (o := 0) (vs := vL 1601 (parF 4294967295 fun _ => 0)) (((Below.refl w.heap.size w).alloc (Nat.le_refl _) (.cells (vL 1601 (parF 0 fun _ => 0)).toArray 61)).alloc (by simp) (.cells (vL 1601 (parF 0 fun _ => 0)).toArray 61)) (by omega)
  have H := hide (And.intro r2 (And.intro r3 rb))
  clear r0 r1 r2 r3 rb
  go_enter Tryd.func28, Tryd.ntmps28
  go_wp2_with (first | (with_reducible (show wpList _ _ _ ({ dst := _, op := .build _ _, type := _, pos := _, after := _, guard := _ } :: _) _ _); refine wpList_build_1 rfl 61 0 _ rfl (.int .u64 4294967295) rfl _ hbt.out ?_) | (with_reducible (show wpList _ _ _ ({ dst := _, op := .store _ _ _, type := _, pos := _, after := _, guard := _ } :: _) _ _); refine wpList_store_V rfl 61 _ _ rfl (w.heap.size + 1) 0 1601 (parF 4294967295 fun _ => 0) rfl rfl hth hsz (fun j _ => parF_one _ _ j) ?_))
  clear hz hbt hth
  obtain ⟨r2, r3, rb⟩ := H.out
  generalize ((w.alloc (.cells (vL 1601 (parF 0 fun _ => 0)).toArray 61)).alloc (.cells (vL 1601 (parF 0 fun _ => 0)).toArray 61)).setCells (w.heap.size + 1) 0 (vL 1601 (parF 4294967295 fun _ => 0)) = W1 at *
  clear H
  go_loopw [4] (fun i wx => ∃ (k : Nat) (f : Nat → Nat), k ≤ 1600 ∧ i = .int .i64 k ∧ Hid (∀ j, j < k → f j = 1024) ∧ wx.rowIs (w.heap.size + 1) 61 1601 (parF 4294967295 f) ∧ wx.rowIs w.heap.size 61 1601 (parF 0 fun _ => 0) ∧ Below w.heap.size w wx) (fun i _ => 1600 - (intOf i).toNat)
  case atStart => exact ⟨0, fun _ => 0, by omega, rfl, fun j hj => by omega, r2, r3, rb⟩
  case round =>
    clear r2 r3 rb
    obtain ⟨k, f, hk, rfl, hf, hrw, hres, hbl⟩ := hrel
    by_cases hlt : k < 1600
    · have ck := hrw.cell (i := 1 + k) (by omega)
      have hfz := hrw.frozen (1 + k)
      have hlt' : (k : Int) < 1600 := by omega
      clear hsz
      go_wp2_with fail
      refine ⟨⟨k + 1, setCh f k 1024, by omega, by go_num, fun j hj => ?_, parF_set hrw, hres.setOther (by simp) _, hbl.setCell (by simp) _⟩, by simp [intOf]; omega⟩
      unfold setCh
      by_cases e : j = k
      · rw [if_pos e]
      · rw [if_neg e]; exact hf.out j (by omega)
    · have hlt' : ¬ (k : Int) < 1600 := by omega
      have hrw2 : wr.rowIs (w.heap.size + 1) 61 1601 (parF 4294967295 fun _ => 1024) := hrw.congr fun i hi => by
        unfold parF
        by_cases e : i = 0
        · rw [if_pos e, if_pos e]
        · rw [if_neg e, if_neg e, hf.out (i - 1) (by omega)]
      have hth := vrow_there (o := 0) (n := 1601) hres (by omega)
      have hfin := vrow_setCells0 (k := parF 4294967295 fun _ => 1024) hres
      clear hf hrw
      go_wp2_with (first | (with_reducible (show wpList _ _ _ ({ dst := _, op := .load _ _, type := _, pos := _, after := _, guard := _ } :: _) _ _); refine wpList_load_V rfl 61 _ rfl (w.heap.size + 1) 0 rfl _ _ 1601 _ (parF 4294967295 fun _ => 1024) _ hrw2 (by omega) (fun j _ => by rw [Nat.zero_add]) Tryd.underlying61 rfl hsz ?_) | (with_reducible (show wpList _ _ _ ({ dst := _, op := .store _ _ _, type := _, pos := _, after := _, guard := _ } :: _) _ _); refine wpList_store_V rfl 61 _ _ rfl w.heap.size 0 1601 (parF 4294967295 fun _ => 1024) rfl rfl hth hsz (fun j _ => parF_one _ _ j) ?_))
      exact bodyPost_ret (ret_V Tryd.results28 _ _ w.heap.size 1601 _ (parF 4294967295 fun _ => 1024) _ rfl hfin Tryd.underlying61 rfl hsz) rfl ⟨rfl, below_setCells' hbl (Nat.le_refl _)⟩
end Go.Proofs.YtdoodkabmeojmaaDoor
/- The walks over the program's bound, narrow, widen. -/
namespace Go.Proofs.YtdoodkabmeojmaaDoor
open Go.RowKit
theorem cd_cells {w : World} {g T size x : Nat} {ch : Nat → Nat} {v : Value} (h : w.rowIs g T 1603 (cdF size ch x v)) :
    w.cell? ⟨g, 0, none⟩ = some (.int .u64 (size : Nat)) ∧ w.cell? ⟨g, 1601, none⟩ = some (.int .u64 (x : Nat)) ∧ w.cell? ⟨g, 1602, none⟩ = some v ∧ ∀ c, c < 1600 → w.cell? ⟨g, 1 + c, none⟩ = some (.int .u64 (ch c : Nat)) := by
  refine ⟨h.cell (i := 0) (by omega), h.cell (i := 1601) (by omega), h.cell (i := 1602) (by omega), fun c hc => ?_⟩
  rw [h.cell (i := 1 + c) (by omega)]
  unfold cdF parF
  rw [if_pos (by omega), if_neg (by omega), show 1 + c - 1 = c by omega]
theorem cd_set {w : World} {g T size x : Nat} {ch : Nat → Nat} {v : Value} (h : w.rowIs g T 1603 (cdF size ch x v)) :
    (∀ y : Nat, (w.setCell ⟨g, 0, none⟩ (.int .u64 (y : Int))).rowIs g T 1603 (cdF y ch x v)) ∧ (∀ y : Nat, (w.setCell ⟨g, 1601, none⟩ (.int .u64 (y : Int))).rowIs g T 1603 (cdF size ch y v)) ∧ (∀ u, (w.setCell ⟨g, 1602, none⟩ u).rowIs g T 1603 (cdF size ch x u)) ∧ (∀ c y : Nat, c < 1600 → (w.setCell ⟨g, 1 + c, none⟩ (.int .u64 (y : Int))).rowIs g T 1603 (cdF size (setCh ch c y) x v)) := by
  refine ⟨fun y => (h.set 0 _).congr fun i hi => ?_, fun y => (h.set 1601 _).congr fun i hi => ?_, fun u => (h.set 1602 _).congr fun i hi => ?_, fun c y hc => (h.set (1 + c) _).congr fun i hi => ?_⟩
  · show (if i = 0 then Value.int .u64 (y : Int) else cdF size ch x v i) = _
    unfold cdF parF
    by_cases e : i = 0
    · rw [if_pos e, if_pos (by omega), if_pos e]
    · rw [if_neg e, if_neg e, if_neg e]
  · show (if i = 1601 then Value.int .u64 (y : Int) else cdF size ch x v i) = _
    unfold cdF
    by_cases e : i = 1601
    · rw [if_pos e, if_neg (by omega), if_pos e]
    · rw [if_neg e, if_neg e, if_neg e]
  · show (if i = 1602 then u else cdF size ch x v i) = _
    unfold cdF
    by_cases e : i = 1602
    · rw [if_pos e, if_neg (by omega), if_neg (by omega)]
    · rw [if_neg e]
      by_cases e1 : i ≤ 1600
      · rw [if_pos e1, if_pos e1]
      · rw [if_neg e1, if_neg e1, if_pos (by omega), if_pos (by omega)]
  · show (if i = 1 + c then Value.int .u64 (y : Int) else cdF size ch x v i) = _
    unfold cdF parF setCh
    by_cases e : i = 1 + c
    · rw [if_pos e, if_pos (by omega), if_neg (by omega), if_pos (by omega)]
    · rw [if_neg e]
      by_cases e1 : i ≤ 1600
      · rw [if_pos e1, if_pos e1]
        by_cases e0 : i = 0
        · rw [if_pos e0, if_pos e0]
        · rw [if_neg e0, if_neg e0, if_neg (by omega)]
      · rw [if_neg e1, if_neg e1]
theorem grown0 (w : World) (r : Option Nat) : w.grownBy w r := ⟨rfl, rfl, rfl, Nat.le_refl _, fun _ _ _ => rfl⟩
set_option maxRecDepth 100000 in
set_option maxHeartbeats 800000 in
theorem imp_bound (g T size x c : Nat) (ch : Nat → Nat) (v : Value) (w : World) (hs : size ≤ 4294967295) (hc : c < 1600) (hp : ch c ≤ 2048) (hr : w.rowIs g T 1603 (cdF size ch x v)) :
    Calls Tryd.prog 55 #[.pointer (some ⟨g, 0, none⟩), .int .i64 (c : Int)] w fun e w' => e = .returned (.int .u64 ((size / 2048 * ch c : Nat) : Int)) ∧ ∃ n, w' = w.drewN n := by
  obtain ⟨c0, _, _, c4⟩ := cd_cells hr
  have c3 := c4 c hc
  clear c4
  obtain ⟨p, ep⟩ : ∃ p, p = ch c := ⟨_, rfl⟩
  rw [← ep] at c3 hp ⊢
  obtain ⟨q, eq⟩ : ∃ q, q = size / 2048 := ⟨_, rfl⟩
  obtain ⟨b, eb⟩ : ∃ b, b = q * p := ⟨_, rfl⟩
  have hb : b ≤ 4294967296 := by
    have h1 : q ≤ 2097151 := by omega
    have := Nat.mul_le_mul h1 hp
    omega
  have k1 : (size : Int) / 2048 = (q : Int) := by omega
  have k2 : IntKind.u64.wrap ((q : Int) * (p : Int)) = (b : Int) := by
    have e : (q : Int) * (p : Int) = (b : Int) := by rw [eb]; simp
    rw [e, IntKind.wrap_u64]; omega
  have k3 : IntKind.u64.wrap (q : Int) = (q : Int) := by rw [IntKind.wrap_u64]; omega
  have hc' : (c : Int) < 1600 := by omega
  have HE := hide (show (size / 2048 * p : Nat) = b by rw [eb, eq])
  clear ep eq eb hr
  go_enter Tryd.func55, Tryd.ntmps55
  go_wp2_with fail
  go_quiet (fail)
  go_wp2_with fail
  go_ret
  exact ⟨by rw [HE.out]; rfl, _, rfl⟩
set_option maxRecDepth 100000 in
set_option maxHeartbeats 800000 in
theorem imp_narrow (g T size x c b : Nat) (one : Bool) (ch : Nat → Nat) (v : Value) (w : World) (hs : size ≤ 4294967295) (hb : b ≤ size) (hc : c < 1600) (hp : ch c ≤ 2048) (hr : w.rowIs g T 1603 (cdF size ch x v)) :
    Calls Tryd.prog 57 #[.pointer (some ⟨g, 0, none⟩), .agg #[.int .i64 (c : Int), .bool one], .int .u64 (b : Int)] w fun e w' => e = .returned (.tuple #[]) ∧ w'.rowIs g T 1603 (if one = true then cdF (size - b) (setCh ch c (chOne (ch c))) x v else cdF b (setCh ch c (chNot (ch c))) x v) ∧ w.grownBy w' (some g) := by
  have hgl := hr.lt
  have R1 := hr.alloc (.cells #[.int .i64 (c : Int), .bool one] 74)
  have G1 := World.grownBy_alloc w (.cells #[.int .i64 (c : Int), .bool one] 74) (some g)
  have b0 : (w.alloc (.cells #[.int .i64 (c : Int), .bool one] 74)).cell? ⟨w.heap.size, 0, none⟩ = some (.int .i64 (c : Int)) := by simp
  have b1 : (w.alloc (.cells #[.int .i64 (c : Int), .bool one] 74)).cell? ⟨w.heap.size, 1, none⟩ = some (.bool one) := by simp
  obtain ⟨p, ep⟩ : ∃ p, p = ch c := ⟨_, rfl⟩
  obtain ⟨d, ed⟩ : ∃ d, d = p / 32 := ⟨_, rfl⟩
  obtain ⟨q, eq⟩ : ∃ q, q = 2048 - p := ⟨_, rfl⟩
  obtain ⟨u, eu⟩ : ∃ u, u = q / 32 := ⟨_, rfl⟩
  obtain ⟨p1, ep1⟩ : ∃ x, x = p - d := ⟨_, rfl⟩
  obtain ⟨p0, ep0⟩ : ∃ x, x = p + u := ⟨_, rfl⟩
  obtain ⟨sb, esb⟩ : ∃ x, x = size - b := ⟨_, rfl⟩
  have hp2 : p ≤ 2048 := by omega
  have k1 : (p : Int) / 32 = (d : Int) := by omega
  have k2 : (2048 : Int) - (p : Int) = (q : Int) := by omega
  have k3 : (q : Int) / 32 = (u : Int) := by omega
  have k4 : (p : Int) - (d : Int) = (p1 : Int) := by omega
  have k5 : (p : Int) + (u : Int) = (p0 : Int) := by omega
  have k6 : (size : Int) - (b : Int) = (sb : Int) := by omega
  have j1 : IntKind.u64.wrap (d : Int) = (d : Int) := by rw [IntKind.wrap_u64]; omega
  have j2 : IntKind.u64.wrap ((2048 : Int) - (p : Int)) = (q : Int) := by rw [IntKind.wrap_u64]; omega
  have j3 : IntKind.u64.wrap (u : Int) = (u : Int) := by rw [IntKind.wrap_u64]; omega
  have j4 : IntKind.u64.wrap ((p : Int) - (d : Int)) = (p1 : Int) := by rw [IntKind.wrap_u64]; omega
  have j5 : IntKind.u64.wrap ((p : Int) + (u : Int)) = (p0 : Int) := by rw [IntKind.wrap_u64]; omega
  have j6 : IntKind.u64.wrap ((size : Int) - (b : Int)) = (sb : Int) := by rw [IntKind.wrap_u64]; omega
  have hc' : (c : Int) < 1600 := by omega
  have HO := hide (show chOne (ch c) = p1 ∧ chNot (ch c) = p0 ∧ size - b = sb from ⟨by unfold chOne; rw [← ep]; omega, by unfold chNot; rw [← ep]; omega, esb.symm⟩)
  rw [HO.out.1, HO.out.2.1, HO.out.2.2]
  have CE := hide ep
  clear ep ed eq eu ep1 ep0 esb hr HO
  cases one with
  | true =>
    go_enter Tryd.func57, Tryd.ntmps57
    go_wp2_with fail
    generalize w.alloc (.cells #[.int .i64 (c : Int), .bool true] 74) = W1 at *
    have hz : g ≠ w.heap.size := by omega
    generalize w.heap.size = z at *
    obtain ⟨c0, _, _, c4⟩ := cd_cells R1
    have c3 := c4 c hc
    rw [← CE.out] at c3
    clear c4
    go_quiet (fail)
    have R2 : (W1.drewN nq).rowIs g T 1603 (cdF size ch x v) := R1
    have G2 : w.grownBy (W1.drewN nq) (some g) := ⟨G1.os, G1.tape, G1.output, G1.size, G1.block⟩
    have b0' : (W1.drewN nq).cell? ⟨z, 0, none⟩ = some (.int .i64 (c : Int)) := b0
    have b1' : (W1.drewN nq).cell? ⟨z, 1, none⟩ = some (.bool true) := b1
    have c0' : (W1.drewN nq).cell? ⟨g, 0, none⟩ = some (.int .u64 (size : Nat)) := c0
    have f0 := R2.frozen 0
    generalize W1.drewN nq = W2 at *
    clear c0 c3 b0 b1 G1 R1
    go_wp2_with fail
    have R3 := (cd_set R2).1 sb
    have G3 := grownBy_set (i := 0) G2 (.int .u64 (sb : Nat))
    have d0 := cell_far (k := 0) (v := .int .u64 (sb : Nat)) hz b0'
    generalize W2.setCell ⟨g, 0, none⟩ (.int .u64 (sb : Nat)) = W3 at *
    obtain ⟨_, _, _, c4⟩ := cd_cells R3
    have c3 := c4 c hc
    rw [← CE.out] at c3
    have f3 := R3.frozen (1 + c)
    have H := hide (And.intro R3 G3)
    clear c4 b0' b1' c0' f0 R2 G2 R3 G3
    go_region
    have R4 := (cd_set H.out.1).2.2.2 c p1 hc
    have G4 := grownBy_set (i := 1 + c) H.out.2 (.int .u64 (p1 : Nat))
    go_wp2_with fail
    exact bodyPost_ret (v := .tuple #[]) (by simp [results, Tryd.results57]) rfl ⟨rfl, R4.drew, grownBy_drew G4⟩
  | false =>
    go_enter Tryd.func57, Tryd.ntmps57
    go_wp2_with fail
    generalize w.alloc (.cells #[.int .i64 (c : Int), .bool false] 74) = W1 at *
    have hz : g ≠ w.heap.size := by omega
    generalize w.heap.size = z at *
    obtain ⟨c0, _, _, c4⟩ := cd_cells R1
    have c3 := c4 c hc
    rw [← CE.out] at c3
    clear c4
    go_quiet (fail)
    have R2 : (W1.drewN nq).rowIs g T 1603 (cdF size ch x v) := R1
    have G2 : w.grownBy (W1.drewN nq) (some g) := ⟨G1.os, G1.tape, G1.output, G1.size, G1.block⟩
    have b0' : (W1.drewN nq).cell? ⟨z, 0, none⟩ = some (.int .i64 (c : Int)) := b0
    have b1' : (W1.drewN nq).cell? ⟨z, 1, none⟩ = some (.bool false) := b1
    have c0' : (W1.drewN nq).cell? ⟨g, 0, none⟩ = some (.int .u64 (size : Nat)) := c0
    have f0 := R2.frozen 0
    generalize W1.drewN nq = W2 at *
    clear c0 c3 b0 b1 G1 R1
    go_wp2_with fail
    have R3 := (cd_set R2).1 b
    have G3 := grownBy_set (i := 0) G2 (.int .u64 (b : Nat))
    have d0 := cell_far (k := 0) (v := .int .u64 (b : Nat)) hz b0'
    generalize W2.setCell ⟨g, 0, none⟩ (.int .u64 (b : Nat)) = W3 at *
    obtain ⟨_, _, _, c4⟩ := cd_cells R3
    have c3 := c4 c hc
    rw [← CE.out] at c3
    have f3 := R3.frozen (1 + c)
    have H := hide (And.intro R3 G3)
    clear c4 b0' b1' c0' f0 R2 G2 R3 G3
    go_region
    have R4 := (cd_set H.out.1).2.2.2 c p0 hc
    have G4 := grownBy_set (i := 1 + c) H.out.2 (.int .u64 (p0 : Nat))
    go_wp2_with fail
    go_end0
    exact ⟨rfl, R4.drew, grownBy_drew G4⟩
set_option maxRecDepth 100000 in
set_option maxHeartbeats 400000 in
theorem imp_widen_yes (g T size x : Nat) (ch : Nat → Nat) (v : Value) (w : World) (h : size < 16777216) (hr : w.rowIs g T 1603 (cdF size ch x v)) :
    Calls Tryd.prog 58 #[.pointer (some ⟨g, 0, none⟩)] w fun e w' => e = .returned (.bool true) ∧ w'.rowIs g T 1603 (cdF (256 * size) ch x v) ∧ w.grownBy w' (some g) := by
  obtain ⟨c0, _, _, _⟩ := cd_cells hr
  have f0 := hr.frozen 0
  have h' : ¬ (16777216 : Int) ≤ (size : Int) := by omega
  have R1 := (cd_set hr).1 (256 * size)
  have G1 := grownBy_set (i := 0) (grown0 w (some g)) (.int .u64 (256 * size : Nat))
  obtain ⟨s1, e1⟩ : ∃ s1, s1 = 256 * size := ⟨_, rfl⟩
  rw [← e1] at R1 G1 ⊢
  have k1 : IntKind.u64.wrap ((size : Int) * 256) = (s1 : Int) := by rw [IntKind.wrap_u64]; omega
  have k2 : (size : Int) * 256 = (s1 : Int) := by omega
  have H := hide (And.intro R1 G1)
  clear e1 R1 G1 hr
  go_enter Tryd.func58, Tryd.ntmps58
  go_wp2_with fail
  go_ret
  exact ⟨rfl, H.out.1, H.out.2⟩
set_option maxRecDepth 100000 in
set_option maxHeartbeats 400000 in
theorem imp_widen_no (g T size x : Nat) (ch : Nat → Nat) (v : Value) (w : World) (h : ¬ size < 16777216) (hr : w.rowIs g T 1603 (cdF size ch x v)) :
    Calls Tryd.prog 58 #[.pointer (some ⟨g, 0, none⟩)] w fun e w' => e = .returned (.bool false) ∧ w' = w := by
  obtain ⟨c0, _, _, _⟩ := cd_cells hr
  have h' : (16777216 : Int) ≤ (size : Int) := by omega
  clear hr
  go_enter Tryd.func58, Tryd.ntmps58
  go_wp2_with fail
  go_ret
  exact ⟨rfl, rfl⟩
end Go.Proofs.YtdoodkabmeojmaaDoor
/- The walks over the program's take and newDecoder. -/
namespace Go.Proofs.YtdoodkabmeojmaaDoor
open Go.RowKit
/-- What of a text is not taken yet. -/
def restOf (t : ByteArray) (k : Nat) : ByteArray := t.extract k t.size
theorem rest_size (t : ByteArray) (k : Nat) : (restOf t k).size = t.size - k := by unfold restOf; rw [ByteArray.size_extract]; omega
theorem rest_at (t : ByteArray) (k : Nat) (h : k < t.size) : ((restOf t k)[0]'(by rw [rest_size]; omega)).toNat = tbN t k := by
  have h1 : (restOf t k)[0]'(by rw [rest_size]; omega) = t[k] := by
    unfold restOf
    rw [ByteArray.getElem_extract]
    congr 1
  rw [h1]; exact tbN_in t k h
theorem rest_next (t : ByteArray) (k : Nat) : (restOf t k).extract 1 (restOf t k).size = restOf t (k + 1) := by
  rw [rest_size]
  unfold restOf
  rw [ByteArray.extract_extract]
  congr 1; omega
theorem rest_end (t : ByteArray) (k : Nat) (h : t.size ≤ k) : restOf t k = restOf t (k + 1) := by
  have e : ∀ j, t.size ≤ j → restOf t j = ByteArray.empty := fun j hj => ByteArray.size_eq_zero_iff.1 (by rw [rest_size]; omega)
  rw [e k h, e (k + 1) (by omega)]
set_option maxRecDepth 100000 in
set_option maxHeartbeats 800000 in
theorem imp_take (g size x k : Nat) (ch : Nat → Nat) (t : ByteArray) (w : World) (hts : t.size ≤ 9223372036854775807) (hr : w.rowIs g 122 1603 (cdF size ch x (.string (restOf t k)))) :
    Calls Tryd.prog 65 #[.pointer (some ⟨g, 0, none⟩)] w fun e w' => e = .returned (.tuple #[]) ∧ w'.rowIs g 122 1603 (cdF size ch ((256 * x + tbN t k) % 18446744073709551616) (.string (restOf t (k + 1)))) ∧ w.grownBy w' (some g) := by
  obtain ⟨_, c1, c2, _⟩ := cd_cells hr
  have f1 := hr.frozen 1601
  have f2 := hr.frozen 1602
  obtain ⟨X, hX⟩ : ∃ X, X = x * 256 % 18446744073709551616 := ⟨_, rfl⟩
  have kX : (x : Int) * 256 % 18446744073709551616 = (X : Int) := by omega
  have kX2 : IntKind.u64.wrap ((x : Int) * 256) = (X : Int) := by rw [IntKind.wrap_u64]; omega
  have R1 := (cd_set hr).2.1 X
  obtain ⟨_, d1, d2, _⟩ := cd_cells R1
  have e1 := R1.frozen 1601
  have e2 := R1.frozen 1602
  have G1 := grownBy_set (i := 1601) (grown0 w (some g)) (.int .u64 (X : Int))
  have hsz := rest_size t k
  by_cases hlt : k < t.size
  · have hb := rest_at t k hlt
    have hn := rest_next t k
    have htb8 := tbN_lt t k
    obtain ⟨R, hR⟩ : ∃ R, R = restOf t k := ⟨_, rfl⟩
    have hRs : 0 < R.size := by rw [hR, hsz]; omega
    have hRs' : (0 : Int) < (R.size : Int) := by omega
    have hRs2 : (1 : Int) ≤ (R.size : Int) := by omega
    have hR63 : R.size ≤ 9223372036854775807 := by rw [hR, hsz]; omega
    obtain ⟨b, hbe⟩ : ∃ b, b = tbN t k := ⟨_, rfl⟩
    have hb0 : (R[0]).toNat = b := by rw [hbe, ← hb]; simp only [hR]
    obtain ⟨N, hN⟩ : ∃ N, N = restOf t (k + 1) := ⟨_, rfl⟩
    rw [← hR, ← hN] at hn
    rw [← hR] at hr c2 R1 d2
    obtain ⟨Y, hY⟩ : ∃ Y, Y = (256 * x + b) % 18446744073709551616 := ⟨_, rfl⟩
    have kY : IntKind.u64.wrap ((X : Int) + (b : Int)) = (Y : Int) := by rw [IntKind.wrap_u64]; omega
    have kb : IntKind.u64.wrap (b : Int) = (b : Int) := by rw [IntKind.wrap_u64]; omega
    have HE := hide (show Y = (256 * x + tbN t k) % 18446744073709551616 ∧ N = restOf t (k + 1) from ⟨by rw [hY, hbe], hN⟩)
    have H := hide (And.intro R1 G1)
    clear hb hX hY hN hbe hR hsz hr R1 G1
    go_enter Tryd.func65, Tryd.ntmps65
    go_wp2_with fail
    generalize w.setCell ⟨g, 1601, none⟩ (.int .u64 (X : Int)) = W1 at *
    clear c1 c2 f1 f2
    obtain ⟨R1, G1⟩ := H.out
    have R2 := ((cd_set R1).2.1 Y).drew
    have G2 := grownBy_drew (grownBy_set (i := 1601) G1 (.int .u64 (Y : Int)))
    have H2 := hide (And.intro R2 G2)
    clear R1 G1 H R2 G2
    go_region
    obtain ⟨R2, G2⟩ := H2.out
    clear d1 d2 e1 e2 H2 kX kX2 kY kb
    generalize (W1.setCell ⟨g, 1601, none⟩ (.int .u64 (Y : Int))).drew = W2 at *
    obtain ⟨_, d1, d2, _⟩ := cd_cells R2
    have e2 := R2.frozen 1602
    have R3 := (cd_set R2).2.2.1 (.string N)
    have G3 := grownBy_set (i := 1602) G2 (.string N)
    have H3 := hide (And.intro R3 G3)
    clear R2 G2 R3 G3
    go_wp2_with fail
    go_end0
    exact ⟨rfl, by rw [← HE.out.1, ← HE.out.2]; exact H3.out.1, H3.out.2⟩
  · have HE := hide (show X = (256 * x + tbN t k) % 18446744073709551616 ∧ restOf t k = restOf t (k + 1) from ⟨by rw [tbN_far t k (by omega), hX]; omega, rest_end t k (by omega)⟩)
    obtain ⟨R, hR⟩ : ∃ R, R = restOf t k := ⟨_, rfl⟩
    have hRs : R.size = 0 := by rw [hR, hsz]; omega
    have hRs' : ¬ (0 : Int) < (R.size : Int) := by omega
    have H := hide (And.intro R1 G1)
    rw [← hR] at c2 d2 H HE
    clear hX hsz hr R1 G1 hR
    go_enter Tryd.func65, Tryd.ntmps65
    go_wp2_with fail
    go_end0
    exact ⟨rfl, by rw [← HE.out.1, ← HE.out.2]; exact H.out.1, H.out.2⟩
/-- A decoder of the program at work. -/
def DecP (w : World) (g : Nat) (t : ByteArray) (s : RC) (x : Nat) : Prop := w.rowIs g 122 1603 (cdF s.size s.ch x (.string (restOf t (s.n + 4))))
set_option maxRecDepth 100000 in
set_option maxHeartbeats 800000 in
theorem imp_newDecoder (t : ByteArray) (w : World) (hts : t.size ≤ 9223372036854775807) :
    Calls Tryd.prog 45 #[.string t] w fun e w' => ∃ g, e = .returned (.pointer (some ⟨g, 0, none⟩)) ∧ w.heap.size ≤ g ∧ DecP w' g t rc0 (pv (tbN t) 4) ∧ Below w.heap.size w w' := by
  go_enter Tryd.func45, Tryd.ntmps45
  go_wp2_with fail
  refine (imp_parting w).mono ?_
  rintro e w2 ⟨rfl, hb2⟩
  have HBT := hide (Tryd.builtDec 4294967295 (fun _ => 1024) t)
  go_wp2_with (first | (with_reducible (show wpList _ _ _ ({ dst := _, op := .build _ _, type := _, pos := _, after := _, guard := _ } :: _) _ _); refine wpList_build_2 rfl 122 0 _ 2 _ rfl (.agg (vL 1601 (parF 4294967295 fun _ => 1024)).toArray) rfl (.string t) rfl _ HBT.out ?_))
  have R3 := vrow_alloc w2 122 1603 (cdF 4294967295 (fun _ => 1024) 0 (.string t))
  have B3 := hide (hb2.alloc hb2.size (.cells (vL 1603 (cdF 4294967295 (fun _ => 1024) 0 (.string t))).toArray 122))
  have hg2 := hb2.size
  generalize w2.alloc (.cells (vL 1603 (cdF 4294967295 (fun _ => 1024) 0 (.string t))).toArray 122) = W3 at *
  generalize w2.heap.size = g at *
  have hrest : restOf t 0 = t := by unfold restOf; exact ByteArray.extract_zero_size
  have R0 := hide (show W3.rowIs g 122 1603 (cdF 4294967295 (fun _ => 1024) 0 (.string (restOf t 0))) by rw [hrest]; exact R3)
  clear hrest R3 hb2 HBT
  go_loopw [8] (fun i wx => ∃ k : Nat, k ≤ 4 ∧ i = .int .i64 k ∧ Hid (wx.rowIs g 122 1603 (cdF 4294967295 (fun _ => 1024) (pv (tbN t) k) (.string (restOf t k)))) ∧ Hid (Below w.heap.size w wx)) (fun i _ => 4 - (intOf i).toNat)
  case atStart => exact ⟨0, by omega, rfl, R0, B3⟩
  case round =>
    clear R0 B3
    obtain ⟨k, hk, rfl, hr, hb⟩ := hrel
    by_cases hk4 : k < 4
    · have hk4' : (k : Int) < 4 := by omega
      have hp := pv_lt (tbN t) (tbN_lt t) k
      have hp2 : 256 ^ k ≤ 256 ^ 3 := Nat.pow_le_pow_right (by omega) (by omega)
      have hp3 : pv (tbN t) k < 16777216 := Nat.lt_of_lt_of_le hp hp2
      have ht8 := tbN_lt t k
      have SN := hide (imp_take g 4294967295 (pv (tbN t) k) k (fun _ => 1024) t wr hts hr.out)
      rw [Nat.mod_eq_of_lt (by omega)] at SN
      have hgl := hr.out.lt
      clear hr
      go_wp2_with fail
      refine SN.out.mono ?_
      rintro e w2 ⟨rfl, hr2, hg2'⟩
      have hb2 := hide (hb.out.trans (grownBy_below hg2' hg2 hb.out.size))
      have hr3 := hide hr2
      clear hr2 hg2' hb SN
      go_wp2_with fail
      go_roundw
      case rel => exact ⟨k + 1, by omega, by go_num, hr3, hb2⟩
      case measure => simp [intOf]; omega
    · have hk4' : ¬ (k : Int) < 4 := by omega
      have hfin := hide (show DecP wr g t rc0 (pv (tbN t) 4) by have h := hr.out; rw [show k = 4 by omega] at h; exact h)
      clear hr
      go_wp2_with fail
      go_ret
      exact ⟨g, rfl, hg2, hfin.out, hb.out⟩
end Go.Proofs.YtdoodkabmeojmaaDoor
/- The walk over the program's carry. -/
namespace Go.Proofs.YtdoodkabmeojmaaDoor
open Go.RowKit
set_option maxRecDepth 100000 in
set_option maxHeartbeats 800000 in
theorem imp_carry (base g go n cap low size V : Nat) (ch : Nat → Nat) (w : World) (hn : 0 < n) (hn2 : n ≤ 100000) (hV : V + 1 < 256 ^ n) (hrow : w.rowIs g 64 1603 (cdF size ch low (.slice (some ⟨go, 0, none⟩) n cap))) (hown : ownB w base (.slice (some ⟨go, 0, none⟩) n cap) n (byN n V)) (hne : go ≠ g) :
    Calls Tryd.prog 74 #[.pointer (some ⟨g, 0, none⟩)] w fun e w' => e = .returned (.tuple #[]) ∧ ownB w' base (.slice (some ⟨go, 0, none⟩) n cap) n (byN n (V + 1)) ∧ w.grownBy w' (some go) := by
  have c0 := (cd_cells hrow).2.2.1
  have hHR := hide hrow
  clear hrow
  have hcap : n ≤ cap := by
    obtain ⟨_, ⟨h, _⟩ | ⟨g', cap', cur, h, _, _, h2, _⟩⟩ := hown
    · cases h
    · cases h; exact h2
  have hcap2 : (n : Int) ≤ (cap : Int) := by omega
  go_enter Tryd.func74, Tryd.ntmps74
  go_wp2_with fail
  clear c0
  go_loopw [2] (fun i wx => ∃ (k : Nat) (f : Nat → UInt8), k ≤ n ∧ i = .int .i64 ((n : Int) - 1 - (k : Int)) ∧ Hid (∀ j, j < n → f j = cutZ n V k j) ∧ Hid (V % 256 ^ k = 256 ^ k - 1) ∧ Hid (ownB wx base (.slice (some ⟨go, 0, none⟩) n cap) n f) ∧ Hid (w.grownBy wx (some go))) (fun i _ => (intOf i + 1).toNat)
  case atStart => exact ⟨0, byN n V, by omega, by go_num, fun j hj => by rw [cutZ, if_neg (by omega)], by unfold Hid; rw [Nat.pow_zero, Nat.mod_one], hown, ⟨rfl, rfl, rfl, Nat.le_refl _, fun _ _ _ => rfl⟩⟩
  case round =>
    obtain ⟨k, f, hk, rfl, hf, hm, how, hgr⟩ := hrel
    have hrow := hHR.out.of_block (hgr.out.block g hHR.out.lt (by simp; omega))
    by_cases hlt : k < n
    · obtain ⟨i, ei⟩ : ∃ i, i = n - 1 - k := ⟨_, rfl⟩
      have e1 : (n : Int) - 1 - (k : Int) = (i : Int) := by omega
      rw [e1]
      have hi : i < n := by omega
      have hi' : (i : Int) < (n : Int) := by omega
      have c0 := (cd_cells hrow).2.2.1
      have ci := how.out.cell i hi
      have fi := World.ownsRow.frozenAt how.out i
      obtain ⟨b, hb⟩ : ∃ b, b = V / 256 ^ k % 256 := ⟨_, rfl⟩
      have hfi : f i = UInt8.ofNat b := by rw [hf.out i hi, cutZ, if_neg (by omega), byN, show n - 1 - i = k by omega, hb]
      have hb8 : b < 256 := by omega
      rw [hfi, show ((UInt8.ofNat b).toNat : Int) = (b : Int) by rw [UInt8.toNat_ofNat']; omega] at ci
      by_cases h255 : b = 255
      · obtain ⟨b1, hb1⟩ : ∃ x : Nat, x = 0 := ⟨_, rfl⟩
        have hw : IntKind.u8.wrap ((b : Int) + 1) = (b1 : Int) := by rw [IntKind.wrap_u8]; omega
        have hb1' : ((b1 : Int) == 0) = true := by simp; omega
        have how2 := hide (how.out.set (Y := UInt8.ofNat b1) hi (show b1 = (UInt8.ofNat b1).toNat by rw [UInt8.toNat_ofNat']; omega))
        have hgr2 := hide (grownBy_setB (i := i) hgr.out (.int .u8 (b1 : Int)))
        have c0' : (wr.setCell ⟨go, i, none⟩ (.int .u8 (b1 : Int))).cell? ⟨g, 1602, none⟩ = some (.slice (some ⟨go, 0, none⟩) n cap) := cell_far hne c0
        have ci' : (wr.setCell ⟨go, i, none⟩ (.int .u8 (b1 : Int))).cell? ⟨go, i, none⟩ = some (.int .u8 (b1 : Int)) := World.cell?_setCell_same _ _ _ ci
        have hf' := hide (show ∀ j, j < n → (if j = i then UInt8.ofNat b1 else f j) = cutZ n V (k + 1) j from fun j hj => by
          by_cases e : j = i
          · rw [if_pos e, cutZ, if_pos (by omega), hb1]; rfl
          · rw [if_neg e, hf.out j hj, cutZ, cutZ]
            by_cases e2 : n - k ≤ j
            · rw [if_pos e2, if_pos (by omega)]
            · rw [if_neg e2, if_neg (by omega)])
        have hm' := hide (carry_more V k hm.out (by rw [← hb]; exact h255))
        have HI1 := hide (show (i : Int) - 1 = (n : Int) - 1 - ((k + 1 : Nat) : Int) by omega)
        clear ei hb e1 hfi h255 hb1 hf hm how hgr hrow
        go_wp2_with fail
        go_roundw
        case rel => exact ⟨k + 1, _, by omega, by rw [← HI1.out], hf', hm', how2, hgr2⟩
        case measure => simp [intOf]
      · obtain ⟨b1, hb1⟩ : ∃ x : Nat, x = b + 1 := ⟨_, rfl⟩
        have hw : IntKind.u8.wrap ((b : Int) + 1) = (b1 : Int) := by rw [IntKind.wrap_u8]; omega
        have hb1' : ((b1 : Int) == 0) = false := by simp; omega
        have how2 := how.out.set (Y := UInt8.ofNat b1) hi (show b1 = (UInt8.ofNat b1).toNat by rw [UInt8.toNat_ofNat']; omega)
        have hgr2 := hide (grownBy_setB (i := i) hgr.out (.int .u8 (b1 : Int)))
        have c0' : (wr.setCell ⟨go, i, none⟩ (.int .u8 (b1 : Int))).cell? ⟨g, 1602, none⟩ = some (.slice (some ⟨go, 0, none⟩) n cap) := cell_far hne c0
        have ci' : (wr.setCell ⟨go, i, none⟩ (.int .u8 (b1 : Int))).cell? ⟨go, i, none⟩ = some (.int .u8 (b1 : Int)) := World.cell?_setCell_same _ _ _ ci
        have hf' := (show ∀ j, j < n → (if j = i then UInt8.ofNat b1 else f j) = byN n (V + 1) j from fun j hj => by
          rw [carry_by n V k j hlt hj hm.out (by rw [← hb]; exact h255), ← hb, ← ei]
          by_cases e : j = i
          · rw [if_pos e, if_pos e, hb1]
          · rw [if_neg e, if_neg e, hf.out j hj])
        have how3 := hide (how2.congr hf')
        clear hf' how2 hf hm ei hb e1 hfi h255 hb1 how hgr hrow
        go_wp2_with fail
        exact bodyPost_ret (v := .tuple #[]) (by simp [results, Tryd.results74]) rfl ⟨rfl, how3.out, hgr2.out⟩
    · exact absurd (carry_never n V hV (by rw [show n = k by omega]; exact hm.out)) id
end Go.Proofs.YtdoodkabmeojmaaDoor
/- The walk over the program's shift (written by mkshift.py). -/
namespace Go.Proofs.YtdoodkabmeojmaaDoor
open Go.RowKit
/-- A coder of the program at work. -/
def CodP (w : World) (base g size : Nat) (ch : Nat → Nat) (low n : Nat) : Prop :=
  ∃ ov, w.rowIs g 64 1603 (cdF size ch (low % 4294967296) ov) ∧ ownB w base ov n (byN n (low / 4294967296)) ∧ ov.ownBlock ≠ some g
set_option maxRecDepth 100000 in
set_option maxHeartbeats 1600000 in
theorem imp_shiftK (base g size low nn : Nat) (ch : Nat → Nat) (ov : Value) (w : World) (hnb : nn ≤ 100000) (hbg : base ≤ g) (hr : w.rowIs g 64 1603 (cdF size ch (low % 4294967296) ov)) (ho : ownB w base ov nn (byN nn (low / 4294967296))) (hd1 : ov.ownBlock ≠ some g) :
    Calls Tryd.prog 39 #[.pointer (some ⟨g, 0, none⟩)] w fun e w' => e = .returned (.tuple #[]) ∧ (∃ ov', w'.rowIs g 64 1603 (cdF size ch (256 * low % 4294967296) ov') ∧ ownB w' base ov' (nn + 1) (byN (nn + 1) (256 * low / 4294967296)) ∧ ov'.ownBlock ≠ some g ∧ ∀ k, ov'.ownBlock = some k → ov.ownBlock = some k ∨ w.heap.size ≤ k) ∧ Below base w w' ∧ ∀ k, k < w.heap.size → k ≠ g → ov.ownBlock ≠ some k → w'.heap[k]? = w.heap[k]? := by
  obtain ⟨l, hl⟩ : ∃ l, l = low % 4294967296 := ⟨_, rfl⟩
  rw [← hl] at hr
  obtain ⟨_, c1, c0, _⟩ := cd_cells hr
  have f0 := hr.frozen 1602
  have hl32 : l < 4294967296 := by omega
  obtain ⟨b, hb⟩ : ∃ b : UInt8, b = UInt8.ofNat (l / 16777216) := ⟨_, rfl⟩
  have hbn : b.toNat = l / 16777216 := by rw [hb, UInt8.toNat_ofNat']; omega
  obtain ⟨y, hy⟩ : ∃ y, y = l / 16777216 := ⟨_, rfl⟩
  have m1 : (l : Int) / 16777216 = (y : Int) := by omega
  have m2 : IntKind.u8.wrap (y : Int) = (y : Int) := by rw [IntKind.wrap_u8]; omega
  have hy8 : (y : Int) ≤ 255 := by omega
  obtain ⟨i0, hi0, hz0, hz1, hz2⟩ := info_parts Tryd.infoB8r
  have HT := hide (And.intro hl (And.intro hbn hy))
  clear hl hb hbn hy
  go_enter Tryd.func39, Tryd.ntmps39
  go_wp2_with fail
  refine wp_region_held_drew (S := fun w' => w'.cell? ⟨g, 1601, none⟩ = some (.int .u64 (l : Nat))) (by kernel_rfl) c1 (fun hHeld => ?_)
  refine takeD (i := 0) (v := .pointer (some ⟨g, 0, none⟩)) (some 2) rfl rfl (by kernel_rfl) (by kernel_rfl) (by kernel_rfl) (fun _ _ _ h => h) (Or.inl ⟨by rfl, fun w hSw => by go_simp⟩) hHeld ?_
  simp only [Act.put, List.setIfInBounds_toArray, List.set_cons_zero, List.set_cons_succ]
  refine takeD (i := 1) (v := .pointer (some ⟨g, 0, none⟩)) (some 3) rfl rfl (by kernel_rfl) (by kernel_rfl) (by kernel_rfl) (fun _ _ _ h => h) (Or.inl ⟨by rfl, fun w hSw => by go_simp⟩) hHeld ?_
  simp only [Act.put, List.setIfInBounds_toArray, List.set_cons_zero, List.set_cons_succ]
  refine takeD (i := 2) (v := .pointer (some ⟨g, 0, none⟩)) (some 4) rfl rfl (by kernel_rfl) (by kernel_rfl) (by kernel_rfl) (fun _ _ _ h => h) (Or.inl ⟨by rfl, fun w hSw => by go_simp⟩) hHeld ?_
  simp only [Act.put, List.setIfInBounds_toArray, List.set_cons_zero, List.set_cons_succ]
  refine takeD (i := 3) (v := .pointer (some ⟨g, 1602, none⟩)) (some 5) rfl rfl (by kernel_rfl) (by kernel_rfl) (by kernel_rfl) (fun _ _ _ h => h) (Or.inl ⟨by rfl, fun w hSw => by go_simp⟩) hHeld ?_
  simp only [Act.put, List.setIfInBounds_toArray, List.set_cons_zero, List.set_cons_succ]
  refine takeD (i := 5) (v := .pointer (some ⟨g, 0, none⟩)) (some 7) rfl rfl (by kernel_rfl) (by kernel_rfl) (by kernel_rfl) (fun _ _ _ h => h) (Or.inl ⟨by rfl, fun w hSw => by go_simp⟩) hHeld ?_
  simp only [Act.put, List.setIfInBounds_toArray, List.set_cons_zero, List.set_cons_succ]
  refine takeD (i := 6) (v := .pointer (some ⟨g, 0, none⟩)) (some 8) rfl rfl (by kernel_rfl) (by kernel_rfl) (by kernel_rfl) (fun _ _ _ h => h) (Or.inl ⟨by rfl, fun w hSw => by go_simp⟩) hHeld ?_
  simp only [Act.put, List.setIfInBounds_toArray, List.set_cons_zero, List.set_cons_succ]
  refine takeD (i := 7) (v := .pointer (some ⟨g, 1601, none⟩)) (some 9) rfl rfl (by kernel_rfl) (by kernel_rfl) (by kernel_rfl) (fun _ _ _ h => h) (Or.inl ⟨by rfl, fun w hSw => by go_simp⟩) hHeld ?_
  simp only [Act.put, List.setIfInBounds_toArray, List.set_cons_zero, List.set_cons_succ]
  refine takeD (i := 8) (v := .int .u64 (l : Int)) (some 10) rfl rfl (by kernel_rfl) (by kernel_rfl) (by kernel_rfl) (fun _ _ _ h => h) (Or.inl ⟨by rfl, fun w hSw => by go_simp⟩) hHeld ?_
  simp only [Act.put, List.setIfInBounds_toArray, List.set_cons_zero, List.set_cons_succ]
  refine takeD (i := 9) (v := .int .u64 (y : Int)) (some 11) rfl rfl (by kernel_rfl) (by kernel_rfl) (by kernel_rfl) (fun _ _ _ h => h) (Or.inl ⟨by rfl, fun w hSw => by go_simp⟩) hHeld ?_
  simp only [Act.put, List.setIfInBounds_toArray, List.set_cons_zero, List.set_cons_succ]
  refine takeD (i := 10) (v := .int .u8 (y : Int)) (some 12) rfl rfl (by kernel_rfl) (by kernel_rfl) (by kernel_rfl) (fun _ _ _ h => h) (Or.inl ⟨by rfl, fun w hSw => by go_simp⟩) hHeld ?_
  simp only [Act.put, List.setIfInBounds_toArray, List.set_cons_zero, List.set_cons_succ]
  have ra := hr.drew.alloc (.cells #[.int .u8 (y : Int)] 5)
  have ca0 : (w.drew.alloc (.cells #[.int .u8 (y : Int)] 5)).cell? ⟨g, 1602, none⟩ = some ov := (cd_cells ra).2.2.1
  have ca1 : (w.drew.alloc (.cells #[.int .u8 (y : Int)] 5)).cell? ⟨g, 1601, none⟩ = some (.int .u64 (l : Nat)) := (cd_cells ra).2.1
  have oa := World.ownsRow.alloc (World.ownsRow.drew ho) (.cells #[.int .u8 (y : Int)] 5)
  have hba := (Below.refl base w).drew.alloc (show base ≤ w.drew.heap.size by have := hr.lt; exact Nat.le_trans hbg (Nat.le_of_lt this)) (.cells #[.int .u8 (y : Int)] 5)
  have AA := hide (And.intro oa hba)
  have KA := hide (show ∀ k, k < w.heap.size → (w.drew.alloc (.cells #[.int .u8 (y : Int)] 5)).heap[k]? = w.heap[k]? from fun k hk => Below.heap_alloc w.drew _ k hk)
  have hglt := hr.lt
  clear oa hba
  refine wpAnyH_ready (rs := [4, 11]) (by kernel_rfl) (by simp) ?_
  refine AllReadyH.cons rfl (fun KK hK => ?_) (AllReadyH.cons rfl (fun KK hK => ?_) AllReadyH.nil)
  · go_simp
    refine hK.out _ _ c1 (fun hHeld => ?_)
    clear hK KK
    refine wpAnyH_ready (rs := [11]) (by kernel_rfl) (by simp) ?_
    refine AllReadyH.cons rfl (fun KK hK => ?_) AllReadyH.nil
    go_simp
    refine hK.out _ _ ca1 (fun hHeld => ?_)
    clear hK KK
    refine wpAnyH_ready (rs := [12]) (by kernel_rfl) (by simp) ?_
    refine AllReadyH.cons rfl (fun KK hK => ?_) AllReadyH.nil
    refine step_append_D _ (some 14) rfl rfl (.tmp 6) (.tmp 13) 22 rfl base 5 i0 (.int .u8 0) 1 1 Tryd.underlying22 hi0 hz0 hz1 hz2 rfl (by omega) ov nn _ rfl AA.out.1 ⟨w.heap.size, 0, none⟩ 1 1 [.int .u8 (y : Int)] rfl rfl (one_cell w.drew _ _) (one_oneCell .u8 _) (by omega) (by unfold maxLen; omega) (by omega) (by simp; omega) (w.heap.size + 1) (by simp) ?_
    intro g' cap' w2 hown' hgr' hat' hlt'
    have r2 := ra.of_block (hgr'.block g (by simp; omega) (fun e => hd1 e.symm))
    simp only [Act.put, List.setIfInBounds_toArray, List.set_cons_zero, List.set_cons_succ]
    refine hK.out _ _ (cd_cells r2).2.1 (fun hHeld => ?_)
    clear hK KK
    refine takeD (i := 13) (v := .pointer (some ⟨g, 0, none⟩)) (some 15) rfl rfl (by kernel_rfl) (by kernel_rfl) (by kernel_rfl) (fun _ _ _ h => h) (Or.inl ⟨by rfl, fun w hSw => by go_simp⟩) hHeld ?_
    simp only [Act.put, List.setIfInBounds_toArray, List.set_cons_zero, List.set_cons_succ]
    refine takeD (i := 14) (v := .pointer (some ⟨g, 1602, none⟩)) (some 16) rfl rfl (by kernel_rfl) (by kernel_rfl) (by kernel_rfl) (fun _ _ _ h => h) (Or.inl ⟨by rfl, fun w hSw => by go_simp⟩) hHeld ?_
    simp only [Act.put, List.setIfInBounds_toArray, List.set_cons_zero, List.set_cons_succ]
    have c20 := (cd_cells r2).2.2.1
    have f20 := r2.frozen 1602
    refine wpAnyH_ready (rs := [15]) (by kernel_rfl) (by simp) ?_
    refine AllReadyH.cons rfl (fun KK hK => ?_) AllReadyH.nil
    go_simp
    have r3 := (cd_set r2).2.2.1 (.slice (some ⟨g', 0, none⟩) (nn + 1) cap')
    refine hK.out _ _ (cd_cells r3).2.1 (fun hHeld => ?_)
    clear hK KK
    refine wpAnyH_done (by kernel_rfl) ?_ _
    have hg'g : (Value.slice (some ⟨g', 0, none⟩) (nn + 1) cap').ownBlock ≠ some g := by
      intro e
      have e1 : g' = g := by simpa [Value.ownBlock] using e
      rcases hat' with h | h
      · exact hd1 (by rw [h, e1])
      · omega
    have ho3 := (ownB_snoc b (y := y) (by have := HT.out; omega) hown').far (g := g) (k := 1602) (x := .slice (some ⟨g', 0, none⟩) (nn + 1) cap') hg'g
    have hb3 := (AA.out.2.grown hgr' (by simp; omega) (fun x hx => (World.ownsRow.lt AA.out.1 x hx).1)).setCell (p := ⟨g, 1602, none⟩) hbg (.slice (some ⟨g', 0, none⟩) (nn + 1) cap')
    have KB := hide (show ∀ k, k < w.heap.size → k ≠ g → ov.ownBlock ≠ some k → (w2.setCell ⟨g, 1602, none⟩ (.slice (some ⟨g', 0, none⟩) (nn + 1) cap')).heap[k]? = w.heap[k]? from fun k h1 h2 h3 => by
      rw [Below.heap_setCell _ _ _ _ h2]
      exact (hgr'.block k (by simp; omega) (fun e => h3 e.symm)).trans (KA.out k h1))
    have KC := hide (show ∀ k, (Value.slice (some ⟨g', 0, none⟩) (nn + 1) cap').ownBlock = some k → ov.ownBlock = some k ∨ w.heap.size ≤ k from fun k hk => by
      obtain rfl : g' = k := by simpa [Value.ownBlock] using hk
      rcases hat' with h | h
      · exact .inl h
      · exact .inr (by omega))
    obtain ⟨l2, hl2⟩ : ∃ x, x = 256 * l % 4294967296 := ⟨_, rfl⟩
    have a1 : bits .and .u64 ((l : Int) * 256) 4294967295 = (l2 : Int) := by
      have h := and64 (256 * l) (by omega)
      rw [show ((256 * l : Nat) : Int) = (l : Int) * 256 by omega] at h
      rw [h, hl2]
    have HLZ := hide hl2
    clear hl2 hown' hgr' hat' hlt' c20 f20 r2 AA ra ca0 ca1 c0 c1 f0 hr ho m1 m2
    generalize w2.setCell ⟨g, 1602, none⟩ (.slice (some ⟨g', 0, none⟩) (nn + 1) cap') = W3 at *
    have d1 := (cd_cells r3).2.1
    have e1 := r3.frozen 1601
    go_wp2_with fail
    go_end0
    refine ⟨rfl, ⟨_, ?_, ?_, hg'g, KC.out⟩, hb3.setCell (p := ⟨g, 1601, none⟩) hbg _, fun k h1 h2 h3 => by rw [Below.heap_setCell _ _ _ _ h2]; exact KB.out k h1 h2 h3⟩
    · rw [(low_shift low).2, ← HT.out.1, ← HLZ.out]
      exact (cd_set r3).2.1 l2
    · rw [(low_shift low).1, ← HT.out.1, ← HT.out.2.1]
      refine (ho3.far (g := g) (k := 1601) hg'g).congr (fun j hj => ?_)
      rw [byN_snoc nn _ b j hj]
  · go_simp
    refine hK.out _ _ ca1 (fun hHeld => ?_)
    clear hK KK
    refine wpAnyH_ready (rs := [4]) (by kernel_rfl) (by simp) ?_
    refine AllReadyH.cons rfl (fun KK hK => ?_) AllReadyH.nil
    go_simp
    refine hK.out _ _ ca1 (fun hHeld => ?_)
    clear hK KK
    refine wpAnyH_ready (rs := [12]) (by kernel_rfl) (by simp) ?_
    refine AllReadyH.cons rfl (fun KK hK => ?_) AllReadyH.nil
    refine step_append_D _ (some 14) rfl rfl (.tmp 6) (.tmp 13) 22 rfl base 5 i0 (.int .u8 0) 1 1 Tryd.underlying22 hi0 hz0 hz1 hz2 rfl (by omega) ov nn _ rfl AA.out.1 ⟨w.heap.size, 0, none⟩ 1 1 [.int .u8 (y : Int)] rfl rfl (one_cell w.drew _ _) (one_oneCell .u8 _) (by omega) (by unfold maxLen; omega) (by omega) (by simp; omega) (w.heap.size + 1) (by simp) ?_
    intro g' cap' w2 hown' hgr' hat' hlt'
    have r2 := ra.of_block (hgr'.block g (by simp; omega) (fun e => hd1 e.symm))
    simp only [Act.put, List.setIfInBounds_toArray, List.set_cons_zero, List.set_cons_succ]
    refine hK.out _ _ (cd_cells r2).2.1 (fun hHeld => ?_)
    clear hK KK
    refine takeD (i := 13) (v := .pointer (some ⟨g, 0, none⟩)) (some 15) rfl rfl (by kernel_rfl) (by kernel_rfl) (by kernel_rfl) (fun _ _ _ h => h) (Or.inl ⟨by rfl, fun w hSw => by go_simp⟩) hHeld ?_
    simp only [Act.put, List.setIfInBounds_toArray, List.set_cons_zero, List.set_cons_succ]
    refine takeD (i := 14) (v := .pointer (some ⟨g, 1602, none⟩)) (some 16) rfl rfl (by kernel_rfl) (by kernel_rfl) (by kernel_rfl) (fun _ _ _ h => h) (Or.inl ⟨by rfl, fun w hSw => by go_simp⟩) hHeld ?_
    simp only [Act.put, List.setIfInBounds_toArray, List.set_cons_zero, List.set_cons_succ]
    have c20 := (cd_cells r2).2.2.1
    have f20 := r2.frozen 1602
    refine wpAnyH_ready (rs := [15]) (by kernel_rfl) (by simp) ?_
    refine AllReadyH.cons rfl (fun KK hK => ?_) AllReadyH.nil
    go_simp
    have r3 := (cd_set r2).2.2.1 (.slice (some ⟨g', 0, none⟩) (nn + 1) cap')
    refine hK.out _ _ (cd_cells r3).2.1 (fun hHeld => ?_)
    clear hK KK
    refine wpAnyH_done (by kernel_rfl) ?_ _
    have hg'g : (Value.slice (some ⟨g', 0, none⟩) (nn + 1) cap').ownBlock ≠ some g := by
      intro e
      have e1 : g' = g := by simpa [Value.ownBlock] using e
      rcases hat' with h | h
      · exact hd1 (by rw [h, e1])
      · omega
    have ho3 := (ownB_snoc b (y := y) (by have := HT.out; omega) hown').far (g := g) (k := 1602) (x := .slice (some ⟨g', 0, none⟩) (nn + 1) cap') hg'g
    have hb3 := (AA.out.2.grown hgr' (by simp; omega) (fun x hx => (World.ownsRow.lt AA.out.1 x hx).1)).setCell (p := ⟨g, 1602, none⟩) hbg (.slice (some ⟨g', 0, none⟩) (nn + 1) cap')
    have KB := hide (show ∀ k, k < w.heap.size → k ≠ g → ov.ownBlock ≠ some k → (w2.setCell ⟨g, 1602, none⟩ (.slice (some ⟨g', 0, none⟩) (nn + 1) cap')).heap[k]? = w.heap[k]? from fun k h1 h2 h3 => by
      rw [Below.heap_setCell _ _ _ _ h2]
      exact (hgr'.block k (by simp; omega) (fun e => h3 e.symm)).trans (KA.out k h1))
    have KC := hide (show ∀ k, (Value.slice (some ⟨g', 0, none⟩) (nn + 1) cap').ownBlock = some k → ov.ownBlock = some k ∨ w.heap.size ≤ k from fun k hk => by
      obtain rfl : g' = k := by simpa [Value.ownBlock] using hk
      rcases hat' with h | h
      · exact .inl h
      · exact .inr (by omega))
    obtain ⟨l2, hl2⟩ : ∃ x, x = 256 * l % 4294967296 := ⟨_, rfl⟩
    have a1 : bits .and .u64 ((l : Int) * 256) 4294967295 = (l2 : Int) := by
      have h := and64 (256 * l) (by omega)
      rw [show ((256 * l : Nat) : Int) = (l : Int) * 256 by omega] at h
      rw [h, hl2]
    have HLZ := hide hl2
    clear hl2 hown' hgr' hat' hlt' c20 f20 r2 AA ra ca0 ca1 c0 c1 f0 hr ho m1 m2
    generalize w2.setCell ⟨g, 1602, none⟩ (.slice (some ⟨g', 0, none⟩) (nn + 1) cap') = W3 at *
    have d1 := (cd_cells r3).2.1
    have e1 := r3.frozen 1601
    go_wp2_with fail
    go_end0
    refine ⟨rfl, ⟨_, ?_, ?_, hg'g, KC.out⟩, hb3.setCell (p := ⟨g, 1601, none⟩) hbg _, fun k h1 h2 h3 => by rw [Below.heap_setCell _ _ _ _ h2]; exact KB.out k h1 h2 h3⟩
    · rw [(low_shift low).2, ← HT.out.1, ← HLZ.out]
      exact (cd_set r3).2.1 l2
    · rw [(low_shift low).1, ← HT.out.1, ← HT.out.2.1]
      refine (ho3.far (g := g) (k := 1601) hg'g).congr (fun j hj => ?_)
      rw [byN_snoc nn _ b j hj]
theorem imp_shift (base g size low nn : Nat) (ch : Nat → Nat) (w : World) (hnb : nn ≤ 100000) (hbg : base ≤ g) (hcod : CodP w base g size ch low nn) :
    Calls Tryd.prog 39 #[.pointer (some ⟨g, 0, none⟩)] w fun e w' => e = .returned (.tuple #[]) ∧ CodP w' base g size ch (256 * low) (nn + 1) ∧ Below base w w' := by
  obtain ⟨ov, hr, ho, hd1⟩ := hcod
  exact (imp_shiftK base g size low nn ch ov w hnb hbg hr ho hd1).mono fun e w' ⟨h1, ⟨ov', h2, h3, h4, _⟩, h6, _⟩ => ⟨h1, ⟨ov', h2, h3, h4⟩, h6⟩
end Go.Proofs.YtdoodkabmeojmaaDoor
/- The walk over the program's add. -/
namespace Go.Proofs.YtdoodkabmeojmaaDoor
open Go.RowKit
theorem add_carry {low b n : Nat} (h : low + b < 4294967296 * 256 ^ n) (hc : 4294967296 ≤ low % 4294967296 + b) (hb : b ≤ 4294967295) : 0 < n ∧ (low + b) / 4294967296 = low / 4294967296 + 1 ∧ low / 4294967296 + 1 < 256 ^ n ∧ (low + b) % 4294967296 = (low % 4294967296 + b) % 4294967296 := by
  have h2 : (low + b) / 4294967296 = low / 4294967296 + 1 := by omega
  have h3 : low / 4294967296 + 1 < 256 ^ n := by
    rw [← h2]
    exact (Nat.div_lt_iff_lt_mul (by decide)).2 (by rw [Nat.mul_comm]; exact h)
  refine ⟨?_, h2, h3, by omega⟩
  rcases Nat.eq_zero_or_pos n with h0 | h0
  · subst h0; rw [Nat.pow_zero] at h3; omega
  · exact h0
set_option maxRecDepth 100000 in
set_option maxHeartbeats 800000 in
theorem imp_addK (base g size low n b : Nat) (ch : Nat → Nat) (w : World) (hn2 : n ≤ 100000) (hb : b ≤ 4294967295) (hfit : low + b < 4294967296 * 256 ^ n) (hbg : base ≤ g) (ov : Value) (hr : w.rowIs g 64 1603 (cdF size ch (low % 4294967296) ov)) (ho : ownB w base ov n (byN n (low / 4294967296))) (hd1 : ov.ownBlock ≠ some g) :
    Calls Tryd.prog 56 #[.pointer (some ⟨g, 0, none⟩), .int .u64 (b : Int)] w fun e w' => e = .returned (.tuple #[]) ∧ (w'.rowIs g 64 1603 (cdF size ch ((low + b) % 4294967296) ov) ∧ ownB w' base ov n (byN n ((low + b) / 4294967296))) ∧ Below base w w' ∧ ∀ k, k < w.heap.size → k ≠ g → ov.ownBlock ≠ some k → w'.heap[k]? = w.heap[k]? := by
  obtain ⟨l, hl⟩ : ∃ l, l = low % 4294967296 := ⟨_, rfl⟩
  rw [← hl] at hr
  have c1 := (cd_cells hr).2.1
  have f1 := hr.frozen 1601
  obtain ⟨m, hm⟩ : ∃ m, m = l + b := ⟨_, rfl⟩
  have k1 : (l : Int) + (b : Int) = (m : Int) := by omega
  have k2 : IntKind.u64.wrap ((l : Int) + (b : Int)) = (m : Int) := by rw [IntKind.wrap_u64]; omega
  have k3 : IntKind.u64.wrap (m : Int) = (m : Int) := by rw [IntKind.wrap_u64]; omega
  have hm3 : (m : Int) ≤ 8589934592 := by omega
  have R1 := (cd_set hr).2.1 m
  have O1 := ho.far (g := g) (k := 1601) (x := .int .u64 (m : Int)) hd1
  have B1 := (Below.refl base w).setCell (p := ⟨g, 1601, none⟩) hbg (.int .u64 (m : Int))
  have K1 : ∀ v k, k < w.heap.size → k ≠ g → (w.setCell ⟨g, 1601, none⟩ v).heap[k]? = w.heap[k]? := fun v k _ hk => Below.heap_setCell _ _ _ _ hk
  have d1 := (cd_cells R1).2.1
  have e1 := R1.frozen 1601
  have KK := hide K1
  clear K1
  by_cases hc : 4294967296 ≤ m
  · have hc' : (4294967295 : Int) < (m : Int) := by omega
    obtain ⟨q1, q2, q3, q4⟩ := add_carry hfit (show 4294967296 ≤ low % 4294967296 + b by omega) hb
    obtain ⟨go, cap, rfl, hgo, _⟩ := ho.form q1
    have hne : go ≠ g := fun e => hd1 (by rw [e]; rfl)
    obtain ⟨m2, hm2⟩ : ∃ x, x = m % 4294967296 := ⟨_, rfl⟩
    have a1 : bits .and .u64 (m : Int) 4294967295 = (m2 : Int) := by rw [and64 m (by omega), hm2]
    have R2 := (cd_set R1).2.1 m2
    have O2 := O1.far (g := g) (k := 1601) (x := .int .u64 (m2 : Int)) hd1
    have B2 := B1.setCell (p := ⟨g, 1601, none⟩) hbg (.int .u64 (m2 : Int))
    have HL := hide (show (low + b) % 4294967296 = m2 by rw [q4, ← hl, ← hm, hm2])
    have HV := hide q2
    have H := hide (And.intro R2 (And.intro O2 B2))
    clear hm hm2 hl R2 O2 B2 q4 q2 R1 O1 B1 hr ho
    go_enter Tryd.func56, Tryd.ntmps56
    go_wp2_with fail
    refine (imp_carry base g go n cap m2 size (low / 4294967296) ch _ q1 hn2 q3 H.out.1 H.out.2.1 hne).mono ?_
    rintro e w3 ⟨rfl, ho3, hg3⟩
    go_wp2_with fail
    go_end0
    refine ⟨rfl, ⟨?_, ?_⟩, ?_, fun k h1 h2 h3 => ?_⟩
    · rw [HL.out]
      exact H.out.1.of_block (hg3.block g H.out.1.lt (by simpa using fun e => hne e.symm))
    · rw [HV.out]; exact ho3
    · exact H.out.2.2.trans (grownBy_below hg3 hgo (Nat.le_trans hbg (Nat.le_of_lt H.out.1.lt)))
    · refine (hg3.block k (by simpa [World.setCell] using h1) (fun e => h3 (by rw [e]; rfl))).trans ?_
      rw [Below.heap_setCell _ _ _ _ h2]; exact KK.out _ k h1 h2
  · have hc' : ¬ (4294967295 : Int) < (m : Int) := by omega
    have HL := hide (show (low + b) % 4294967296 = m by omega)
    have HV := hide (show (low + b) / 4294967296 = low / 4294967296 by omega)
    have H := hide (And.intro R1 (And.intro O1 B1))
    clear hm hl R1 O1 B1 hr ho
    go_enter Tryd.func56, Tryd.ntmps56
    go_wp2_with fail
    go_end0
    exact ⟨rfl, ⟨by rw [HL.out]; exact H.out.1, by rw [HV.out]; exact H.out.2.1⟩, H.out.2.2, fun k h1 h2 _ => KK.out _ k h1 h2⟩
end Go.Proofs.YtdoodkabmeojmaaDoor
/- The walk over the program's put. -/
namespace Go.Proofs.YtdoodkabmeojmaaDoor
open Go.RowKit
/-- A coder of the program, by the state that it bears. -/
def CodR (w : World) (base g : Nat) (s : RC) : Prop := CodP w base g s.size s.ch s.low s.n
theorem CodP.keep {w w' : World} {base g size low n : Nat} {ch : Nat → Nat} (h : CodP w base g size ch low n) (hb : ∀ k, k < w.heap.size → w'.heap[k]? = w.heap[k]?) : CodP w' base g size ch low n := by
  obtain ⟨ov, hr, ho, hd⟩ := h
  refine ⟨ov, hr.of_block (hb g hr.lt), ?_, hd⟩
  obtain ⟨a, h1 | ⟨k, cap, cur, rfl, c1, c2, c3⟩⟩ := ho
  · exact ⟨a, .inl h1⟩
  · exact ⟨a, .inr ⟨k, cap, cur, rfl, c1, (hb k (Array.getElem?_eq_some_iff.1 c2).1).trans c2, c3⟩⟩
/-- The range's size, off the block. -/
def size0 (w : World) (g : Nat) : Nat := match w.cell? ⟨g, 0, none⟩ with
  | some (.int _ n) => n.toNat
  | _ => 0
theorem size0_of {w : World} {g x : Nat} (h : w.cell? ⟨g, 0, none⟩ = some (.int .u64 (x : Nat))) : size0 w g = x := by unfold size0; rw [h]; rfl
/-- A coder of the program, its bytes in a block of Mo, or beyond N. -/
def CodK (w : World) (base g N : Nat) (Mo : Nat → Prop) (s : RC) : Prop :=
  ∃ ov, w.rowIs g 64 1603 (cdF s.size s.ch (s.low % 4294967296) ov) ∧ ownB w base ov s.n (byN s.n (s.low / 4294967296)) ∧ ov.ownBlock ≠ some g ∧ ∀ k, ov.ownBlock = some k → Mo k ∨ N ≤ k
/-- Below N all stays but g and Mo's blocks. -/
def FrK (N g : Nat) (Mo : Nat → Prop) (w w' : World) : Prop := w.heap.size ≤ w'.heap.size ∧ ∀ k, k < N → k ≠ g → ¬ Mo k → w'.heap[k]? = w.heap[k]?
theorem FrK.refl (N g : Nat) (Mo : Nat → Prop) (w : World) : FrK N g Mo w w := ⟨Nat.le_refl _, fun _ _ _ _ => rfl⟩
theorem FrK.trans {N g : Nat} {Mo : Nat → Prop} {a b c : World} (h : FrK N g Mo a b) (k : FrK N g Mo b c) : FrK N g Mo a c := ⟨Nat.le_trans h.1 k.1, fun j h1 h2 h3 => (k.2 j h1 h2 h3).trans (h.2 j h1 h2 h3)⟩
theorem FrK.of_below {N g : Nat} {Mo : Nat → Prop} {a b : World} (h : Below a.heap.size a b) (hN : N ≤ a.heap.size) : FrK N g Mo a b := ⟨h.size, fun j h1 _ _ => h.block j (Nat.lt_of_lt_of_le h1 hN)⟩
theorem FrK.of_grown {N g : Nat} {Mo : Nat → Prop} {a b : World} (h : a.grownBy b (some g)) (hN : N ≤ a.heap.size) : FrK N g Mo a b := ⟨h.size, fun j h1 h2 _ => h.block j (Nat.lt_of_lt_of_le h1 hN) (fun e => h2 (by cases e; rfl))⟩
theorem FrK.of_off {N g : Nat} {Mo : Nat → Prop} {a b : World} {ov : Value} (hs : a.heap.size ≤ b.heap.size) (h : ∀ k, k < a.heap.size → k ≠ g → ov.ownBlock ≠ some k → b.heap[k]? = a.heap[k]?) (hN : N ≤ a.heap.size) (hM : ∀ k, ov.ownBlock = some k → Mo k ∨ N ≤ k) : FrK N g Mo a b :=
  ⟨hs, fun j h1 h2 h3 => h j (Nat.lt_of_lt_of_le h1 hN) h2 (fun e => by rcases hM j e with h | h; exact h3 h; omega)⟩
theorem CodK.keep {w w' : World} {base g N : Nat} {Mo : Nat → Prop} {s : RC} (h : CodK w base g N Mo s) (hb : ∀ k, k < w.heap.size → w'.heap[k]? = w.heap[k]?) : CodK w' base g N Mo s := by
  obtain ⟨ov, hr, ho, hd, hm⟩ := h
  refine ⟨ov, hr.of_block (hb g hr.lt), ?_, hd, hm⟩
  obtain ⟨a, h1 | ⟨k, cap, cur, rfl, c1, c2, c3⟩⟩ := ho
  · exact ⟨a, .inl h1⟩
  · exact ⟨a, .inr ⟨k, cap, cur, rfl, c1, (hb k (Array.getElem?_eq_some_iff.1 c2).1).trans c2, c3⟩⟩
set_option maxRecDepth 100000 in
set_option maxHeartbeats 1600000 in
theorem imp_putK (base g c N : Nat) (Mo : Nat → Prop) (one : Bool) (s : RC) (w : World) (hok : RcOk s) (hn : s.n ≤ 90000) (hc : c < 1600) (hbg : base ≤ g) (hcod : CodK w base g N Mo s) (hN : N ≤ w.heap.size) :
    Calls Tryd.prog 34 #[.pointer (some ⟨g, 0, none⟩), .agg #[.int .i64 (c : Int), .bool one]] w fun e w' => e = .returned (.tuple #[]) ∧ CodK w' base g N Mo (step s c one) ∧ Below base w w' ∧ FrK N g Mo w w' := by
  obtain ⟨P, hP⟩ : ∃ P, P = part1 s c one := ⟨_, rfl⟩
  have hpo := part1_ok s c one hok
  rw [← hP] at hpo
  have HPS := hide hP
  have HNOK := hide (norm_ok P hpo.1 hpo.2.1 hpo.2.2.1 (by rw [hpo.2.2.2.2]; exact hpo.2.2.2.1))
  have HPN := hide (show P.n ≤ 100000 ∧ P.size ≤ 4294967295 ∧ 131072 ≤ P.size from ⟨by rw [hpo.2.2.2.2]; omega, hpo.2.1, hpo.1⟩)
  obtain ⟨b1, b2⟩ := bound_in s c hok
  have hlo := hok.lo
  have hhi := hok.hi
  have hch := hok.ch c
  have hfit := hide hok.fit
  obtain ⟨ov, hr, ho, hd1, hMo⟩ := hcod
  obtain ⟨b, hb⟩ : ∃ b, b = bound s c := ⟨_, rfl⟩
  have HB := hide (show s.size / 2048 * s.ch c = b from hb.symm)
  rw [← hb] at b1 b2
  have hgl := hr.lt
  have hvl : ∀ k, ov.ownBlock = some k → k < w.heap.size := fun k hk => (World.ownsRow.lt ho k hk).2
  have R1 := hr.alloc (.cells #[.int .i64 (c : Int), .bool one] 74)
  have O1 : ownB (w.alloc (.cells #[.int .i64 (c : Int), .bool one] 74)) base ov s.n (byN s.n (s.low / 4294967296)) := World.ownsRow.alloc ho _
  have B1 := (Below.refl base w).alloc (show base ≤ w.heap.size by omega) (.cells #[.int .i64 (c : Int), .bool one] 74)
  have e0 : (w.alloc (.cells #[.int .i64 (c : Int), .bool one] 74)).cell? ⟨w.heap.size, 0, none⟩ = some (.int .i64 (c : Int)) := by simp
  have e1 : (w.alloc (.cells #[.int .i64 (c : Int), .bool one] 74)).cell? ⟨w.heap.size, 1, none⟩ = some (.bool one) := by simp
  have hz1 : w.heap.size < (w.alloc (.cells #[.int .i64 (c : Int), .bool one] 74)).heap.size := by simp
  have HV := hide hvl
  have HMO := hide hMo
  have F1 := hide (show FrK N g Mo w (w.alloc (.cells #[.int .i64 (c : Int), .bool one] 74)) from FrK.of_below ((Below.refl _ w).alloc (Nat.le_refl _) _) hN)
  have hN1 : N ≤ (w.alloc (.cells #[.int .i64 (c : Int), .bool one] 74)).heap.size := by simp; omega
  clear hMo hvl hr ho hb hpo hP
  go_enter Tryd.func34, Tryd.ntmps34
  go_wp2_with fail
  generalize w.alloc (.cells #[.int .i64 (c : Int), .bool one] 74) = W1 at *
  have hz : g ≠ w.heap.size := by omega
  generalize w.heap.size = z at *
  have SB := hide (show ∀ n, Calls Tryd.prog 55 #[.pointer (some ⟨g, 0, none⟩), .int .i64 (c : Int)] (W1.drewN n) fun e w' => e = .returned (.int .u64 (b : Int)) ∧ ∃ m, w' = (W1.drewN n).drewN m by
    intro n
    have h := imp_bound g 64 s.size (s.low % 4294967296) c s.ch ov (W1.drewN n) hhi hc (by omega) R1
    rw [HB.out] at h; exact h)
  go_quiet ((go_at_call 55; refine Calls.quiet_of (SB.out _)))
  have R2 : (W1.drewN nq).rowIs g 64 1603 (cdF s.size s.ch (s.low % 4294967296) ov) := R1
  have O2 : ownB (W1.drewN nq) base ov s.n (byN s.n (s.low / 4294967296)) := O1
  have B2 : Below base w (W1.drewN nq) := B1.trans ⟨rfl, rfl, rfl, Nat.le_refl _, fun _ _ => rfl⟩
  have e0' : (W1.drewN nq).cell? ⟨z, 0, none⟩ = some (.int .i64 (c : Int)) := e0
  have e1' : (W1.drewN nq).cell? ⟨z, 1, none⟩ = some (.bool one) := e1
  have hz2 : z < (W1.drewN nq).heap.size := hz1
  have F2 := hide (show FrK N g Mo w (W1.drewN nq) from F1.out)
  have hN2 : N ≤ (W1.drewN nq).heap.size := hN1
  generalize W1.drewN nq = W2 at *
  clear F1 hN1
  clear R1 O1 B1 e0 e1 SB hz1
  cases one with
  | true =>
    have SA := hide (imp_addK base g s.size s.low s.n b s.ch W2 (by omega) (by omega) (by have := hfit.out; omega) hbg ov R2 O2 hd1)
    clear R2 O2
    go_wp2_with fail
    refine SA.out.mono ?_
    rintro e W3 ⟨rfl, C3, B3, K3⟩
    have hk := K3 z hz2 (fun e => hz e.symm) (fun e => absurd (HV.out z e) (by omega))
    have e0 : W3.cell? ⟨z, 0, none⟩ = some (.int .i64 (c : Int)) := (World.cell?_of_block hk).trans e0'
    have e1 : W3.cell? ⟨z, 1, none⟩ = some (.bool true) := (World.cell?_of_block hk).trans e1'
    have B4 := B2.trans B3
    obtain ⟨r3, o3⟩ := C3
    have d3 := hd1
    have F3 := hide (F2.out.trans (FrK.of_off B3.size K3 hN2 HMO.out))
    have hN3 : N ≤ W3.heap.size := by have := B3.size; omega
    have HPE := hide (show P = ⟨s.size - b, setCh s.ch c (chOne (s.ch c)), s.low + b, s.n⟩ by rw [HPS.out, ← HB.out]; rfl)
    clear SA K3 hk e0' e1' B2 B3
    go_wp2_with fail
    go_region_with ((go_at_call 57; refine (imp_narrow g 64 s.size ((s.low + b) % 4294967296) c b true s.ch _ W3.drew hhi (by omega) hc (by omega) r3.drew).mono ?_; rintro e w9 ⟨rfl, r9, g9⟩))
    have HCOD := hide (show CodK w9 base g N Mo P by
      rw [HPE.out]
      refine ⟨_, ?_, World.ownsRow.kept (World.ownsRow.drew o3) g9 (.inr d3), d3, HMO.out⟩
      exact r9)
    have HFR := hide (show FrK N g Mo w w9 from F3.out.trans (FrK.of_grown (a := W3.drew) g9 hN3))
    have hN9 : N ≤ w9.heap.size := by have := g9.size; exact Nat.le_trans hN3 this
    have HBEL := hide (B4.drew.trans (grownBy_below g9 hbg (show base ≤ W3.heap.size by have := r3.lt; omega)))

    clear r9 g9 r3 o3 B4 e0 e1
    go_wp2_with fail
    go_loopw [22] (fun _ wx => ∃ t : RC, Hid (t = P ∨ (t = norm P ∧ P.size < 16777216)) ∧ Hid (CodK wx base g N Mo t) ∧ Hid (Below base w wx) ∧ Hid (FrK N g Mo w wx) ∧ N ≤ wx.heap.size) (fun _ wx => if size0 wx g < 16777216 then 1 else 0)
    case atStart => exact ⟨P, .inl rfl, HCOD, HBEL, HFR, hN9⟩
    case round =>
      clear HCOD HBEL HFR hN9
      obtain ⟨t, ht, hcod, hbel, hfr, hNr⟩ := hrel
      obtain ⟨ov, hr, ho, hd, hmo⟩ := hcod.out
      have HMO2 := hide hmo
      clear hmo
      have hsw := hide (size0_of (cd_cells hr).1)
      by_cases hsz : t.size < 16777216
      · have htP : t = P := by
          rcases ht.out with h | ⟨h, h2⟩
          · exact h
          · rw [h] at hsz; exact absurd hsz (by have := HNOK.out.lo; omega)
        have SW := hide (imp_widen_yes g 64 t.size (t.low % 4294967296) t.ch ov wr hsz hr)
        have HO := hide ho
        have HT := hide htP
        have hgl := hr.lt
        clear hr ho htP hcod
        go_wp2_with fail
        refine SW.out.mono ?_
        rintro e w1 ⟨rfl, r1, g1⟩
        have SS := hide (imp_shiftK base g (256 * t.size) t.low t.n t.ch ov w1 (by rw [HT.out]; exact HPN.out.1) hbg r1 (HO.out.kept g1 (.inr hd)) hd)
        have hN1 : N ≤ w1.heap.size := by have := g1.size; omega
        have FR1 := hide (hfr.out.trans (FrK.of_grown g1 hNr))
        have hb1 := hide (hbel.out.trans (grownBy_below g1 hbg (by omega)))
        clear r1 g1 SW hbel
        go_wp2_with fail
        refine SS.out.mono ?_
        rintro e w2 ⟨rfl, C2, hb2, K2⟩
        have hb3 := hide (hb1.out.trans hb2)
        have hC3 := hide (show CodK w2 base g N Mo (norm P) by
          rw [norm, if_pos (by rw [← HT.out]; exact hsz), ← HT.out]
          obtain ⟨o3, r3, p3, q3, s3⟩ := C2
          exact ⟨o3, r3, p3, q3, fun k hk => by rcases s3 k hk with h | h; exact HMO2.out k h; exact .inr (by omega)⟩)
        have hF3 := hide (FR1.out.trans (FrK.of_off hb2.size K2 hN1 HMO2.out))
        have hN2' : N ≤ w2.heap.size := by have := hb2.size; omega
        have hs3 := hide (show size0 w2 g = 256 * t.size by obtain ⟨o3, r3, _⟩ := C2; exact size0_of (cd_cells r3).1)
        clear C2 hb2 hb1 SS K2 FR1 hfr
        go_wp2_with fail
        go_roundw
        case rel => exact ⟨norm P, .inr ⟨rfl, by rw [← HT.out]; exact hsz⟩, hC3, hb3, hF3, hN2'⟩
        case measure =>
          rw [hs3.out, hsw.out, if_pos hsz, if_neg (by have h := HNOK.out.lo; rw [norm, if_pos (by rw [← HT.out]; exact hsz)] at h; have h' : 16777216 ≤ 256 * P.size := h; rw [← HT.out] at h'; omega)]
          omega
      · have htS := hide (show t = norm P by
          rcases ht.out with h | ⟨h, _⟩
          · rw [norm, if_neg (by rw [← h]; exact hsz), h]
          · exact h)
        have SW := hide (imp_widen_no g 64 t.size (t.low % 4294967296) t.ch ov wr hsz hr)
        clear hr ho
        go_wp2_with fail
        refine SW.out.mono ?_
        rintro e w1 ⟨rfl, rfl⟩
        go_wp2_with fail
        go_end0
        exact ⟨rfl, by show CodK _ base g N Mo (norm (part1 s c _)); rw [← HPS.out, ← htS.out]; exact hcod.out, hbel.out, hfr.out⟩
  | false =>
    have HPE := hide (show P = ⟨b, setCh s.ch c (chNot (s.ch c)), s.low, s.n⟩ by rw [HPS.out, ← HB.out]; rfl)
    go_wp2_with fail
    go_region_with ((go_at_call 57; refine (imp_narrow g 64 s.size (s.low % 4294967296) c b false s.ch _ W2.drew hhi (by omega) hc (by omega) R2.drew).mono ?_; rintro e w9 ⟨rfl, r9, g9⟩))
    have HCOD := hide (show CodK w9 base g N Mo P by
      rw [HPE.out]
      refine ⟨_, ?_, World.ownsRow.kept (World.ownsRow.drew O2) g9 (.inr hd1), hd1, HMO.out⟩
      exact r9)
    have HFR := hide (show FrK N g Mo w w9 from F2.out.trans (FrK.of_grown (a := W2.drew) g9 hN2))
    have hN9 : N ≤ w9.heap.size := by have := g9.size; exact Nat.le_trans hN2 this
    have HBEL := hide (B2.drew.trans (grownBy_below g9 hbg (show base ≤ W2.heap.size by have := R2.lt; omega)))

    clear r9 g9 R2 O2 B2 e0' e1'
    go_wp2_with fail
    go_loopw [22] (fun _ wx => ∃ t : RC, Hid (t = P ∨ (t = norm P ∧ P.size < 16777216)) ∧ Hid (CodK wx base g N Mo t) ∧ Hid (Below base w wx) ∧ Hid (FrK N g Mo w wx) ∧ N ≤ wx.heap.size) (fun _ wx => if size0 wx g < 16777216 then 1 else 0)
    case atStart => exact ⟨P, .inl rfl, HCOD, HBEL, HFR, hN9⟩
    case round =>
      clear HCOD HBEL HFR hN9
      obtain ⟨t, ht, hcod, hbel, hfr, hNr⟩ := hrel
      obtain ⟨ov, hr, ho, hd, hmo⟩ := hcod.out
      have HMO2 := hide hmo
      clear hmo
      have hsw := hide (size0_of (cd_cells hr).1)
      by_cases hsz : t.size < 16777216
      · have htP : t = P := by
          rcases ht.out with h | ⟨h, h2⟩
          · exact h
          · rw [h] at hsz; exact absurd hsz (by have := HNOK.out.lo; omega)
        have SW := hide (imp_widen_yes g 64 t.size (t.low % 4294967296) t.ch ov wr hsz hr)
        have HO := hide ho
        have HT := hide htP
        have hgl := hr.lt
        clear hr ho htP hcod
        go_wp2_with fail
        refine SW.out.mono ?_
        rintro e w1 ⟨rfl, r1, g1⟩
        have SS := hide (imp_shiftK base g (256 * t.size) t.low t.n t.ch ov w1 (by rw [HT.out]; exact HPN.out.1) hbg r1 (HO.out.kept g1 (.inr hd)) hd)
        have hN1 : N ≤ w1.heap.size := by have := g1.size; omega
        have FR1 := hide (hfr.out.trans (FrK.of_grown g1 hNr))
        have hb1 := hide (hbel.out.trans (grownBy_below g1 hbg (by omega)))
        clear r1 g1 SW hbel
        go_wp2_with fail
        refine SS.out.mono ?_
        rintro e w2 ⟨rfl, C2, hb2, K2⟩
        have hb3 := hide (hb1.out.trans hb2)
        have hC3 := hide (show CodK w2 base g N Mo (norm P) by
          rw [norm, if_pos (by rw [← HT.out]; exact hsz), ← HT.out]
          obtain ⟨o3, r3, p3, q3, s3⟩ := C2
          exact ⟨o3, r3, p3, q3, fun k hk => by rcases s3 k hk with h | h; exact HMO2.out k h; exact .inr (by omega)⟩)
        have hF3 := hide (FR1.out.trans (FrK.of_off hb2.size K2 hN1 HMO2.out))
        have hN2' : N ≤ w2.heap.size := by have := hb2.size; omega
        have hs3 := hide (show size0 w2 g = 256 * t.size by obtain ⟨o3, r3, _⟩ := C2; exact size0_of (cd_cells r3).1)
        clear C2 hb2 hb1 SS K2 FR1 hfr
        go_wp2_with fail
        go_roundw
        case rel => exact ⟨norm P, .inr ⟨rfl, by rw [← HT.out]; exact hsz⟩, hC3, hb3, hF3, hN2'⟩
        case measure =>
          rw [hs3.out, hsw.out, if_pos hsz, if_neg (by have h := HNOK.out.lo; rw [norm, if_pos (by rw [← HT.out]; exact hsz)] at h; have h' : 16777216 ≤ 256 * P.size := h; rw [← HT.out] at h'; omega)]
          omega
      · have htS := hide (show t = norm P by
          rcases ht.out with h | ⟨h, _⟩
          · rw [norm, if_neg (by rw [← h]; exact hsz), h]
          · exact h)
        have SW := hide (imp_widen_no g 64 t.size (t.low % 4294967296) t.ch ov wr hsz hr)
        clear hr ho
        go_wp2_with fail
        refine SW.out.mono ?_
        rintro e w1 ⟨rfl, rfl⟩
        go_wp2_with fail
        go_end0
        exact ⟨rfl, by show CodK _ base g N Mo (norm (part1 s c _)); rw [← HPS.out, ← htS.out]; exact hcod.out, hbel.out, hfr.out⟩

theorem imp_put (base g c : Nat) (one : Bool) (s : RC) (w : World) (hok : RcOk s) (hn : s.n ≤ 90000) (hc : c < 1600) (hbg : base ≤ g) (hcod : CodR w base g s) :
    Calls Tryd.prog 34 #[.pointer (some ⟨g, 0, none⟩), .agg #[.int .i64 (c : Int), .bool one]] w fun e w' => e = .returned (.tuple #[]) ∧ CodR w' base g (step s c one) ∧ Below base w w' := by
  obtain ⟨ov, hr, ho, hd⟩ := hcod
  exact (imp_putK base g c 0 (fun _ => False) one s w hok hn hc hbg ⟨ov, hr, ho, hd, fun _ _ => .inr (Nat.zero_le _)⟩ (Nat.zero_le _)).mono fun e w' ⟨h1, ⟨ov', h2, h3, h4, _⟩, h6, _⟩ => ⟨h1, ⟨ov', h2, h3, h4⟩, h6⟩
end Go.Proofs.YtdoodkabmeojmaaDoor

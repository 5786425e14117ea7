/- IterM, PastM, PastK, PastP, PastO, AppOld, one behind the other. -/
import Derived.RangeFuncNested
import Derived.RangeFuncCalls
import Derived.RangeFuncBox
import Derived.Deep.AppendLies
import Derived.OwnWalkIn
import Derived.Test.YtdoodkabmeojmaaOwn
import Derived.WideKeyEntry
import Derived.DeepKeys4
import Derived.Below
import Derived.Laws.AppendOwn
import Derived.Test.YtdoodkabmeojmaaArr
import Derived.Test.YtdoodkabmeojmaaRows
import Derived.Test.YtdoodkabmeojmaaChecked
import Derived.Test.YtdoodkabmeojmaaRowC
import Derived.Test.YtdoodkabmeojmaaMatchF
import Derived.Test.YtdoodkabmeojmaaHeldOne
import Derived.Laws.ResultCell
/- A loop over an iterator that keeps memory of its own (a set M of blocks, which grows): what such an iterator promises, and the loop's rule. No program is named here. -/
namespace Go.Proofs.Ytdoodkabmeojmaa
open Go Go.RowKit
/-- What an iterator's step does: the blocks of M may turn, new ones may be made, all others stay. -/
structure Moves (M : Nat → Prop) (W W' : World) : Prop where
  os : W'.os = W.os
  tape : W'.tape = W.tape
  output : W'.output = W.output
  size : W.heap.size ≤ W'.heap.size
  block : ∀ g, g < W.heap.size → ¬ M g → W'.heap[g]? = W.heap[g]?
/-- What a round does: the blocks of M stay. -/
structure KeptM (M : Nat → Prop) (W W' : World) : Prop where
  size : W.heap.size ≤ W'.heap.size
  block : ∀ g, g < W.heap.size → M g → W'.heap[g]? = W.heap[g]?
theorem KeptM.refl (M : Nat → Prop) (W : World) : KeptM M W W := ⟨Nat.le_refl _, fun _ _ _ => rfl⟩
theorem KeptM.trans {M : Nat → Prop} {A B C : World} (h : KeptM M A B) (k : KeptM M B C) : KeptM M A C :=
  ⟨Nat.le_trans h.size k.size, fun g h1 h2 => (k.block g (Nat.lt_of_lt_of_le h1 h.size) h2).trans (h.block g h1 h2)⟩
theorem KeptM.below {M : Nat → Prop} {A B : World} (h : Below A.heap.size A B) : KeptM M A B := ⟨h.size, fun g h1 _ => h.block g h1⟩
/-- .. and whatever else is done to blocks beyond B that are no cells (the loop's own record, and what is deferred). -/
structure MovesB (B : Nat) (M : Nat → Prop) (W W' : World) : Prop where
  os : W'.os = W.os
  tape : W'.tape = W.tape
  output : W'.output = W.output
  size : W.heap.size ≤ W'.heap.size
  block : ∀ g, g < W.heap.size → ¬ M g → (g < B ∨ ∀ o, W.heap[g]? = some o → o.isCells = true) → W'.heap[g]? = W.heap[g]?
theorem Moves.toB {M : Nat → Prop} {A B : World} (h : Moves M A B) (b : Nat) : MovesB b M A B := ⟨h.os, h.tape, h.output, h.size, fun g h1 h2 _ => h.block g h1 h2⟩
theorem MovesB.toBelow {B b : Nat} {M : Nat → Prop} {w W W' : World} (h : MovesB B M W W') (hb : Below b w W) (hw : b ≤ W.heap.size) (hB : b ≤ B) (hM : ∀ g, M g → b ≤ g) : Below b w W' :=
  hb.trans ⟨h.os, h.tape, h.output, h.size, fun g hg => h.block g (by omega) (fun hm => by have := hM g hm; omega) (.inl (by omega))⟩
theorem MovesB.cells {B g : Nat} {M : Nat → Prop} {W W' : World} {c : Array Value} {t : TypeId} {m : Nat × Nat} (h : MovesB B M W W') (hM : ¬ M g) (hg : W.heap[g]? = some (.cells c t m)) : W'.heap[g]? = some (.cells c t m) :=
  (h.block g (Array.getElem?_eq_some_iff.1 hg).1 hM (.inr (fun o ho => by rw [hg] at ho; cases ho; rfl))).trans hg
theorem Moves.below {M : Nat → Prop} {A B : World} (h : Below A.heap.size A B) : Moves M A B := ⟨h.os, h.tape, h.output, h.size, fun g h1 _ => h.block g h1⟩
theorem Moves.trans {M : Nat → Prop} {A B C : World} (h : Moves M A B) (k : Moves M B C) : Moves M A C :=
  ⟨k.os.trans h.os, k.tape.trans h.tape, k.output.trans h.output, Nat.le_trans h.size k.size, fun g h1 h2 => (k.block g (Nat.lt_of_lt_of_le h1 h.size) h2).trans (h.block g h1 h2)⟩
/-- J stands whatever the iterator does to its own blocks. -/
def StandsM {β : Type} (J : (Nat → Prop) → β → World → Prop) : Prop :=
  ∀ M M' s W W', J M s W → Moves M W W' → (∀ g, M' g → M g ∨ W.heap.size ≤ g ∧ g < W'.heap.size) → J M' s W'
/-- .. and whatever is done to blocks beyond B that are no cells. -/
def StandsB {β : Type} (B : Nat) (J : (Nat → Prop) → β → World → Prop) : Prop :=
  ∀ M M' s W W', J M s W → MovesB B M W W' → (∀ g, M' g → M g ∨ W.heap.size ≤ g ∧ g < W'.heap.size) → J M' s W'
theorem StandsB.moves {β : Type} {B : Nat} {J : (Nat → Prop) → β → World → Prop} (h : StandsB B J) : StandsM J :=
  fun M M' s W W' hj hm hM => h M M' s W W' hj (hm.toB B) hM
theorem StandsB.alloc {β : Type} {B : Nat} {J : (Nat → Prop) → β → World → Prop} (h : StandsB B J) {M : Nat → Prop} {s : β} {W : World} (o : Obj) (hj : J M s W) : J M s (W.alloc o) :=
  h M M s W _ hj ⟨rfl, rfl, rfl, by simp, fun g h1 _ _ => Below.heap_alloc _ _ _ h1⟩ (fun g hg => .inl hg)
theorem StandsB.putObj {β : Type} {B : Nat} {J : (Nat → Prop) → β → World → Prop} (h : StandsB B J) {M : Nat → Prop} {s : β} {W : World} {l : Nat} {o : Obj} (o' : Obj) (hj : J M s W) (hB : B ≤ l) (hl : W.heap[l]? = some o) (ho : o.isCells = false) : J M s (W.putObj l o') := by
  have hg := grownBy_putObj' W l o'
  refine h M M s W _ hj ⟨hg.os, hg.tape, hg.output, hg.size, fun g h1 _ h3 => hg.block g h1 (fun e => ?_)⟩ (fun g hg => .inl hg)
  cases e
  rcases h3 with h3 | h3
  · omega
  · have := h3 o hl; rw [ho] at this; cases this
theorem KeepsFrom.below {B : Nat} {A C : World} (h : Below A.heap.size A C) : KeepsFrom B A C := ⟨h.size, fun k _ _ hk _ => (h.block k (Array.getElem?_eq_some_iff.1 hk).1).trans hk⟩
section
variable {F : Fence} {n : Nat} {P : Program}
/-- What an iterator promises that keeps memory of its own: it begins with the blocks of M₀; each thing that comes is handed to the loop's round, in order. -/
def SeqM {α : Type} (F : Fence) (n : Nat) (P : Program) (g : Nat) (lb : Array Value) (encs : α → Array Value) (M₀ : Nat → Prop) (S Sp : List α → Prop) (R : List α → α → Prop) (w : World) : Prop :=
  ∀ (l : Nat) (J Jx : (Nat → Prop) → List α → World → Prop) (W : World), KeptM M₀ w W → StandsM J → StandsM Jx →
    (∀ M pre x W1, J M pre W1 → R pre x → YieldAt F (n - 1) P l (encs x) W1 fun e W' =>
      (e = .returned (.bool true) ∧ J M (pre ++ [x]) W' ∧ KeptM M W1 W') ∨ (e = .returned (.bool false) ∧ Jx M (pre ++ [x]) W')) →
    J M₀ [] W →
    CallsIn F n P g (#[.func (.yield l) #[] #[]] ++ lb) W fun e W' => (∃ v, e = .returned v) ∧ ((∃ M xs, S xs ∧ J M xs W') ∨ (∃ M pre, Sp pre ∧ Jx M pre W'))
theorem SeqM.later {α : Type} {F : Fence} {n : Nat} {P : Program} {g : Nat} {lb : Array Value} {encs : α → Array Value} {M₀ : Nat → Prop} {S Sp : List α → Prop} {R : List α → α → Prop} {w w' : World} (h : SeqM F n P g lb encs M₀ S Sp R w) (hk : KeptM M₀ w w') : SeqM F n P g lb encs M₀ S Sp R w' :=
  fun l J Jx W hW => h l J Jx W (hk.trans hW)
/-- How a round may be left. -/
def roundPost {α : Type} (B : Nat) (M : Nat → Prop) (I : (Nat → Prop) → List α → World → Prop) (Ix : Code → (Nat → Prop) → List α → World → Prop) (xs : List α) (W : World) : Exit → Act → World → Prop
  | .normal, _, W' => KeepsFrom B W W' ∧ KeptM M W W' ∧ I M xs W'
  | .ret, _, W' => KeepsFrom B W W' ∧ Ix .ret M xs W'
  | .exit id, _, W' => KeepsFrom B W W' ∧ Ix (.exit id) M xs W'
  | .goto t, _, W' => KeepsFrom B W W' ∧ Ix (.goto t) M xs W'
  | .panic _, _, _ => False
  | .outgrown, _, _ => False
theorem keptM_putObj {M : Nat → Prop} {W : World} {l : Nat} (o : Obj) (h : ¬ M l) : KeptM M W (W.putObj l o) :=
  ⟨(grownBy_putObj' W l o).size, fun g h1 h2 => (grownBy_putObj' W l o).block g h1 (fun e => h (by cases e; exact h2))⟩
/-- The rule of a loop over such an iterator. -/
theorem wpIn_rangeM {α : Type} {g : Operand} {ps : Array Tmp} {assign body : Code} {Q : Exit → Act → World → Prop} {a : Act} {w : World}
    (hro : F.round = none) (h1 : 1 ≤ n) {gf : Nat} {lb : Array Value} (hg : a.eval g = .func (.func gf) #[] lb) (hFg : F.fn gf) (eg : ∀ args w, (callFunc gf args).run P w = .ok (.enter gf args) w)
    {encs : α → Array Value} {M₀ : Nat → Prop} {S Sp : List α → Prop} {R : List α → α → Prop} (hseq : SeqM F (n - 1) P gf lb encs M₀ S Sp R w) (hM₀ : ∀ k, M₀ k → k < w.heap.size) (hps : ∀ x, (encs x).size = ps.size)
    (I : (Nat → Prop) → List α → World → Prop) (Ix : Code → (Nat → Prop) → List α → World → Prop) (hI : StandsB w.heap.size I) (hIx : ∀ c, StandsB w.heap.size (Ix c)) (h0 : I M₀ [] w) (Ax : α → Act → World → Prop) (hAx : ∀ x a', OwnFrom w.heap.size (fun (_ : Unit) W => Ax x a' W))
    (hassign : ∀ (l : Nat) (M : Nat → Prop) (pre : List α) (x : α) (W : World) (K : Act → World → Prop), I M pre W → (∀ a' W', KeepsFrom w.heap.size W W' → KeptM M W W' → I M pre W' → Ax x a' W' → K a' W') →
      assign.wpIn (F.inRound l) (n - 1 - 1) P (Exit.then K (fun _ _ _ => False)) { tmps := (ps.zip (encs x)).foldl (fun t (p, v) => t.setIfInBounds p v) a.tmps, defers := [] } W)
    (hbody : ∀ (l : Nat) (M : Nat → Prop) (pre : List α) (x : α) (a' : Act) (W : World), I M pre W → Ax x a' W → R pre x → body.wpIn (F.inRound l) (n - 1 - 1) P (roundPost w.heap.size M I Ix (pre ++ [x]) W) a' W)
    (hdone : ∀ (D : Nat) (M : Nat → Prop) (xs : List α) (W : World), w.heap.size ≤ D → S xs → I M xs W → W.heap[D]? = some (.deferred (some [])) → Q .normal { a with defers := { target := .collected D, args := #[] } :: a.defers } W)
    (hstop : ∀ (D : Nat) (c : Code) (M : Nat → Prop) (pre : List α) (W : World), w.heap.size ≤ D → Sp pre → Ix c M pre W → W.heap[D]? = some (.deferred (some [])) → c.wpIn F n P Q { a with defers := { target := .collected D, args := #[] } :: a.defers } W) :
    (Code.rangeFunc g ps assign body).wpIn F n P Q a w := by
  obtain ⟨D, hD⟩ : ∃ D, D = w.heap.size := ⟨_, rfl⟩
  refine wpIn_rangeFunc ?_
  intro fn hfn
  rw [hro]
  obtain ⟨rec, hrec⟩ : ∃ rec : LoopState → Option Code → Loop, rec = fun st pe => { state := st, pending := pe, fn, tmps := a.tmps, params := ps, assign, body, defers := D } := ⟨_, rfl⟩
  obtain ⟨V, hV⟩ : ∃ V, (w.alloc (.deferred (some []))).alloc (.loop (rec .ready none)) = V := ⟨_, rfl⟩
  have vL : V.heap[D + 1]? = some (.loop (rec .ready none)) := by
    rw [← hV, hD]; have := World.alloc_heap_new (w.alloc (.deferred (some []))) (.loop (rec .ready none)); rwa [World.size_alloc] at this
  have vD : V.heap[D]? = some (.deferred (some [])) := by
    rw [← hV, hD]; exact (Below.heap_alloc _ _ _ (by simp)).trans (World.alloc_heap_new w _)
  have vI : I M₀ [] V := by rw [← hV]; exact hI.alloc _ (hI.alloc _ h0)
  have vb : Below w.heap.size w V := by rw [← hV]; exact ((Below.refl _ w).alloc (Nat.le_refl _) _).alloc (by simp) _
  refine ⟨D + 1, [{ target := .collected D, args := #[] }], V, { target := .fn (.func gf) lb, args := #[.func (.yield (D + 1)) #[] #[]] }, V, gf, #[.func (.yield (D + 1)) #[] #[]] ++ lb, V, ?_, ?_, ?_, ?_, fun _ => h1, ?_⟩
  · rw [← hV, hrec, hD]; exact run_enterLoop_outer _ _ _ _ _
  · simp only [resolve, hg]
    simp [go_sem]
  · intro f' hf'; simp [Target.leads] at hf'; subst hf'; exact hFg
  · simp [invoke, go_sem, eg]
  rw [← hD] at hI hIx hAx hassign hbody hdone hstop hM₀
  -- the two blocks of the loop's own: its record and what is deferred; neither is the iterator's
  let Two : Option Code → LoopState → (Nat → Prop) → World → Prop := fun c st M W => W.heap[D + 1]? = some (.loop (rec st c)) ∧ W.heap[D]? = some (.deferred (some [])) ∧ ¬ M D ∧ ¬ M (D + 1)
  have two_moves : ∀ c st M M' W W', Two c st M W → Moves M W W' → (∀ k, M' k → M k ∨ W.heap.size ≤ k ∧ k < W'.heap.size) → Two c st M' W' := fun c st M M' W W' ⟨t1, t2, t3, t4⟩ hm hM' => by
    have s1 := (Array.getElem?_eq_some_iff.1 t1).1
    have s2 := (Array.getElem?_eq_some_iff.1 t2).1
    refine ⟨(hm.block _ s1 t4).trans t1, (hm.block _ s2 t3).trans t2, fun h => ?_, fun h => ?_⟩ <;> rcases hM' _ h with h | h
    · exact t3 h
    · omega
    · exact t4 h
    · omega
  refine (hseq (D + 1) (fun M pre W => I M pre W ∧ Two none .ready M W) (fun M pre W => ∃ c, Ix c M pre W ∧ Two (some c) .done M W) V (.below vb)
    (fun M M' s W W' ⟨j1, j2⟩ hm hM' => ⟨hI.moves M M' s W W' j1 hm hM', two_moves _ _ M M' W W' j2 hm hM'⟩)
    (fun M M' s W W' ⟨c, j1, j2⟩ hm hM' => ⟨c, (hIx c).moves M M' s W W' j1 hm hM', two_moves _ _ M M' W W' j2 hm hM'⟩)
    ?_ ⟨vI, vL, vD, fun h => (Nat.lt_irrefl _ (hM₀ _ h)), fun h => by have := hM₀ _ h; omega⟩).mono ?_
  · rintro M pre x W ⟨hi, tl, td, m1, m2⟩ hlen
    have hy := run_yield (P := P) (args := encs x) tl (by rw [hrec]; exact hps x)
    rw [hrec] at hy
    refine ⟨fn, _, assign, body, hy, roundIn_of_wpIn hfn (hassign _ M pre x W _ hi ?_)⟩
    clear hy
    intro a' Wa ka pa ia ax
    have al := ka.same _ _ (by omega) tl rfl
    have ad := ka.same _ _ (Nat.le_refl _) td rfl
    have asz := (Array.getElem?_eq_some_iff.1 al).1
    refine ⟨_, run_beginRound al (by rw [hrec]), ?_⟩
    obtain ⟨Wb, hWb⟩ : ∃ Wb, Wa.putObj (D + 1) (.loop { rec .ready none with state := .busy }) = Wb := ⟨_, rfl⟩
    have bl : Wb.heap[D + 1]? = some (.loop { rec .ready none with state := .busy }) := by rw [← hWb]; exact World.putObj_heap_same asz
    have bd : Wb.heap[D]? = some (.deferred (some [])) := by rw [← hWb]; exact (World.putObj_heap_other (by omega)).trans ad
    have bk : KeptM M Wa Wb := by rw [← hWb]; exact keptM_putObj _ m2
    have bi : I M pre Wb := by rw [← hWb]; exact hI.putObj _ ia (by omega) al rfl
    have bx : Ax x a' Wb := by rw [← hWb]; exact (hAx x a').putObj (s := ()) _ ax (by omega) al rfl
    rw [hWb]
    refine wpIn_mono (hbody _ M pre x a' Wb bi bx hlen) ?_
    have fin : ∀ (j : Option Code) (W3 : World), KeepsFrom D Wb W3 →
        ∃ W4, (Instr.endRound (D + 1) j).run P W3 = .ok (.bool j.isNone) W4 ∧ Two j (if j.isNone then .ready else .done) M W4 ∧ KeptM M W3 W4 ∧ W4 = W3.putObj (D + 1) (.loop (rec (if j.isNone then .ready else .done) j)) ∧ W3.heap[D + 1]? = some (.loop { rec .ready none with state := .busy }) := fun j W3 k3 => by
      have l3 := k3.same _ _ (by omega) bl rfl
      have d3 := k3.same _ _ (Nat.le_refl _) bd rfl
      refine ⟨_, ?_, ⟨World.putObj_heap_same (Array.getElem?_eq_some_iff.1 l3).1, (World.putObj_heap_other (by omega)).trans d3, m1, m2⟩, keptM_putObj _ m2, rfl, l3⟩
      have := run_endRound (P := P) j l3
      rw [hrec] at this ⊢
      exact this
    rintro e a3 W3 hp
    cases e with
    | normal =>
      obtain ⟨k3, p3, i3⟩ := hp
      obtain ⟨W4, hr, h2, h3, h4, l3⟩ := fin none W3 k3
      exact ⟨_, _, hr, .inl ⟨rfl, ⟨by rw [h4]; exact hI.putObj _ i3 (by omega) l3 rfl, h2⟩, ((pa.trans bk).trans p3).trans h3⟩⟩
    | ret =>
      obtain ⟨k3, i3⟩ := hp
      obtain ⟨W4, hr, h2, _, h4, l3⟩ := fin (some .ret) W3 k3
      exact ⟨_, _, hr, .inr ⟨rfl, .ret, by rw [h4]; exact (hIx _).putObj _ i3 (by omega) l3 rfl, h2⟩⟩
    | exit id =>
      obtain ⟨k3, i3⟩ := hp
      obtain ⟨W4, hr, h2, _, h4, l3⟩ := fin (some (.exit id)) W3 k3
      exact ⟨_, _, hr, .inr ⟨rfl, .exit id, by rw [h4]; exact (hIx _).putObj _ i3 (by omega) l3 rfl, h2⟩⟩
    | goto t =>
      obtain ⟨k3, i3⟩ := hp
      obtain ⟨W4, hr, h2, _, h4, l3⟩ := fin (some (.goto t)) W3 k3
      exact ⟨_, _, hr, .inr ⟨rfl, .goto t, by rw [h4]; exact (hIx _).putObj _ i3 (by omega) l3 rfl, h2⟩⟩
    | panic ch => exact hp.elim
    | outgrown => exact hp.elim
  · rintro e W2 ⟨⟨v, rfl⟩, (⟨M, xs, hS, hi, tl, td, _, _⟩ | ⟨M, pre, hSp, c, hi, tl, td, _, _⟩)⟩
    · exact ⟨none, _, by have := run_endLoop (P := P) tl (by rw [hrec]; simp); rw [hrec] at this; exact this, hdone _ M xs _ (Nat.le_refl _) hS (hI.putObj _ hi (by omega) tl rfl) ((World.putObj_heap_other (by omega)).trans td)⟩
    · exact ⟨some c, _, by have := run_endLoop (P := P) tl (by rw [hrec]; simp); rw [hrec] at this; exact this, hstop _ c M pre _ (Nat.le_refl _) hSp ((hIx c).putObj _ hi (by omega) tl rfl) ((World.putObj_heap_other (by omega)).trans td)⟩
/-- An append that tells where the new row lies, inside a fence. -/
theorem wpListIn_append_lies (w : World) {ops : Array Oper} {rest : List Oper} {o : Oper} {a : Act} {Q : Exit → Act → World → Prop} (hgd : o.guard = none) (s x : Operand) (t : TypeId)
    (ho : o.op = .call { callee := .builtin .append, args := #[s, x], argTypes := #[t, t] })
    (base : Nat) (e : TypeId) (i : TypeInfo) (z : Value) (size bytes : Nat) (ht : P.underlying t = some (.slice e)) (hi : P.info? e = some i) (hz : i.zero = some z)
    (hsize : i.size = size) (hby : i.bytes = bytes) (hzs : z.cells.size = size) (hsz : 0 < size)
    (v : Value) (k : Nat) (xs : List Value) (hs : a.eval s = v) (hown : w.ownsRow base e size v k xs)
    (ad : Addr) (m c : Nat) (news : List Value) (hx : a.eval x = .slice (some ad) m c) (hl : news.length = m * size) (hnews : ∀ j u, news[j]? = some u → w.cell? (ad.add j) = some u) (h1 : ∀ u ∈ news, u.oneCell' = true)
    (hm : 0 < m) (h63 : k + m ≤ maxLen) (hbytes : (k + m) * bytes ≤ 140737488355328) (hbase : base ≤ w.heap.size) (H : Nat) (hH : w.heap.size = H)
    (h : ∀ g cap w', w'.ownsRow base e size (.slice (some ⟨g, 0, none⟩) (k + m) cap) (k + m) (xs ++ news) → w.grownBy w' v.ownBlock → (v.ownBlock = some g ∨ g = H) → g < w'.heap.size → wpListIn F n P ops Q rest (a.put o.dst (.slice (some ⟨g, 0, none⟩) (k + m) cap)) w') :
    wpListIn F n P ops Q (o :: rest) a w := by
  refine wpListIn_plain hgd fun K hK => ?_
  obtain ⟨g, cap, w', hr, h2, h3, h4, h5⟩ := run_append_lies (P := P) w t o.type base e i z size bytes ht hi hz hsize hby hzs hsz v k xs hown ad m c news hl hnews h1 hm h63 hbytes hbase H hH
  unfold Oper.wpIn
  refine ⟨?_, ?_⟩
  · simp [Oper.about, ho, resolve, Target.leads, Sem.run_pure]
  · rw [Oper.semAt_plain F _ _ (by rw [ho]; intro c hc'; cases hc')]
    simp [execOp, ho, resolve, invoke, builtin, hs, hx, hr, Result.andThen]
    exact hK _ _ (h g cap w' h2 h3 h4 h5)
end
end Go.Proofs.Ytdoodkabmeojmaa
/- A map from arrays of three bytes to rows of places that the call owns: looked up, grown by one place. No program is named here. -/
namespace Go.Proofs.Ytdoodkabmeojmaa
open Go Go.RowKit Go.MapKept Go.WideElems Go.ChangeMaps
open Go.WideMaps (KeyLaw)
def intV (n : Nat) : Value := .int .i64 (n : Int)
/-- Three bytes as a key. -/
def kV (f : Nat → UInt8) : Value := .agg (bL 3 f).toArray
theorem own_of_block {w w' : World} {base e s : Nat} {v : Value} {n : Nat} {xs : List Value} (h : w.ownsRow base e s v n xs) (hb : ∀ g, v.ownBlock = some g → w'.heap[g]? = w.heap[g]?) : w'.ownsRow base e s v n xs := by
  obtain ⟨h1, h | ⟨g, cap, cur, rfl, h2, h3, h4⟩⟩ := h
  · exact ⟨h1, .inl h⟩
  · exact ⟨h1, .inr ⟨g, cap, cur, rfl, h2, (hb g rfl).trans h3, h4⟩⟩
theorem setBlock_other (w : World) (b k : Nat) (o : Obj) (h : k ≠ b) : (setBlock w b o).heap[k]? = w.heap[k]? := by
  show (w.heap.setIfInBounds b o)[k]? = _
  rw [Array.getElem?_setIfInBounds_ne (fun e => h e.symm)]
theorem setBlock_same (w : World) (b : Nat) (o : Obj) (h : b < w.heap.size) : (setBlock w b o).heap[b]? = some o := by
  show (w.heap.setIfInBounds b o)[b]? = _
  rw [Array.getElem?_setIfInBounds_self_of_lt h]
theorem setBlock_size (w : World) (b : Nat) (o : Obj) : (setBlock w b o).heap.size = w.heap.size := by
  show (w.heap.setIfInBounds b o).size = _
  simp
theorem mem_set_cases {α : Type} {l : List α} {j : Nat} {a x : α} (h : x ∈ l.set j a) : x = a ∨ ∃ i, i ≠ j ∧ l[i]? = some x := by
  obtain ⟨i, hi⟩ := List.mem_iff_getElem?.1 h
  by_cases e : j = i
  · subst e
    rw [List.getElem?_set_self' ] at hi
    cases hl : l[j]? with
    | none => rw [hl] at hi; cases hi
    | some y => rw [hl] at hi; exact .inl (Option.some.inj hi).symm
  · rw [List.getElem?_set_ne e] at hi
    exact .inr ⟨i, fun h => e h.symm, hi⟩
structure PlM (w : World) (base mb e : Nat) (L : Value → List Nat) (No : Nat → Prop) (es : Array MapEntry) (clock : Nat) : Prop where
  blk : w.heap[mb]? = some (.map es clock)
  st : Stamped es clock
  keys : ∀ x ∈ es.toList, ∃ f, x.key = kV f
  own : ∀ x ∈ es.toList, w.ownsRow base e 1 x.val (L x.key).length ((L x.key).map intV)
  off : ∀ x ∈ es.toList, ∀ g, x.val.ownBlock = some g → ¬ No g
  all : ∀ v, L v ≠ [] → ∃ x ∈ es.toList, x.key = v
  sep : ∀ x ∈ es.toList, ∀ y ∈ es.toList, x.key ≠ y.key → ∀ g, x.val.ownBlock = some g → y.val.ownBlock ≠ some g
  hb : mb < base
theorem PlM.made {w : World} {base mb e : Nat} (h : w.heap[mb]? = some (.map #[] 0)) (hb : mb < base) : PlM w base mb e (fun _ => []) (fun _ => False) #[] 0 :=
  ⟨h, ⟨by simp, by simp, by simp⟩, by simp, by simp, by simp, fun v hv => absurd rfl hv, by simp, hb⟩
theorem PlM.kept {w w' : World} {base mb e : Nat} {L : Value → List Nat} {No : Nat → Prop} {es : Array MapEntry} {clock : Nat} (h : PlM w base mb e L No es clock)
    (hm : w'.heap[mb]? = w.heap[mb]?) (hr : ∀ g, base ≤ g → g < w.heap.size → ¬ No g → w'.heap[g]? = w.heap[g]?) : PlM w' base mb e L No es clock :=
  ⟨hm.trans h.blk, h.st, h.keys, fun x hx => own_of_block (h.own x hx) (fun g hg => hr g ((h.own x hx).lt g hg).1 ((h.own x hx).lt g hg).2 (h.off x hx g hg)), h.off, h.all, h.sep, h.hb⟩
theorem PlM.reno {w : World} {base mb e : Nat} {L : Value → List Nat} {No No' : Nat → Prop} {es : Array MapEntry} {clock : Nat} (h : PlM w base mb e L No es clock)
    (hn : ∀ g, No' g → No g ∨ w.heap.size ≤ g) : PlM w base mb e L No' es clock :=
  ⟨h.blk, h.st, h.keys, h.own, fun x hx g hg e => by
    rcases hn g e with h1 | h1
    · exact h.off x hx g hg h1
    · have := ((h.own x hx).lt g hg).2; omega, h.all, h.sep, h.hb⟩
theorem PlM.lt {w : World} {base mb e : Nat} {L : Value → List Nat} {No : Nat → Prop} {es : Array MapEntry} {clock : Nat} (h : PlM w base mb e L No es clock) : mb < w.heap.size := by
  rcases Nat.lt_or_ge mb w.heap.size with hlt | hge
  · exact hlt
  · have := h.blk; rw [Array.getElem?_eq_none hge] at this; cases this
section
variable {P : Program} {t k e : TypeId}
theorem PlM.lookup (K : KeyLaw P k) (hk : ∀ f, ∃ l, keyOf P k (kV f) = some l) {et : TypeId} (ht : P.underlying t = some (.map k et)) (hz : ∀ u : World, (zeroValue et).run P u = .ok (.slice none 0 0) u) {w : World} {base mb : Nat} {L : Value → List Nat} {No : Nat → Prop} {es : Array MapEntry} {clock : Nat} (h : PlM w base mb e L No es clock) (f : Nat → UInt8) :
    ∃ v, (∀ w2 : World, w2.heap[mb]? = w.heap[mb]? → (Instr.lookup t (.map (some mb)) (kV f) false).run P w2 = .ok v w2) ∧ w.ownsRow base e 1 v (L (kV f)).length ((L (kV f)).map intV) := by
  obtain ⟨l, hl⟩ := hk f
  have hks : ∀ x ∈ es.toList, ∃ l, keyOf P k x.key = some l := fun x hx => by
    obtain ⟨g, hg⟩ := h.keys x hx
    rw [hg]; exact hk g
  have hfd := fun w2 => K.find w2 hl es.toList hks
  by_cases hex : ∃ x ∈ es.toList, x.key = kV f
  · obtain ⟨x, hx, hxk⟩ := hex
    refine ⟨x.val, fun w2 hw2 => ?_, by rw [← hxk]; exact h.own x hx⟩
    rcases hfd w2 with ⟨_, h2⟩ | ⟨j, e0, h1, h2, h3⟩
    · exact absurd hxk (h2 x hx)
    · have hxe : e0 = x := by
        obtain ⟨i, hi⟩ := List.mem_iff_getElem?.1 hx
        have hij : i = j := by
          refine (List.getElem?_inj (l := es.toList.map (·.key)) (by rw [List.length_map]; exact (List.getElem?_eq_some_iff.1 hi).1) h.st.2.2).1 ?_
          rw [List.getElem?_map, List.getElem?_map, hi, h2]
          show some x.key = some e0.key
          rw [hxk, h3]
        subst hij
        rw [hi] at h2
        exact (Option.some.inj h2).symm
      subst hxe
      simp [Instr.lookup, run_underlying ht, MapKept.run_getObj_map (hw2.trans h.blk), K.check w2 es.isEmpty hl, h1, Result.andThen]
  · have hL : L (kV f) = [] := by
      rcases List.eq_nil_or_concat (L (kV f)) with h0 | ⟨_, _, h0⟩
      · exact h0
      · exact absurd (h.all (kV f) (by rw [h0]; simp)) (fun ⟨x, hx, hxk⟩ => hex ⟨x, hx, hxk⟩)
    refine ⟨.slice none 0 0, fun w2 hw2 => ?_, by rw [hL]; exact World.ownsRow_nil w _ _ _⟩
    rcases hfd w2 with ⟨h1, _⟩ | ⟨j, e0, _, h2, h3⟩
    · simp [Instr.lookup, run_underlying ht, MapKept.run_getObj_map (hw2.trans h.blk), K.check w2 es.isEmpty hl, h1, hz, Result.andThen]
    · exact absurd ⟨e0, List.mem_of_getElem? h2, h3⟩ hex
open Classical in
theorem PlM.entry (K : KeyLaw P k) (hk : ∀ f, ∃ l, keyOf P k (kV f) = some l) {et : TypeId} (ht : P.underlying t = some (.map k et)) (hz : ∀ u : World, (zeroValue et).run P u = .ok (.slice none 0 0) u) {w : World} {base mb : Nat} {L : Value → List Nat} {No : Nat → Prop} {es : Array MapEntry} {clock : Nat} (h : PlM w base mb e L No es clock) (f : Nat → UInt8) (hNo : ∀ g, No g → g < w.heap.size) :
    ∃ (v : Value) (st : Nat) (es1 : Array MapEntry) (clock1 : Nat), (∀ w2 : World, w2.heap[mb]? = w.heap[mb]? → (Instr.mapEntry t (.map (some mb)) (kV f)).run P w2 = .ok (.tuple #[v, goInt st]) (setBlock w2 mb (.map es1 clock1))) ∧
      w.ownsRow base e 1 v (L (kV f)).length ((L (kV f)).map intV) ∧ (∀ g, v.ownBlock = some g → ¬ No g) ∧
      ∀ (w3 : World) (v' : Value) (x : Nat), w3.heap[mb]? = some (.map es1 clock1) → (∀ g, base ≤ g → g < w.heap.size → v.ownBlock ≠ some g → ¬ No g → w3.heap[g]? = w.heap[g]?) →
        w3.ownsRow base e 1 v' ((L (kV f)).length + 1) ((L (kV f)).map intV ++ [intV x]) → (v'.ownBlock = v.ownBlock ∨ ∃ g, v'.ownBlock = some g ∧ w.heap.size ≤ g) →
        ∃ es' clock', (Instr.entryStore t (.map (some mb)) (goInt st) v').run P w3 = .ok () (setBlock w3 mb (.map es' clock')) ∧
          PlM (setBlock w3 mb (.map es' clock')) base mb e (fun u => if u = kV f then L u ++ [x] else L u) No es' clock' := by
  obtain ⟨l, hl⟩ := hk f
  have hks : ∀ x ∈ es.toList, ∃ l, keyOf P k x.key = some l := fun x hx => by
    obtain ⟨g, hg⟩ := h.keys x hx
    rw [hg]; exact hk g
  have hfd := fun w2 => K.find w2 hl es.toList hks
  obtain ⟨s1, s2, s3⟩ := h.st
  have hmb := h.hb
  by_cases hex : ∃ x ∈ es.toList, x.key = kV f
  · -- the key is there
    obtain ⟨x0, hx0, hxk⟩ := hex
    obtain ⟨j, hj⟩ := List.mem_iff_getElem?.1 hx0
    have hjl := (List.getElem?_eq_some_iff.1 hj).1
    have hja : es[j]? = some x0 := by simpa using hj
    have hkj : ∀ i y, es.toList[i]? = some y → i ≠ j → y.key ≠ kV f := fun i y hy hij hyk => by
      refine hij ((List.getElem?_inj (l := es.toList.map (·.key)) (by rw [List.length_map]; exact (List.getElem?_eq_some_iff.1 hy).1) s3).1 ?_)
      rw [List.getElem?_map, List.getElem?_map, hy, hj]
      show some y.key = some x0.key
      rw [hyk, hxk]
    have hfj : ∀ w2 : World, (Instr.findKey k (kV f) es.toList).run P w2 = .ok (some (j, x0.val)) w2 := fun w2 => by
      rcases hfd w2 with ⟨_, h2⟩ | ⟨i, e0, h1, h2, h3⟩
      · exact absurd hxk (h2 x0 hx0)
      · by_cases e : i = j
        · subst e
          rw [hj] at h2
          rw [← Option.some.inj h2] at h1
          exact h1
        · exact absurd h3 (hkj i e0 h2 e)
    have hsame : es.modify j (fun e => { e with key := kV f }) = es := by
      apply Array.ext'
      rw [Array.toList_modify, modify_eq_set _ _ _ _ hj]
      have : ({ x0 with key := kV f } : MapEntry) = x0 := by rw [← hxk]
      rw [this]
      exact set_self _ _ _ hj
    refine ⟨x0.val, x0.born, es, clock, fun w2 hw2 => ?_, by rw [← hxk]; exact h.own x0 hx0, h.off x0 hx0, fun w3 v' x hw3 hrows hown hlies => ?_⟩
    · simp [Instr.mapEntry, run_underlying ht, MapKept.run_getObj_map (hw2.trans h.blk), K.check w2 false hl, hfj w2, hja, hxk, K.stays w2 hl, hsame, MapKept.run_setObj_map _ (hw2.trans h.blk), Result.andThen, setBlock]
    · have hidx : es.findIdx? (fun e => ((e.born : Nat) : Int) == ((x0.born : Nat) : Int)) = some j := by
        rw [findIdx_arr]
        exact findIdx_born s2 hj
      have hlt3 : mb < w3.heap.size := by
        rcases Nat.lt_or_ge mb w3.heap.size with hlt | hge
        · exact hlt
        · rw [Array.getElem?_eq_none hge] at hw3; cases hw3
      obtain ⟨es', hes'⟩ : ∃ es', es' = es.modify j (fun e => { e with val := v' }) := ⟨_, rfl⟩
      have hel : es'.toList = es.toList.set j { x0 with val := v' } := by rw [hes', Array.toList_modify, modify_eq_set _ _ _ _ hj]
      refine ⟨es', clock, ?_, ?_⟩
      · rw [hes']
        simp [Instr.entryStore, MapKept.run_getObj_map hw3, asInt, asIntOf, goInt, hidx, MapKept.run_setObj_map _ hw3, Result.andThen, setBlock]
      · have hmem : ∀ y ∈ es'.toList, y = { x0 with val := v' } ∨ (y ∈ es.toList ∧ y.key ≠ kV f) := fun y hy => by
          rw [hel] at hy
          rcases mem_set_cases hy with h1 | ⟨i, hij, hi⟩
          · exact .inl h1
          · exact .inr ⟨List.mem_of_getElem? hi, hkj i y hi hij⟩
        have hkeep : ∀ y ∈ es.toList, y.key ≠ kV f → ∀ g, y.val.ownBlock = some g → base ≤ g ∧ g < w.heap.size ∧ w3.heap[g]? = w.heap[g]? := fun y hy hyk g hg => by
          have hlt := (h.own y hy).lt g hg
          refine ⟨hlt.1, hlt.2, hrows g hlt.1 hlt.2 (fun e => ?_) (h.off y hy g hg)⟩
          exact h.sep y hy x0 hx0 (by rw [hxk]; exact hyk) g hg e
        have hvne : ∀ y ∈ es.toList, y.key ≠ kV f → ∀ g, y.val.ownBlock = some g → v'.ownBlock ≠ some g := fun y hy hyk g hg e => by
          rcases hlies with h1 | ⟨g', h1, h2⟩
          · exact h.sep y hy x0 hx0 (by rw [hxk]; exact hyk) g hg (by rw [← h1]; exact e)
          · have := (hkeep y hy hyk g hg).2.1
            rw [h1] at e
            have := Option.some.inj e
            omega
        refine ⟨setBlock_same _ _ _ hlt3, ⟨?_, ?_, ?_⟩, ?_, ?_, ?_, ?_, ?_, hmb⟩
        · intro y hy
          rcases hmem y hy with rfl | ⟨h1, _⟩
          · exact s1 x0 hx0
          · exact s1 y h1
        · rw [hel, List.map_set]
          show ((es.toList.map (·.born)).set j x0.born).Nodup
          rw [set_self _ _ _ (by rw [List.getElem?_map, hj]; rfl)]
          exact s2
        · rw [hel, List.map_set]
          show ((es.toList.map (·.key)).set j x0.key).Nodup
          rw [set_self _ _ _ (by rw [List.getElem?_map, hj]; rfl)]
          exact s3
        · intro y hy
          rcases hmem y hy with rfl | ⟨h1, _⟩
          · exact h.keys x0 hx0
          · exact h.keys y h1
        · intro y hy
          rcases hmem y hy with rfl | ⟨h1, h2⟩
          · show World.ownsRow _ base e 1 v' (if x0.key = kV f then L x0.key ++ [x] else L x0.key).length ((if x0.key = kV f then L x0.key ++ [x] else L x0.key).map intV)
            rw [if_pos hxk, hxk, List.length_append, List.map_append]
            exact own_of_block hown (fun g hg => setBlock_other _ _ _ _ (by have := (hown.lt g hg).1; omega))
          · show World.ownsRow _ base e 1 y.val (if y.key = kV f then L y.key ++ [x] else L y.key).length ((if y.key = kV f then L y.key ++ [x] else L y.key).map intV)
            rw [if_neg h2]
            refine own_of_block (h.own y h1) (fun g hg => ?_)
            obtain ⟨a1, a2, a3⟩ := hkeep y h1 h2 g hg
            rw [setBlock_other _ _ _ _ (by omega)]
            exact a3
        · intro y hy g hg
          rcases hmem y hy with rfl | ⟨h1, _⟩
          · have hg' : v'.ownBlock = some g := hg
            rcases hlies with h2 | ⟨g', h2, h3⟩
            · exact h.off x0 hx0 g (by rw [← h2]; exact hg')
            · intro e
              rw [hg'] at h2
              have e1 : g = g' := Option.some.inj h2
              have := hNo g e
              omega
          · exact h.off y h1 g hg
        · intro u hu
          by_cases e : u = kV f
          · exact ⟨{ x0 with val := v' }, by rw [hel]; exact List.mem_iff_getElem?.2 ⟨j, by rw [List.getElem?_set_self (by simpa using hjl)]⟩, by rw [e]; exact hxk⟩
          · obtain ⟨y, hy, hyk⟩ := h.all u (by simpa [if_neg e] using hu)
            obtain ⟨i, hi⟩ := List.mem_iff_getElem?.1 hy
            refine ⟨y, ?_, hyk⟩
            rw [hel]
            refine List.mem_iff_getElem?.2 ⟨i, ?_⟩
            rw [List.getElem?_set_ne (fun e2 => by subst e2; rw [hj] at hi; rw [← Option.some.inj hi] at hyk; exact e (hyk.symm.trans hxk))]
            exact hi
        · intro y hy z hz' hyz g hg
          rcases hmem y hy with rfl | ⟨h1, h2⟩
          · rcases hmem z hz' with rfl | ⟨h3, h4⟩
            · exact absurd rfl hyz
            · intro e2
              exact hvne z h3 h4 g e2 hg
          · rcases hmem z hz' with rfl | ⟨h3, h4⟩
            · exact hvne y h1 h2 g hg
            · exact h.sep y h1 z h3 hyz g hg
  · -- a key that is new
    have hne : ∀ y ∈ es.toList, y.key ≠ kV f := fun y hy e => hex ⟨y, hy, e⟩
    have hL : L (kV f) = [] := by
      rcases List.eq_nil_or_concat (L (kV f)) with h0 | ⟨_, _, h0⟩
      · exact h0
      · exact absurd (h.all (kV f) (by rw [h0]; simp)) (fun ⟨x, hx, hxk⟩ => hex ⟨x, hx, hxk⟩)
    have hfj : ∀ w2 : World, (Instr.findKey k (kV f) es.toList).run P w2 = .ok none w2 := fun w2 => by
      rcases hfd w2 with ⟨h1, _⟩ | ⟨i, e0, _, h2, h3⟩
      · exact h1
      · exact absurd h3 (hne e0 (List.mem_of_getElem? h2))
    refine ⟨.slice none 0 0, clock, es.push ⟨kV f, .slice none 0 0, clock⟩, clock + 1, fun w2 hw2 => ?_, by rw [hL]; exact World.ownsRow_nil w _ _ _, by intro g hg; simp [Value.ownBlock] at hg, fun w3 v' x hw3 hrows hown hlies => ?_⟩
    · simp [Instr.mapEntry, run_underlying ht, MapKept.run_getObj_map (hw2.trans h.blk), K.check w2 false hl, hfj w2, hz, MapKept.run_setObj_map _ (hw2.trans h.blk), Result.andThen, setBlock]
    · have hnod : ((es.push ⟨kV f, .slice none 0 0, clock⟩).toList.map (·.born)).Nodup := by
        simp only [Array.toList_push, List.map_append, List.map_cons, List.map_nil]
        refine List.nodup_append.2 ⟨s2, by simp, fun a ha c hc e1 => ?_⟩
        simp only [List.mem_singleton] at hc
        obtain ⟨x, hx, rfl⟩ := List.mem_map.1 ha
        have := s1 x hx
        omega
      have hidx : (es.push ⟨kV f, .slice none 0 0, clock⟩).findIdx? (fun e => ((e.born : Nat) : Int) == ((clock : Nat) : Int)) = some es.size := by
        rw [findIdx_arr]
        exact findIdx_born (j := es.size) (e0 := ⟨kV f, .slice none 0 0, clock⟩) hnod (by simp)
      have hmod : (es.push ⟨kV f, .slice none 0 0, clock⟩).modify es.size (fun e => { e with val := v' }) = es.push ⟨kV f, v', clock⟩ := by
        apply Array.ext'
        rw [Array.toList_modify, Array.toList_push, Array.toList_push, ← Array.length_toList, modify_last]
      have hlt3 : mb < w3.heap.size := by
        rcases Nat.lt_or_ge mb w3.heap.size with hlt | hge
        · exact hlt
        · rw [Array.getElem?_eq_none hge] at hw3; cases hw3
      have hnew : ∀ g, v'.ownBlock = some g → w.heap.size ≤ g := fun g hg => by
        rcases hlies with h1 | ⟨g', h1, h2⟩
        · rw [h1] at hg; simp [Value.ownBlock] at hg
        · rw [hg] at h1
          rw [Option.some.inj h1]; exact h2
      refine ⟨es.push ⟨kV f, v', clock⟩, clock + 1, ?_, ?_⟩
      · simp [Instr.entryStore, MapKept.run_getObj_map hw3, asInt, asIntOf, goInt, hidx, hmod, MapKept.run_setObj_map _ hw3, Result.andThen, setBlock]
      · have hmem : ∀ y ∈ (es.push ⟨kV f, v', clock⟩).toList, y = ⟨kV f, v', clock⟩ ∨ y ∈ es.toList := fun y hy => by
          rw [Array.toList_push] at hy
          rcases List.mem_append.1 hy with h1 | h1
          · exact .inr h1
          · exact .inl (by simpa using h1)
        have hkeep : ∀ y ∈ es.toList, ∀ g, y.val.ownBlock = some g → base ≤ g ∧ g < w.heap.size ∧ w3.heap[g]? = w.heap[g]? := fun y hy g hg => by
          have hlt := (h.own y hy).lt g hg
          exact ⟨hlt.1, hlt.2, hrows g hlt.1 hlt.2 (by simp [Value.ownBlock]) (h.off y hy g hg)⟩
        refine ⟨setBlock_same _ _ _ hlt3, ⟨?_, ?_, ?_⟩, ?_, ?_, ?_, ?_, ?_, hmb⟩
        · intro y hy
          rcases hmem y hy with rfl | h1
          · exact Nat.lt_succ_self _
          · exact Nat.lt_succ_of_lt (s1 y h1)
        · simpa using hnod
        · simp only [Array.toList_push, List.map_append, List.map_cons, List.map_nil]
          refine List.nodup_append.2 ⟨s3, by simp, fun a ha c hc e1 => ?_⟩
          simp only [List.mem_singleton] at hc
          obtain ⟨x, hx, rfl⟩ := List.mem_map.1 ha
          exact hne x hx (e1.trans hc)
        · intro y hy
          rcases hmem y hy with rfl | h1
          · exact ⟨f, rfl⟩
          · exact h.keys y h1
        · intro y hy
          rcases hmem y hy with rfl | h1
          · show World.ownsRow _ base e 1 v' (if kV f = kV f then L (kV f) ++ [x] else L (kV f)).length ((if kV f = kV f then L (kV f) ++ [x] else L (kV f)).map intV)
            rw [if_pos rfl, List.length_append, List.map_append]
            exact own_of_block hown (fun g hg => setBlock_other _ _ _ _ (by have := (hown.lt g hg).1; omega))
          · show World.ownsRow _ base e 1 y.val (if y.key = kV f then L y.key ++ [x] else L y.key).length ((if y.key = kV f then L y.key ++ [x] else L y.key).map intV)
            rw [if_neg (hne y h1)]
            refine own_of_block (h.own y h1) (fun g hg => ?_)
            obtain ⟨a1, a2, a3⟩ := hkeep y h1 g hg
            rw [setBlock_other _ _ _ _ (by omega)]
            exact a3
        · intro y hy g hg
          rcases hmem y hy with rfl | h1
          · intro e
            have := hNo g e
            have := hnew g hg
            omega
          · exact h.off y h1 g hg
        · intro u hu
          by_cases e : u = kV f
          · exact ⟨⟨kV f, v', clock⟩, by simp, e.symm⟩
          · obtain ⟨y, hy, hyk⟩ := h.all u (by simpa [if_neg e] using hu)
            exact ⟨y, by rw [Array.toList_push]; exact List.mem_append.2 (.inl hy), hyk⟩
        · intro y hy z hz' hyz g hg
          rcases hmem y hy with rfl | h1
          · rcases hmem z hz' with rfl | h3
            · exact absurd rfl hyz
            · intro e2
              have := (hkeep z h3 g e2).2.1
              have := hnew g hg
              omega
          · rcases hmem z hz' with rfl | h3
            · intro e2
              have := (hkeep y h1 g hg).2.1
              have := hnew g e2
              omega
            · exact h.sep y h1 z h3 hyz g hg
end
end Go.Proofs.Ytdoodkabmeojmaa
/- The program's keys: three bytes are a key of its map. -/
namespace Go.Proofs.Ytdoodkabmeojmaa
open Go Go.RowKit
open Go.WideMaps (KeyLaw)
theorem Try.laidOutP : laidOutB Try.prog = true := by kernel_rfl
theorem Try.wideO : (match Try.prog.underlying 126 with | some (.array _ _) | some (.struct _) => true | _ => false) = true := by rw [Try.underlying126]
set_option maxRecDepth 100000 in
theorem Try.lawO : KeyLaw Try.prog 126 := deep_law_laid Try.laidOutP (m := 2) (by omega) (of_decide_eq_true (by kernel_rfl)) (by kernel_rfl) Try.wideO
theorem Try.zeroO (w : World) : (zeroValue 133).run Try.prog w = .ok (.slice none 0 0) w := by kernel_rfl
theorem Try.cellsO : Try.prog.cellsOf 126 = 3 := by kernel_rfl
theorem Try.cellsU : Try.prog.cellsOf 5 = 1 := by kernel_rfl
theorem Try.keyTypeO : Try.prog.keyType 126 = true := by kernel_rfl
theorem Try.typesO : Try.prog.types.size + 1 = (153 - 1) + 1 + 1 := by kernel_rfl
theorem Try.keyO (f : Nat → UInt8) : ∃ l, keyOf Try.prog 126 (kV f) = some l := by
  have e : kV f = .agg #[.int .u8 ((f 0).toNat : Int), .int .u8 ((f 1).toNat : Int), .int .u8 ((f 2).toNat : Int)] := by
    simp [kV, bL, u8V, List.range_succ]
  rw [e]
  have wf : ∀ b : UInt8, (Lit.int .u8 (b.toNat : Int)).wf = true := fun b => by have := b.toNat_lt; have h1 : IntKind.u8.min = 0 := rfl; have h2 : IntKind.u8.max = 255 := rfl; simp [Lit.wf, h1, h2]; omega
  refine ⟨.string (keyBytes [.int .u8 ((f 0).toNat : Int), .int .u8 ((f 1).toNat : Int), .int .u8 ((f 2).toNat : Int)]), ?_⟩
  unfold keyOf
  simp only [Try.underlying126]
  rw [if_pos (by simp [Try.keyTypeO, Value.formed, Try.underlying126, Try.cellsO]), Try.typesO]
  unfold Program.keyLits
  simp only [Try.underlying126, Value.cells]
  rw [if_pos (by rw [Try.cellsO]; rfl), show List.range 3 = [0, 1, 2] from rfl, List.mapM_cons, List.mapM_cons, List.mapM_cons, List.mapM_nil]
  simp [Try.cellsU, Program.keyLits, Try.underlying5, wf]
end Go.Proofs.Ytdoodkabmeojmaa
/- The program's past: newPast, cut, alike walked. -/
namespace Go.Proofs.Ytdoodkabmeojmaa
open Go Go.RowKit
/-- What a *past lies as: the block p holds the text's bytes (T, N of them, in block tb) and the map's block mb. -/
structure Pst (w : World) (p tb mb N cap : Nat) (T : Nat → UInt8) : Prop where
  c0 : w.cell? ⟨p, 0, none⟩ = some (.slice (some ⟨tb, 0, none⟩) N cap)
  c1 : w.cell? ⟨p, 1, none⟩ = some (.map (some mb))
  row : rowC w tb N T
  cap : N ≤ cap
  lt : p < w.heap.size
theorem Pst.of_blocks {w w' : World} {p tb mb N cap : Nat} {T : Nat → UInt8} (h : Pst w p tb mb N cap T) (hs : w.heap.size ≤ w'.heap.size) (hp : w'.heap[p]? = w.heap[p]?) (ht : w'.heap[tb]? = w.heap[tb]?) : Pst w' p tb mb N cap T :=
  ⟨(World.cell?_of_block (w := w) (a := ⟨p, 0, none⟩) hp).trans h.c0, (World.cell?_of_block (w := w) (a := ⟨p, 1, none⟩) hp).trans h.c1, h.row.of_block (Nat.lt_of_lt_of_le h.row.1 hs) ht, h.cap, Nat.lt_of_lt_of_le h.lt hs⟩
theorem Pst.below {w w' : World} {p tb mb N cap : Nat} {T : Nat → UInt8} (h : Pst w p tb mb N cap T) (hb : Below w.heap.size w w') : Pst w' p tb mb N cap T :=
  h.of_blocks hb.size (hb.block p h.lt) (hb.block tb h.row.1)
theorem Pst.alloc {w : World} {p tb mb N cap : Nat} {T : Nat → UInt8} (h : Pst w p tb mb N cap T) (o : Obj) : Pst (w.alloc o) p tb mb N cap T := h.below ((Below.refl _ _).alloc (Nat.le_refl _) _)
theorem Pst.drew {w : World} {p tb mb N cap : Nat} {T : Nat → UInt8} (h : Pst w p tb mb N cap T) : Pst w.drew p tb mb N cap T := ⟨h.c0, h.c1, h.row.drew, h.cap, h.lt⟩
set_option maxRecDepth 100000 in
set_option maxHeartbeats 800000 in
theorem imp_newPast (t : ByteArray) (w : World) :
    Calls Try.prog 79 #[.string t] w fun e w' => ∃ cap, e = .returned (.pointer (some ⟨w.heap.size + 2, 0, none⟩)) ∧ Pst w' (w.heap.size + 2) w.heap.size (w.heap.size + 1) t.size cap (bF t) ∧ w'.heap[w.heap.size + 1]? = some (.map #[] 0) ∧ w'.heap.size = w.heap.size + 3 ∧ Below w.heap.size w w' := by
  have hcv := fun (w : World) => run_bytes_of_string (P := Try.prog) w 9 22 5 t Try.underlying9 Try.underlying22 Try.underlying5
  have hmm := @run_makeMap Try.prog
  have hcap := grownCap_ge w t.size 0 5
  have hrow0 := hasRow.of_text w w.heap.size 5 (grownCap w t.size 0 5) t hcap (Nat.le_refl _)
  have hbl0 := hide ((Below.refl w.heap.size w).alloc (Nat.le_refl _) (.cells (bytesRow t (grownCap w t.size 0 5)) 5 ((bytesRow t (grownCap w t.size 0 5)).size, (bytesRow t (grownCap w t.size 0 5)).size + 1)))
  have HR0 := hide (rowC.of_text hrow0 (bF_at t t.size rfl))
  have HC := hide hcap
  clear hrow0 hcap
  go_enter Try.func79, Try.ntmps79
  go_wp2_with fail
  go_ret
  generalize hW : (w.alloc (.cells (bytesRow t (grownCap w t.size 0 5)) 5 ((bytesRow t (grownCap w t.size 0 5)).size, (bytesRow t (grownCap w t.size 0 5)).size + 1))) = W at *
  have hWs : W.heap.size = w.heap.size + 1 := by rw [← hW]; simp
  refine ⟨_, rfl, ⟨?_, ?_, ?_, HC.out, by simp [hWs]⟩, ?_, by simp [hWs], ((hbl0.out.alloc hbl0.out.size _).alloc (by simp; have := hbl0.out.size; omega) _).drew⟩
  · have e : w.heap.size + 2 = (W.alloc (.map #[] 0)).heap.size := by simp [hWs]
    rw [e, World.cell?_drew]; simp
  · have e : w.heap.size + 2 = (W.alloc (.map #[] 0)).heap.size := by simp [hWs]
    rw [e, World.cell?_drew]; simp
  · exact ((HR0.out.alloc _).alloc _).drew
  · show ((W.alloc (.map #[] 0)).alloc _).heap[w.heap.size + 1]? = _
    rw [Below.heap_alloc _ _ _ (by simp [hWs])]
    rw [← hWs]; exact heap_alloc_new W _
set_option maxRecDepth 100000 in
set_option maxHeartbeats 800000 in
theorem imp_cut (p tb mb N cap fr many : Nat) (T : Nat → UInt8) (w : World) (h : Pst w p tb mb N cap T) (hN : N ≤ 4000) (hm1 : 1 ≤ many) (hm : fr + many ≤ N) :
    Calls Try.prog 92 #[.pointer (some ⟨p, 0, none⟩), .int .i64 (fr : Int), .int .i64 (many : Int)] w fun e w' => e = .returned (.slice (some ⟨tb, fr, none⟩) many many) ∧ w' = w := by
  have c0 := h.c0
  have hcap := h.cap
  obtain ⟨q, hq⟩ : ∃ q, q = fr + many := ⟨_, rfl⟩
  have s1 : (fr : Int) + (many : Int) = (q : Int) := by omega
  have s1w : IntKind.i64.wrap ((fr : Int) + (many : Int)) = (q : Int) := by simp only [IntKind.wrap_i64]; omega
  have h1 : (fr : Int) ≤ (q : Int) := by omega
  have h2 : (q : Int) ≤ (cap : Int) := by omega
  have h3 : q - fr = many := by omega
  have hq4 : (q : Int) ≤ 4000 := by omega
  have hm0 : many ≠ 0 := by omega
  clear h hm hq
  go_enter Try.func92, Try.ntmps92
  go_wp2_with fail
  go_ret
  exact ⟨rfl, rfl⟩
/-- How many bytes are alike, m at most. -/
def alikeG (A B : Nat → UInt8) : Nat → Nat → Nat
  | 0, n => n
  | k + 1, n => if B n = A n then alikeG A B k (n + 1) else n
set_option maxRecDepth 100000 in
set_option maxHeartbeats 800000 in
theorem imp_alike (tb a b m N : Nat) (T : Nat → UInt8) (w : World) (h : rowC w tb N T) (ha : a + m ≤ N) (hb : b + m ≤ N) (hN : N ≤ 4000) :
    Calls Try.prog 94 #[.slice (some ⟨tb, a, none⟩) m m, .slice (some ⟨tb, b, none⟩) m m] w fun e w' => e = .returned (.int .i64 (alikeG (fun j => T (a + j)) (fun j => T (b + j)) m 0 : Nat)) ∧ w' = w := by
  go_enter Try.func94, Try.ntmps94
  go_wp2_with fail
  go_loopw [9] (fun i wx => ∃ k : Nat, k ≤ m ∧ i = .int .i64 (k : Int) ∧ Hid (alikeG (fun j => T (a + j)) (fun j => T (b + j)) (m - k) k = alikeG (fun j => T (a + j)) (fun j => T (b + j)) m 0) ∧ wx = w) (fun i _ => m - (intOf i).toNat)
  case atStart => exact ⟨0, by omega, rfl, rfl, rfl⟩
  case round =>
    obtain ⟨k, hk, rfl, hl, rfl⟩ := hrel
    by_cases hlt : k < m
    · have hlt' : (k : Int) < (m : Int) := by omega
      have c1 := (h.2 (a + k) (by omega)).1
      have c2 := (h.2 (b + k) (by omega)).1
      have hm4 : (m : Int) ≤ 4000 := by omega
      by_cases he : T (b + k) = T (a + k)
      · have hd : (((T (b + k)).toNat : Int) != ((T (a + k)).toNat : Int)) = false := by rw [he]; simp
        have HL := hide (show alikeG (fun j => T (a + j)) (fun j => T (b + j)) (m - (k + 1)) (k + 1) = alikeG (fun j => T (a + j)) (fun j => T (b + j)) m 0 by
          rw [← hl.out, show m - k = (m - (k + 1)) + 1 by omega]
          show _ = if T (b + k) = T (a + k) then _ else _
          rw [if_pos he])
        clear he hl
        go_wp2_with fail
        go_roundw
        case rel => exact ⟨k + 1, by omega, by go_num, HL, trivial⟩
        case measure => simp [intOf]; omega
      · have hd : (((T (b + k)).toNat : Int) != ((T (a + k)).toNat : Int)) = true := by
          simp only [bne_iff_ne, ne_eq, Int.natCast_inj]
          exact fun e => he (UInt8.toNat_inj.1 e)
        have HL := hide (show alikeG (fun j => T (a + j)) (fun j => T (b + j)) m 0 = k by
          rw [← hl.out, show m - k = (m - (k + 1)) + 1 by omega]
          show (if T (b + k) = T (a + k) then _ else _) = _
          rw [if_neg he])
        clear he hl
        go_wp2_with fail
        go_ret
        exact ⟨by rw [HL.out]; rfl, rfl⟩
    · have hlt' : ¬ (k : Int) < (m : Int) := by omega
      have hm4 : (m : Int) ≤ 4000 := by omega
      have HL := hide (show alikeG (fun j => T (a + j)) (fun j => T (b + j)) m 0 = m by
        rw [← hl.out, show k = m by omega, Nat.sub_self]
        rfl)
      clear hl
      go_wp2_with fail
      go_ret
      exact ⟨by rw [HL.out]; rfl, rfl⟩
end Go.Proofs.Ytdoodkabmeojmaa
/- The program's past: openingAt walked. -/
namespace Go.Proofs.Ytdoodkabmeojmaa
open Go Go.RowKit
theorem Try.size3 : (Try.prog.info? 126).map (·.size) = some 3 := by kernel_rfl
theorem ret_BT {P : Program} {fn : Func} {p u : Tmp} {ty : TypeId} (h : fn.results = #[.cell p ty, .tmp u]) (tmps : Array Value) (w : World) (g n : Nat) (t : TypeId) (k : Nat → UInt8) (d : TypeDesc)
    (hp : tmps.getD p undef = .pointer (some ⟨g, 0, none⟩)) (hrow : w.rowIs g t n (u8V k)) (hu : P.underlying ty = some d) (hd : d.isRow = true) (hi : (P.info? ty).map (·.size) = some n) :
    (results fn tmps).run P w = .ok (.tuple #[.agg (bL n k).toArray, tmps.getD u undef]) w := by
  rw [results_cell_tmp h, hp]
  simp [asAddr, run_loadVar_row w g t ty _ (0, 0) d (row_heap hrow) hu (by cases d <;> simp_all) (by rw [bL_size]; exact hi), Result.andThen]
/-- The opening at a place: what lies there, as far as the text goes. -/
def opF (T : Nat → UInt8) (N here j : Nat) : UInt8 := if here + j < N then T (here + j) else 0
set_option maxRecDepth 100000 in
set_option maxHeartbeats 800000 in
theorem imp_openingAt (p tb mb N cap here : Nat) (T : Nat → UInt8) (w : World) (h : Pst w p tb mb N cap T) (hN : N ≤ 4000) (hh : here < N) (ok : Bool) (hok : ok = decide (here + 3 ≤ N)) :
    Calls Try.prog 91 #[.pointer (some ⟨p, 0, none⟩), .int .i64 (here : Int)] w fun e w' => e = .returned (.tuple #[.agg (bL 3 (opF T N here)).toArray, .bool ok]) ∧ Below w.heap.size w w' := by
  obtain ⟨m, hm⟩ : ∃ m, m = Nat.min (N - here) 3 := ⟨_, rfl⟩
  have hm3 : m ≤ 3 := by rw [hm]; exact Nat.min_le_right _ _
  have hmN : m ≤ N - here := by rw [hm]; exact Nat.min_le_left _ _
  have hmc : m = 3 ∨ m = N - here := by rw [hm]; show (if N - here ≤ 3 then N - here else 3) = 3 ∨ (if N - here ≤ 3 then N - here else 3) = N - here; split <;> omega
  have hmk : ((m : Int) == 3) = ok := by
    rw [hok]
    by_cases e : here + 3 ≤ N
    · rw [decide_eq_true e]
      have : m = 3 := by omega
      rw [this]; rfl
    · rw [decide_eq_false e, beq_eq_false_iff_ne]
      omega
  have h0 : w.heap.size < w.heap.size + 1 := Nat.lt_succ_self _
  obtain ⟨W, hW⟩ : ∃ W, W = (w.alloc (.cells #[.int .u8 0, .int .u8 0, .int .u8 0] 126)).alloc (.cells #[.int .u8 0, .int .u8 0, .int .u8 0] 126) := ⟨_, rfl⟩
  have r4 : W.rowIs w.heap.size 126 3 (u8V fun _ => 0) := by rw [hW]; exact (zeros8_row 3 w _ _ rfl).alloc _
  have r6 : W.rowIs (w.heap.size + 1) 126 3 (u8V fun _ => 0) := by
    have := zeros8_row 3 (w.alloc (.cells #[.int .u8 0, .int .u8 0, .int .u8 0] 126)) #[.int .u8 0, .int .u8 0, .int .u8 0] 126 rfl
    rw [hW]; simpa using this
  have HP := h
  have hP : Pst W p tb mb N cap T := by rw [hW]; exact (h.alloc _).alloc _
  have hB : Below w.heap.size w W := by rw [hW]; exact ((Below.refl _ w).alloc (Nat.le_refl _) _).alloc (by simp) _
  have hcap := h.cap
  have hhc : (here : Int) ≤ (N : Int) := by omega
  have htb : tb < w.heap.size := h.row.1
  have hpl : p < w.heap.size := h.lt
  clear h hok HP
  go_enter Try.func91, Try.ntmps91
  go_wp2_with fail
  rw [← hW]
  clear hW
  have c0 : W.drew.cell? ⟨p, 0, none⟩ = some (.slice (some ⟨tb, 0, none⟩) N cap) := hP.c0
  have hne : here < cap := by omega
  have hmin := hide (show m = Nat.min (N - here) 3 from hm)
  have hrg : W.drew.rangeAt tb here (bL m (fun j => T (here + j))) := by
    intro j v hv
    have hj : j < m := by
      rcases Nat.lt_or_ge j m with h | h
      · exact h
      · rw [List.getElem?_eq_none (by rw [bL_len]; exact h)] at hv; cases hv
    have e : (bL m (fun j => T (here + j)))[j]? = some (u8V (fun j => T (here + j)) j) := by simp [bL, hj]
    rw [e] at hv
    rw [← Option.some.inj hv]
    exact (hP.row.drew.2 (here + j) (by omega)).1
  have hth := row_there (w := W.drew) (o := 0) (n := m) r6 (by omega)
  have hnc : cap - here ≠ 0 := by omega
  have c0' : (W.drew.setCells (w.heap.size + 1) 0 (bL m (fun j => T (here + j)))).cell? ⟨p, 0, none⟩ = some (.slice (some ⟨tb, 0, none⟩) N cap) :=
    (World.cell?_of_block (w := W.drew) (a := ⟨p, 0, none⟩) (setCells_far (w.heap.size + 1) _ 0 W.drew p (by omega))).trans c0
  clear hm
  refine wp_region_held_drew (S := fun w' => w'.cell? ⟨p, 0, none⟩ = some (.slice (some ⟨tb, 0, none⟩) N cap)) (by kernel_rfl) c0 (fun hHeld => ?_)
  refine takeD (i := 0) (v := .slice (some ⟨w.heap.size + 1, 0, none⟩) 3 3) (some 8) rfl rfl (by kernel_rfl) (by kernel_rfl) (by kernel_rfl) (fun _ _ _ h => h) (Or.inl ⟨by rfl, fun w hSw => by go_simp⟩) hHeld ?_
  simp only [Act.put, List.setIfInBounds_toArray, List.set_cons_zero, List.set_cons_succ]
  refine takeD (i := 1) (v := .pointer (some ⟨p, 0, none⟩)) (some 9) rfl rfl (by kernel_rfl) (by kernel_rfl) (by kernel_rfl) (fun _ _ _ h => h) (Or.inl ⟨by rfl, fun w hSw => by go_simp⟩) hHeld ?_
  simp only [Act.put, List.setIfInBounds_toArray, List.set_cons_zero, List.set_cons_succ]
  refine takeD (i := 2) (v := .pointer (some ⟨p, 0, none⟩)) (some 10) rfl rfl (by kernel_rfl) (by kernel_rfl) (by kernel_rfl) (fun _ _ _ h => h) (Or.inl ⟨by rfl, fun w hSw => by go_simp⟩) hHeld ?_
  simp only [Act.put, List.setIfInBounds_toArray, List.set_cons_zero, List.set_cons_succ]
  refine takeD (i := 3) (v := .pointer (some ⟨p, 0, none⟩)) (some 11) rfl rfl (by kernel_rfl) (by kernel_rfl) (by kernel_rfl) (fun _ _ _ h => h) (Or.inl ⟨by rfl, fun w hSw => by go_simp⟩) hHeld ?_
  simp only [Act.put, List.setIfInBounds_toArray, List.set_cons_zero, List.set_cons_succ]
  refine takeD (i := 4) (v := .slice (some ⟨tb, 0, none⟩) N cap) (some 12) rfl rfl (by kernel_rfl) (by kernel_rfl) (by kernel_rfl) (fun _ _ _ h => h) (Or.inl ⟨by rfl, fun w hSw => by go_simp⟩) hHeld ?_
  simp only [Act.put, List.setIfInBounds_toArray, List.set_cons_zero, List.set_cons_succ]
  refine takeD (i := 5) (v := .int .i64 (here : Int)) (some 13) rfl rfl (by kernel_rfl) (by kernel_rfl) (by kernel_rfl) (fun _ _ _ h => h) (Or.inl ⟨by rfl, fun w hSw => by go_simp⟩) hHeld ?_
  simp only [Act.put, List.setIfInBounds_toArray, List.set_cons_zero, List.set_cons_succ]
  refine takeD (i := 6) (v := .slice (some ⟨tb, here, none⟩) (N - here) (cap - here)) (some 14) rfl rfl (by kernel_rfl) (by kernel_rfl) (by kernel_rfl) (fun _ _ _ h => h) (Or.inl ⟨by rfl, fun w hSw => by go_simp; omega⟩) hHeld ?_
  simp only [Act.put, List.setIfInBounds_toArray, List.set_cons_zero, List.set_cons_succ]
  refine wpAnyH_ready (rs := [7]) (by kernel_rfl) (by simp) ?_
  refine AllReadyH.cons rfl (fun KK hK => ?_) AllReadyH.nil
  refine step_copy_BD (some 15) rfl rfl (.tmp 8) (.tmp 14) 22 22 rfl 5 Try.underlying22 (by kernel_rfl) (w.heap.size + 1) 0 3 3 tb here (N - here) (cap - here) rfl rfl m (fun j => T (here + j)) hmin.out hrg hth ?_
  simp only [Act.put, List.setIfInBounds_toArray, List.set_cons_zero, List.set_cons_succ]
  refine hK.out _ _ c0' (fun hHeld => ?_)
  clear hK KK
  refine takeD (i := 8) (v := goInt m) (some 7) rfl rfl (by kernel_rfl) (by kernel_rfl) (by kernel_rfl) (fun _ _ _ h => h) (Or.inl ⟨by rfl, fun w hSw => by go_simp⟩) hHeld ?_
  simp only [Act.put, List.setIfInBounds_toArray, List.set_cons_zero, List.set_cons_succ]
  refine wpAnyH_done (by kernel_rfl) ?_ _
  have s4 := row_setCells_other (b := w.heap.size + 1) (o := 0) (vs := bL m (fun j => T (here + j))) r4.drew (by omega)
  have s6 := (row_setCells (o := 0) (n := m) (k := fun j => T (here + j)) r6.drew (by omega)).congr (g := u8V (opF T N here)) (fun i hi => by
    show Value.int .u8 _ = Value.int .u8 _
    congr 3
    show (if 0 ≤ i ∧ i < 0 + m then T (here + (i - 0)) else 0) = if here + i < N then T (here + i) else 0
    by_cases e : i < m
    · rw [if_pos (show 0 ≤ i ∧ i < 0 + m by omega), if_pos (show here + i < N by omega), Nat.sub_zero]
    · rw [if_neg (show ¬ (0 ≤ i ∧ i < 0 + m) by omega), if_neg (show ¬ here + i < N by omega)])
  have sb := below_setCells' (b := w.heap.size + 1) (o := 0) (vs := bL m (fun j => T (here + j))) hB.drew (by omega)
  generalize W.drew.setCells (w.heap.size + 1) 0 (bL m (fun j => T (here + j))) = W5 at *
  clear r4 r6 hrg hth hmin c0 c0' hP hB
  have hth := row_there (o := 0) (n := 3) s4 (by omega)
  have hfin := row_setCells0 (k := opF T N here) s4
  obtain ⟨K, hK⟩ : ∃ K, K = opF T N here := ⟨_, rfl⟩
  rw [← hK] at s6 hfin
  have HK := hide hK
  clear hK hHeld
  go_wp2_with (first | (refine wpList_load_B rfl 126 (.tmp 6) rfl (w.heap.size + 1) 0 rfl _ _ 3 _ K _ s6 (by omega) (fun j _ => by rw [Nat.zero_add]) Try.underlying126 rfl Try.size3 ?_) | (refine wpList_store_B rfl 126 (.tmp 4) (.tmp 16) rfl w.heap.size 0 3 K rfl rfl hth Try.size3 ?_))
  exact bodyPost_ret (ret_BT Try.results91 _ _ w.heap.size 3 _ _ _ rfl hfin Try.underlying126 rfl Try.size3) rfl ⟨by rw [← HK.out]; rfl, below_setCells' sb (Nat.le_refl _)⟩
end Go.Proofs.Ytdoodkabmeojmaa
/- 'append' onto a row of the call's own: the cells that were there are there still, whether the row has moved or not. No program is named here. -/
namespace Go.Proofs.Ytdoodkabmeojmaa
open Go.RowKit Go
section
variable {P : Program} (w : World)
theorem run_append_old (t ty : TypeId) (base : Nat) (e : TypeId) (i : TypeInfo) (z : Value) (bytes : Nat) (ht : P.underlying t = some (.slice e)) (hi : P.info? e = some i) (hz : i.zero = some z)
    (hsize : i.size = 1) (hby : i.bytes = bytes) (hzs : z.cells.size = 1)
    (g0 cap0 n : Nat) (xs : List Value) (hown : w.ownsRow base e 1 (.slice (some ⟨g0, 0, none⟩) n cap0) n xs)
    (ad : Addr) (c : Nat) (x : Value) (hx : w.cell? (ad.add 0) = some x) (h1 : x.oneCell' = true)
    (h63 : n + 1 ≤ maxLen) (hbytes : (n + 1) * bytes ≤ 140737488355328) (hbase : base ≤ w.heap.size) (H : Nat) (hH : w.heap.size = H) :
    ∃ g cap w', (Builtin.append_ #[t, t] ty #[.slice (some ⟨g0, 0, none⟩) n cap0, .slice (some ad) 1 c]).run P w = .ok (.slice (some ⟨g, 0, none⟩) (n + 1) cap) w' ∧
      w'.ownsRow base e 1 (.slice (some ⟨g, 0, none⟩) (n + 1) cap) (n + 1) (xs ++ [x]) ∧ w.grownBy w' (some g0) ∧ (g0 = g ∨ g = H) ∧ g < w'.heap.size ∧ ∀ j, j < n → w'.cell? ⟨g0, j, none⟩ = w.cell? ⟨g0, j, none⟩ := by
  have hnews : ∀ j u, [x][j]? = some u → w.cell? (ad.add j) = some u := by
    intro j u hj
    match j, hj with
    | 0, hj => simp at hj; subst hj; exact hx
  have hone : ∀ u ∈ [x], u.oneCell' = true := by intro u hu; simp at hu; subst hu; exact h1
  obtain ⟨g, cap, w', hr, h2, h3, h4, h5⟩ := run_append_lies (P := P) w t ty base e i z 1 bytes ht hi hz hsize hby hzs (by decide) _ n xs hown ad 1 c [x] rfl hnews hone (by decide) h63 hbytes hbase H hH
  refine ⟨g, cap, w', hr, h2, h3, ?_, h5, ?_⟩
  · rcases h4 with h | h
    · exact .inl (by simpa [Value.ownBlock] using h)
    · exact .inr h
  have hlt := (hown.lt g0 rfl).2
  rcases h4 with h | h
  · have e0 : g0 = g := by simpa [Value.ownBlock] using h
    subst e0
    intro j hj
    have hxl : xs.length = n := by have := hown.1; omega
    rw [h2.cellAt j (by omega), hown.cellAt j (by omega), List.getElem?_append_left (by omega)]
  · intro j hj
    obtain ⟨_, ⟨e0, _⟩ | ⟨g1, cap1, cur, e1, hbg, hg, hnc, hcm, hcs, htake⟩⟩ := hown
    · cases e0
    have e2 : g1 = g0 ∧ cap1 = cap0 := by
      have := e1
      simp at this
      exact ⟨this.1.symm, this.2.symm⟩
    obtain ⟨rfl, rfl⟩ := e2
    by_cases hroom : n + 1 ≤ cap1
    · have hr2 := run_append_room (P := P) w t ty e i ht hi g1 n cap1 cur hg ad 1 c [x] (by rw [hsize]; rfl) hnews hone hroom (by rw [hsize, hcs]; show n * 1 + 1 ≤ cap1 * 1; omega)
      rw [hr2] at hr
      have e3 := (Result.ok.inj hr).1
      have e4 : g1 = g := by simpa [Value.ownBlock] using congrArg Value.ownBlock e3
      omega
    · have hxl : xs.length = n * i.size := by rw [← htake, hsize, List.length_take, Array.length_toList, hcs]; omega
      have hr2 := run_append_grow (P := P) w t ty e i z ht hi hz ⟨g1, 0, none⟩ n cap1 xs hxl (World.ownsRow.cells (g := g1) (w := w) (base := base) (e := e) (size := 1) (n := n) (v := .slice (some ⟨g1, 0, none⟩) n cap1) ⟨by rw [hxl, hsize], .inr ⟨g1, cap1, cur, rfl, hbg, hg, hnc, hcm, hcs, htake⟩⟩ rfl) ad 1 c [x] (by rw [hsize]; rfl) hnews (by omega) (by unfold maxLen at h63; omega) (growslice_fits (by omega) (by rw [hby]; exact hbytes))
      rw [hr2] at hr
      have hw := (Result.ok.inj hr).2
      rw [← hw]
      exact World.cell?_of_block (w := w) (a := ⟨g1, j, none⟩) (Below.heap_alloc w.drew _ g1 (show g1 < w.drew.heap.size from hlt))
theorem wpList_append_old {ops : Array Oper} {rest : List Oper} {o : Oper} {a : Act} {Q : Exit → Act → World → Prop} (hgd : o.guard = none) (s x : Operand) (t : TypeId)
    (ho : o.op = .call { callee := .builtin .append, args := #[s, x], argTypes := #[t, t] })
    (base : Nat) (e : TypeId) (i : TypeInfo) (z : Value) (bytes : Nat) (ht : P.underlying t = some (.slice e)) (hi : P.info? e = some i) (hz : i.zero = some z)
    (hsize : i.size = 1) (hby : i.bytes = bytes) (hzs : z.cells.size = 1)
    (g0 cap0 n : Nat) (xs : List Value) (hs : a.eval s = .slice (some ⟨g0, 0, none⟩) n cap0) (hown : w.ownsRow base e 1 (.slice (some ⟨g0, 0, none⟩) n cap0) n xs)
    (ad : Addr) (c : Nat) (u : Value) (hx : a.eval x = .slice (some ad) 1 c) (hu : w.cell? (ad.add 0) = some u) (h1 : u.oneCell' = true)
    (h63 : n + 1 ≤ maxLen) (hbytes : (n + 1) * bytes ≤ 140737488355328) (hbase : base ≤ w.heap.size) (H : Nat) (hH : w.heap.size = H)
    (h : ∀ g cap w', w'.ownsRow base e 1 (.slice (some ⟨g, 0, none⟩) (n + 1) cap) (n + 1) (xs ++ [u]) → w.grownBy w' (some g0) → (g0 = g ∨ g = H) → g < w'.heap.size → (∀ j, j < n → w'.cell? ⟨g0, j, none⟩ = w.cell? ⟨g0, j, none⟩) → wpList P ops Q rest (a.put o.dst (.slice (some ⟨g, 0, none⟩) (n + 1) cap)) w') : wpList P ops Q (o :: rest) a w := by
  refine wpList_plain hgd fun K hK => ?_
  obtain ⟨g, cap, w', hr, h2, h3, h4, h5, h6⟩ := run_append_old (P := P) w t o.type base e i z bytes ht hi hz hsize hby hzs g0 cap0 n xs hown ad c u hu h1 h63 hbytes hbase H hH
  unfold Oper.wp execOp
  simp only [ho, resolve, invoke, builtin, Sem.run_bind, Sem.run_pure, Result.andThen_ok, List.map_toArray, List.map_cons, List.map_nil, hs, hx, hr]
  exact hK _ _ (h g cap w' h2 h3 h4 h5 h6)
end
end Go.Proofs.Ytdoodkabmeojmaa

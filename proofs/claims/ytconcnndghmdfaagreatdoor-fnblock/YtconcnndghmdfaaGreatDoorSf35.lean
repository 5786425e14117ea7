/- Put together: IterM, PastM. -/
import Derived.RangeFuncNested
import Derived.RangeFuncCalls
import Derived.RangeFuncBox
import Derived.OwnWalkIn
import Derived.WideKeyEntry
import Derived.DeepKeys4
import Derived.Laws.AppendOwn
import Derived.Test.YtconcnndghmdfaaGreatDoorSf11
namespace Go.Proofs.YtconcnndghmdfaaGreatDoor
open Go Go.RowKit
structure Moves (M : Nat → Prop) (W W' : World) : Prop where
 os : W'.os = W.os
 tape : W'.tape = W.tape
 output : W'.output = W.output
 size : W.heap.size ≤ W'.heap.size
 block : ∀ g, g < W.heap.size → ¬ M g → W'.heap[g]? = W.heap[g]?
structure KeptM (M : Nat → Prop) (W W' : World) : Prop where
 size : W.heap.size ≤ W'.heap.size
 block : ∀ g, g < W.heap.size → M g → W'.heap[g]? = W.heap[g]?
theorem KeptM.refl (M : Nat → Prop) (W : World) : KeptM M W W := ⟨Nat.le_refl _, fun _ _ _ => rfl⟩
theorem KeptM.trans {M : Nat → Prop} {A B C : World} (h : KeptM M A B) (k : KeptM M B C) : KeptM M A C :=
 ⟨Nat.le_trans h.size k.size, fun g h1 h2 => (k.block g (Nat.lt_of_lt_of_le h1 h.size) h2).trans (h.block g h1 h2)⟩
theorem KeptM.below {M : Nat → Prop} {A B : World} (h : Below A.heap.size A B) : KeptM M A B := ⟨h.size, fun g h1 _ => h.block g h1⟩
structure MovesB (B : Nat) (M : Nat → Prop) (W W' : World) : Prop where
 os : W'.os = W.os
 tape : W'.tape = W.tape
 output : W'.output = W.output
 size : W.heap.size ≤ W'.heap.size
 block : ∀ g, g < W.heap.size → ¬ M g → (g < B ∨ ∀ o, W.heap[g]? = some o → o.isCells = true) → W'.heap[g]? = W.heap[g]?
theorem Moves.toB {M : Nat → Prop} {A B : World} (h : Moves M A B) (b : Nat) : MovesB b M A B := ⟨h.os, h.tape, h.output, h.size, fun g h1 h2 _ => h.block g h1 h2⟩
theorem MovesB.toBelow {B b : Nat} {M : Nat → Prop} {w W W' : World} (h : MovesB B M W W') (hb : Below b w W) (hw : b ≤ W.heap.size) (hB : b ≤ B) (hM : ∀ g, M g → b ≤ g) : Below b w W' :=
 hb.trans ⟨h.os, h.tape, h.output, h.size, fun g hg => h.block g (by omega) (fun hm => by have := hM g hm; omega) (.inl (by omega))⟩
theorem MovesB.cells {B g : Nat} {M : Nat → Prop} {W W' : World} {c : Array Value} {t : TypeId} {m : Nat × Nat} (h : MovesB B M W W') (hM : ¬ M g) (hg : W.heap[g]? = some (.cells c t m)) : W'.heap[g]? = some (.cells c t m) :=
 (h.block g (Array.getElem?_eq_some_iff.1 hg).1 hM (.inr (fun o ho => by rw [hg] at ho; cases ho; rfl))).trans hg
theorem Moves.below {M : Nat → Prop} {A B : World} (h : Below A.heap.size A B) : Moves M A B := ⟨h.os, h.tape, h.output, h.size, fun g h1 _ => h.block g h1⟩
theorem Moves.trans {M : Nat → Prop} {A B C : World} (h : Moves M A B) (k : Moves M B C) : Moves M A C :=
 ⟨k.os.trans h.os, k.tape.trans h.tape, k.output.trans h.output, Nat.le_trans h.size k.size, fun g h1 h2 => (k.block g (Nat.lt_of_lt_of_le h1 h.size) h2).trans (h.block g h1 h2)⟩
def StandsM {β : Type} (J : (Nat → Prop) → β → World → Prop) : Prop :=
 ∀ M M' s W W', J M s W → Moves M W W' → (∀ g, M' g → M g ∨ W.heap.size ≤ g ∧ g < W'.heap.size) → J M' s W'
def StandsB {β : Type} (B : Nat) (J : (Nat → Prop) → β → World → Prop) : Prop :=
 ∀ M M' s W W', J M s W → MovesB B M W W' → (∀ g, M' g → M g ∨ W.heap.size ≤ g ∧ g < W'.heap.size) → J M' s W'
theorem StandsB.moves {β : Type} {B : Nat} {J : (Nat → Prop) → β → World → Prop} (h : StandsB B J) : StandsM J :=
 fun M M' s W W' hj hm hM => h M M' s W W' hj (hm.toB B) hM
theorem StandsB.alloc {β : Type} {B : Nat} {J : (Nat → Prop) → β → World → Prop} (h : StandsB B J) {M : Nat → Prop} {s : β} {W : World} (o : Obj) (hj : J M s W) : J M s (W.alloc o) :=
 h M M s W _ hj ⟨rfl, rfl, rfl, by simp, fun g h1 _ _ => Below.heap_alloc _ _ _ h1⟩ (fun g hg => .inl hg)
theorem StandsB.putObj {β : Type} {B : Nat} {J : (Nat → Prop) → β → World → Prop} (h : StandsB B J) {M : Nat → Prop} {s : β} {W : World} {l : Nat} {o : Obj} (o' : Obj) (hj : J M s W) (hB : B ≤ l) (hl : W.heap[l]? = some o) (ho : o.isCells = false) : J M s (W.putObj l o') := by
 have hg := grownBy_putObj' W l o'
 refine h M M s W _ hj ⟨hg.os, hg.tape, hg.output, hg.size, fun g h1 _ h3 => hg.block g h1 (fun e => ?_)⟩ (fun g hg => .inl hg)
 cases e
 rcases h3 with h3 | h3
 · omega
 · have := h3 o hl; rw [ho] at this; cases this
theorem KeepsFrom.below {B : Nat} {A C : World} (h : Below A.heap.size A C) : KeepsFrom B A C := ⟨h.size, fun k _ _ hk _ => (h.block k (Array.getElem?_eq_some_iff.1 hk).1).trans hk⟩
section
variable {F : Fence} {n : Nat} {P : Program}
def SeqM {α : Type} (F : Fence) (n : Nat) (P : Program) (g : Nat) (lb : Array Value) (encs : α → Array Value) (M₀ : Nat → Prop) (S Sp : List α → Prop) (R : List α → α → Prop) (w : World) : Prop :=
 ∀ (l : Nat) (J Jx : (Nat → Prop) → List α → World → Prop) (W : World), KeptM M₀ w W → StandsM J → StandsM Jx →
  (∀ M pre x W1, J M pre W1 → R pre x → YieldAt F (n - 1) P l (encs x) W1 fun e W' =>
    (e = .returned (.bool true) ∧ J M (pre ++ [x]) W' ∧ KeptM M W1 W') ∨ (e = .returned (.bool false) ∧ Jx M (pre ++ [x]) W')) →
  J M₀ [] W →
  CallsIn F n P g (#[.func (.yield l) #[] #[]] ++ lb) W fun e W' => (∃ v, e = .returned v) ∧ ((∃ M xs, S xs ∧ J M xs W') ∨ (∃ M pre, Sp pre ∧ Jx M pre W'))
theorem SeqM.later {α : Type} {F : Fence} {n : Nat} {P : Program} {g : Nat} {lb : Array Value} {encs : α → Array Value} {M₀ : Nat → Prop} {S Sp : List α → Prop} {R : List α → α → Prop} {w w' : World} (h : SeqM F n P g lb encs M₀ S Sp R w) (hk : KeptM M₀ w w') : SeqM F n P g lb encs M₀ S Sp R w' :=
 fun l J Jx W hW => h l J Jx W (hk.trans hW)
def roundPost {α : Type} (B : Nat) (M : Nat → Prop) (I : (Nat → Prop) → List α → World → Prop) (Ix : Code → (Nat → Prop) → List α → World → Prop) (xs : List α) (W : World) : Exit → Act → World → Prop
 | .normal, _, W' => KeepsFrom B W W' ∧ KeptM M W W' ∧ I M xs W'
 | .ret, _, W' => KeepsFrom B W W' ∧ Ix .ret M xs W'
 | .exit id, _, W' => KeepsFrom B W W' ∧ Ix (.exit id) M xs W'
 | .goto t, _, W' => KeepsFrom B W W' ∧ Ix (.goto t) M xs W'
 | .panic _, _, _ => False
 | .outgrown, _, _ => False
theorem keptM_putObj {M : Nat → Prop} {W : World} {l : Nat} (o : Obj) (h : ¬ M l) : KeptM M W (W.putObj l o) :=
 ⟨(grownBy_putObj' W l o).size, fun g h1 h2 => (grownBy_putObj' W l o).block g h1 (fun e => h (by cases e; exact h2))⟩
theorem wpIn_rangeM {α : Type} {g : Operand} {ps : Array Tmp} {assign body : Code} {Q : Exit → Act → World → Prop} {a : Act} {w : World}
 (hro : F.round = none) (h1 : 1 ≤ n) {gf : Nat} {lb : Array Value} (hg : a.eval g = .func (.func gf) #[] lb) (hFg : F.fn gf) (eg : ∀ args w, (callFunc gf args).run P w = .ok (.enter gf args) w)
 {encs : α → Array Value} {M₀ : Nat → Prop} {S Sp : List α → Prop} {R : List α → α → Prop} (hseq : SeqM F (n - 1) P gf lb encs M₀ S Sp R w) (hM₀ : ∀ k, M₀ k → k < w.heap.size) (hps : ∀ x, (encs x).size = ps.size)
 (I : (Nat → Prop) → List α → World → Prop) (Ix : Code → (Nat → Prop) → List α → World → Prop) (hI : StandsB w.heap.size I) (hIx : ∀ c, StandsB w.heap.size (Ix c)) (h0 : I M₀ [] w) (Ax : α → Act → World → Prop) (hAx : ∀ x a', OwnFrom w.heap.size (fun (_ : Unit) W => Ax x a' W))
 (hassign : ∀ (l : Nat) (M : Nat → Prop) (pre : List α) (x : α) (W : World) (K : Act → World → Prop), I M pre W → (∀ a' W', KeepsFrom w.heap.size W W' → KeptM M W W' → I M pre W' → Ax x a' W' → K a' W') →
   assign.wpIn (F.inRound l) (n - 1 - 1) P (Exit.then K (fun _ _ _ => False)) { tmps := (ps.zip (encs x)).foldl (fun t (p, v) => t.setIfInBounds p v) a.tmps, defers := [] } W)
 (hbody : ∀ (l : Nat) (M : Nat → Prop) (pre : List α) (x : α) (a' : Act) (W : World), I M pre W → Ax x a' W → R pre x → body.wpIn (F.inRound l) (n - 1 - 1) P (roundPost w.heap.size M I Ix (pre ++ [x]) W) a' W)
 (hdone : ∀ (D : Nat) (M : Nat → Prop) (xs : List α) (W : World), w.heap.size ≤ D → S xs → I M xs W → W.heap[D]? = some (.deferred (some [])) → Q .normal { a with defers := { target := .collected D, args := #[] } :: a.defers } W)
 (hstop : ∀ (D : Nat) (c : Code) (M : Nat → Prop) (pre : List α) (W : World), w.heap.size ≤ D → Sp pre → Ix c M pre W → W.heap[D]? = some (.deferred (some [])) → c.wpIn F n P Q { a with defers := { target := .collected D, args := #[] } :: a.defers } W) :
 (Code.rangeFunc g ps assign body).wpIn F n P Q a w := by
 obtain ⟨D, hD⟩ : ∃ D, D = w.heap.size := ⟨_, rfl⟩
 refine wpIn_rangeFunc ?_
 intro fn hfn
 rw [hro]
 obtain ⟨rec, hrec⟩ : ∃ rec : LoopState → Option Code → Loop, rec = fun st pe => { state := st, pending := pe, fn, tmps := a.tmps, params := ps, assign, body, defers := D } := ⟨_, rfl⟩
 obtain ⟨V, hV⟩ : ∃ V, (w.alloc (.deferred (some []))).alloc (.loop (rec .ready none)) = V := ⟨_, rfl⟩
 have vL : V.heap[D + 1]? = some (.loop (rec .ready none)) := by
  rw [← hV, hD]; have := World.alloc_heap_new (w.alloc (.deferred (some []))) (.loop (rec .ready none)); rwa [World.size_alloc] at this
 have vD : V.heap[D]? = some (.deferred (some [])) := by
  rw [← hV, hD]; exact (Below.heap_alloc _ _ _ (by simp)).trans (World.alloc_heap_new w _)
 have vI : I M₀ [] V := by rw [← hV]; exact hI.alloc _ (hI.alloc _ h0)
 have vb : Below w.heap.size w V := by rw [← hV]; exact ((Below.refl _ w).alloc (Nat.le_refl _) _).alloc (by simp) _
 refine ⟨D + 1, [{ target := .collected D, args := #[] }], V, { target := .fn (.func gf) lb, args := #[.func (.yield (D + 1)) #[] #[]] }, V, gf, #[.func (.yield (D + 1)) #[] #[]] ++ lb, V, ?_, ?_, ?_, ?_, fun _ => h1, ?_⟩
 · rw [← hV, hrec, hD]; exact run_enterLoop_outer _ _ _ _ _
 · simp only [resolve, hg]
   simp [go_sem]
 · intro f' hf'; simp [Target.leads] at hf'; subst hf'; exact hFg
 · simp [invoke, go_sem, eg]
 rw [← hD] at hI hIx hAx hassign hbody hdone hstop hM₀
 -- the two blocks of the loop's own: its record and what is deferred; neither is the iterator's
 let Two : Option Code → LoopState → (Nat → Prop) → World → Prop := fun c st M W => W.heap[D + 1]? = some (.loop (rec st c)) ∧ W.heap[D]? = some (.deferred (some [])) ∧ ¬ M D ∧ ¬ M (D + 1)
 have two_moves : ∀ c st M M' W W', Two c st M W → Moves M W W' → (∀ k, M' k → M k ∨ W.heap.size ≤ k ∧ k < W'.heap.size) → Two c st M' W' := fun c st M M' W W' ⟨t1, t2, t3, t4⟩ hm hM' => by
  have s1 := (Array.getElem?_eq_some_iff.1 t1).1
  have s2 := (Array.getElem?_eq_some_iff.1 t2).1
  refine ⟨(hm.block _ s1 t4).trans t1, (hm.block _ s2 t3).trans t2, fun h => ?_, fun h => ?_⟩ <;> rcases hM' _ h with h | h
  · exact t3 h
  · omega
  · exact t4 h
  · omega
 refine (hseq (D + 1) (fun M pre W => I M pre W ∧ Two none .ready M W) (fun M pre W => ∃ c, Ix c M pre W ∧ Two (some c) .done M W) V (.below vb)
  (fun M M' s W W' ⟨j1, j2⟩ hm hM' => ⟨hI.moves M M' s W W' j1 hm hM', two_moves _ _ M M' W W' j2 hm hM'⟩)
  (fun M M' s W W' ⟨c, j1, j2⟩ hm hM' => ⟨c, (hIx c).moves M M' s W W' j1 hm hM', two_moves _ _ M M' W W' j2 hm hM'⟩)
  ?_ ⟨vI, vL, vD, fun h => (Nat.lt_irrefl _ (hM₀ _ h)), fun h => by have := hM₀ _ h; omega⟩).mono ?_
 · rintro M pre x W ⟨hi, tl, td, m1, m2⟩ hlen
   have hy := run_yield (P := P) (args := encs x) tl (by rw [hrec]; exact hps x)
   rw [hrec] at hy
   refine ⟨fn, _, assign, body, hy, roundIn_of_wpIn hfn (hassign _ M pre x W _ hi ?_)⟩
   clear hy
   intro a' Wa ka pa ia ax
   have al := ka.same _ _ (by omega) tl rfl
   have ad := ka.same _ _ (Nat.le_refl _) td rfl
   have asz := (Array.getElem?_eq_some_iff.1 al).1
   refine ⟨_, run_beginRound al (by rw [hrec]), ?_⟩
   obtain ⟨Wb, hWb⟩ : ∃ Wb, Wa.putObj (D + 1) (.loop { rec .ready none with state := .busy }) = Wb := ⟨_, rfl⟩
   have bl : Wb.heap[D + 1]? = some (.loop { rec .ready none with state := .busy }) := by rw [← hWb]; exact World.putObj_heap_same asz
   have bd : Wb.heap[D]? = some (.deferred (some [])) := by rw [← hWb]; exact (World.putObj_heap_other (by omega)).trans ad
   have bk : KeptM M Wa Wb := by rw [← hWb]; exact keptM_putObj _ m2
   have bi : I M pre Wb := by rw [← hWb]; exact hI.putObj _ ia (by omega) al rfl
   have bx : Ax x a' Wb := by rw [← hWb]; exact (hAx x a').putObj (s := ()) _ ax (by omega) al rfl
   rw [hWb]
   refine wpIn_mono (hbody _ M pre x a' Wb bi bx hlen) ?_
   have fin : ∀ (j : Option Code) (W3 : World), KeepsFrom D Wb W3 →
    ∃ W4, (Instr.endRound (D + 1) j).run P W3 = .ok (.bool j.isNone) W4 ∧ Two j (if j.isNone then .ready else .done) M W4 ∧ KeptM M W3 W4 ∧ W4 = W3.putObj (D + 1) (.loop (rec (if j.isNone then .ready else .done) j)) ∧ W3.heap[D + 1]? = some (.loop { rec .ready none with state := .busy }) := fun j W3 k3 => by
    have l3 := k3.same _ _ (by omega) bl rfl
    have d3 := k3.same _ _ (Nat.le_refl _) bd rfl
    refine ⟨_, ?_, ⟨World.putObj_heap_same (Array.getElem?_eq_some_iff.1 l3).1, (World.putObj_heap_other (by omega)).trans d3, m1, m2⟩, keptM_putObj _ m2, rfl, l3⟩
    have := run_endRound (P := P) j l3
    rw [hrec] at this ⊢
    exact this
   rintro e a3 W3 hp
   cases e with
   | normal =>
     obtain ⟨k3, p3, i3⟩ := hp
     obtain ⟨W4, hr, h2, h3, h4, l3⟩ := fin none W3 k3
     exact ⟨_, _, hr, .inl ⟨rfl, ⟨by rw [h4]; exact hI.putObj _ i3 (by omega) l3 rfl, h2⟩, ((pa.trans bk).trans p3).trans h3⟩⟩
   | ret =>
     obtain ⟨k3, i3⟩ := hp
     obtain ⟨W4, hr, h2, _, h4, l3⟩ := fin (some .ret) W3 k3
     exact ⟨_, _, hr, .inr ⟨rfl, .ret, by rw [h4]; exact (hIx _).putObj _ i3 (by omega) l3 rfl, h2⟩⟩
   | exit id =>
     obtain ⟨k3, i3⟩ := hp
     obtain ⟨W4, hr, h2, _, h4, l3⟩ := fin (some (.exit id)) W3 k3
     exact ⟨_, _, hr, .inr ⟨rfl, .exit id, by rw [h4]; exact (hIx _).putObj _ i3 (by omega) l3 rfl, h2⟩⟩
   | goto t =>
     obtain ⟨k3, i3⟩ := hp
     obtain ⟨W4, hr, h2, _, h4, l3⟩ := fin (some (.goto t)) W3 k3
     exact ⟨_, _, hr, .inr ⟨rfl, .goto t, by rw [h4]; exact (hIx _).putObj _ i3 (by omega) l3 rfl, h2⟩⟩
   | panic ch => exact hp.elim
   | outgrown => exact hp.elim
 · rintro e W2 ⟨⟨v, rfl⟩, (⟨M, xs, hS, hi, tl, td, _, _⟩ | ⟨M, pre, hSp, c, hi, tl, td, _, _⟩)⟩
   · exact ⟨none, _, by have := run_endLoop (P := P) tl (by rw [hrec]; simp); rw [hrec] at this; exact this, hdone _ M xs _ (Nat.le_refl _) hS (hI.putObj _ hi (by omega) tl rfl) ((World.putObj_heap_other (by omega)).trans td)⟩
   · exact ⟨some c, _, by have := run_endLoop (P := P) tl (by rw [hrec]; simp); rw [hrec] at this; exact this, hstop _ c M pre _ (Nat.le_refl _) hSp ((hIx c).putObj _ hi (by omega) tl rfl) ((World.putObj_heap_other (by omega)).trans td)⟩
end
end Go.Proofs.YtconcnndghmdfaaGreatDoor
namespace Go.Proofs.YtconcnndghmdfaaGreatDoor
open Go Go.RowKit Go.MapKept Go.WideElems Go.ChangeMaps
open Go.WideMaps (KeyLaw)
def intV (n : Nat) : Value := .int .i64 (n : Int)
def kV (f : Nat → UInt8) : Value := .agg (bL 3 f).toArray
theorem own_of_block {w w' : World} {base e s : Nat} {v : Value} {n : Nat} {xs : List Value} (h : w.ownsRow base e s v n xs) (hb : ∀ g, v.ownBlock = some g → w'.heap[g]? = w.heap[g]?) : w'.ownsRow base e s v n xs := by
 obtain ⟨h1, h | ⟨g, cap, cur, rfl, h2, h3, h4⟩⟩ := h
 · exact ⟨h1, .inl h⟩
 · exact ⟨h1, .inr ⟨g, cap, cur, rfl, h2, (hb g rfl).trans h3, h4⟩⟩
theorem setBlock_other (w : World) (b k : Nat) (o : Obj) (h : k ≠ b) : (setBlock w b o).heap[k]? = w.heap[k]? := by
 show (w.heap.setIfInBounds b o)[k]? = _
 rw [Array.getElem?_setIfInBounds_ne (fun e => h e.symm)]
theorem setBlock_same (w : World) (b : Nat) (o : Obj) (h : b < w.heap.size) : (setBlock w b o).heap[b]? = some o := by
 show (w.heap.setIfInBounds b o)[b]? = _
 rw [Array.getElem?_setIfInBounds_self_of_lt h]
theorem setBlock_size (w : World) (b : Nat) (o : Obj) : (setBlock w b o).heap.size = w.heap.size := by
 show (w.heap.setIfInBounds b o).size = _
 simp
theorem mem_set_cases {α : Type} {l : List α} {j : Nat} {a x : α} (h : x ∈ l.set j a) : x = a ∨ ∃ i, i ≠ j ∧ l[i]? = some x := by
 obtain ⟨i, hi⟩ := List.mem_iff_getElem?.1 h
 by_cases e : j = i
 · subst e
   rw [List.getElem?_set_self' ] at hi
   cases hl : l[j]? with
   | none => rw [hl] at hi; cases hi
   | some y => rw [hl] at hi; exact .inl (Option.some.inj hi).symm
 · rw [List.getElem?_set_ne e] at hi
   exact .inr ⟨i, fun h => e h.symm, hi⟩
structure PlM (w : World) (base mb e : Nat) (L : Value → List Nat) (No : Nat → Prop) (es : Array MapEntry) (clock : Nat) : Prop where
 blk : w.heap[mb]? = some (.map es clock)
 st : Stamped es clock
 keys : ∀ x ∈ es.toList, ∃ f, x.key = kV f
 own : ∀ x ∈ es.toList, w.ownsRow base e 1 x.val (L x.key).length ((L x.key).map intV)
 off : ∀ x ∈ es.toList, ∀ g, x.val.ownBlock = some g → ¬ No g
 all : ∀ v, L v ≠ [] → ∃ x ∈ es.toList, x.key = v
 sep : ∀ x ∈ es.toList, ∀ y ∈ es.toList, x.key ≠ y.key → ∀ g, x.val.ownBlock = some g → y.val.ownBlock ≠ some g
 hb : mb < base
theorem PlM.made {w : World} {base mb e : Nat} (h : w.heap[mb]? = some (.map #[] 0)) (hb : mb < base) : PlM w base mb e (fun _ => []) (fun _ => False) #[] 0 :=
 ⟨h, ⟨by simp, by simp, by simp⟩, by simp, by simp, by simp, fun v hv => absurd rfl hv, by simp, hb⟩
theorem PlM.kept {w w' : World} {base mb e : Nat} {L : Value → List Nat} {No : Nat → Prop} {es : Array MapEntry} {clock : Nat} (h : PlM w base mb e L No es clock)
 (hm : w'.heap[mb]? = w.heap[mb]?) (hr : ∀ g, base ≤ g → g < w.heap.size → ¬ No g → w'.heap[g]? = w.heap[g]?) : PlM w' base mb e L No es clock :=
 ⟨hm.trans h.blk, h.st, h.keys, fun x hx => own_of_block (h.own x hx) (fun g hg => hr g ((h.own x hx).lt g hg).1 ((h.own x hx).lt g hg).2 (h.off x hx g hg)), h.off, h.all, h.sep, h.hb⟩
theorem PlM.reno {w : World} {base mb e : Nat} {L : Value → List Nat} {No No' : Nat → Prop} {es : Array MapEntry} {clock : Nat} (h : PlM w base mb e L No es clock)
 (hn : ∀ g, No' g → No g ∨ w.heap.size ≤ g) : PlM w base mb e L No' es clock :=
 ⟨h.blk, h.st, h.keys, h.own, fun x hx g hg e => by
  rcases hn g e with h1 | h1
  · exact h.off x hx g hg h1
  · have := ((h.own x hx).lt g hg).2; omega, h.all, h.sep, h.hb⟩
theorem PlM.lt {w : World} {base mb e : Nat} {L : Value → List Nat} {No : Nat → Prop} {es : Array MapEntry} {clock : Nat} (h : PlM w base mb e L No es clock) : mb < w.heap.size := by
 rcases Nat.lt_or_ge mb w.heap.size with hlt | hge
 · exact hlt
 · have := h.blk; rw [Array.getElem?_eq_none hge] at this; cases this
section
variable {P : Program} {t k e : TypeId}
theorem PlM.lookup (K : KeyLaw P k) (hk : ∀ f, ∃ l, keyOf P k (kV f) = some l) {et : TypeId} (ht : P.underlying t = some (.map k et)) (hz : ∀ u : World, (zeroValue et).run P u = .ok (.slice none 0 0) u) {w : World} {base mb : Nat} {L : Value → List Nat} {No : Nat → Prop} {es : Array MapEntry} {clock : Nat} (h : PlM w base mb e L No es clock) (f : Nat → UInt8) :
 ∃ v, (∀ w2 : World, w2.heap[mb]? = w.heap[mb]? → (Instr.lookup t (.map (some mb)) (kV f) false).run P w2 = .ok v w2) ∧ w.ownsRow base e 1 v (L (kV f)).length ((L (kV f)).map intV) := by
 obtain ⟨l, hl⟩ := hk f
 have hks : ∀ x ∈ es.toList, ∃ l, keyOf P k x.key = some l := fun x hx => by
  obtain ⟨g, hg⟩ := h.keys x hx
  rw [hg]; exact hk g
 have hfd := fun w2 => K.find w2 hl es.toList hks
 by_cases hex : ∃ x ∈ es.toList, x.key = kV f
 · obtain ⟨x, hx, hxk⟩ := hex
   refine ⟨x.val, fun w2 hw2 => ?_, by rw [← hxk]; exact h.own x hx⟩
   rcases hfd w2 with ⟨_, h2⟩ | ⟨j, e0, h1, h2, h3⟩
   · exact absurd hxk (h2 x hx)
   · have hxe : e0 = x := by
      obtain ⟨i, hi⟩ := List.mem_iff_getElem?.1 hx
      have hij : i = j := by
       refine (List.getElem?_inj (l := es.toList.map (·.key)) (by rw [List.length_map]; exact (List.getElem?_eq_some_iff.1 hi).1) h.st.2.2).1 ?_
       rw [List.getElem?_map, List.getElem?_map, hi, h2]
       show some x.key = some e0.key
       rw [hxk, h3]
      subst hij
      rw [hi] at h2
      exact (Option.some.inj h2).symm
     subst hxe
     simp [Instr.lookup, run_underlying ht, MapKept.run_getObj_map (hw2.trans h.blk), K.check w2 es.isEmpty hl, h1, Result.andThen]
 · have hL : L (kV f) = [] := by
    rcases List.eq_nil_or_concat (L (kV f)) with h0 | ⟨_, _, h0⟩
    · exact h0
    · exact absurd (h.all (kV f) (by rw [h0]; simp)) (fun ⟨x, hx, hxk⟩ => hex ⟨x, hx, hxk⟩)
   refine ⟨.slice none 0 0, fun w2 hw2 => ?_, by rw [hL]; exact World.ownsRow_nil w _ _ _⟩
   rcases hfd w2 with ⟨h1, _⟩ | ⟨j, e0, _, h2, h3⟩
   · simp [Instr.lookup, run_underlying ht, MapKept.run_getObj_map (hw2.trans h.blk), K.check w2 es.isEmpty hl, h1, hz, Result.andThen]
   · exact absurd ⟨e0, List.mem_of_getElem? h2, h3⟩ hex
open Classical in
theorem PlM.entry (K : KeyLaw P k) (hk : ∀ f, ∃ l, keyOf P k (kV f) = some l) {et : TypeId} (ht : P.underlying t = some (.map k et)) (hz : ∀ u : World, (zeroValue et).run P u = .ok (.slice none 0 0) u) {w : World} {base mb : Nat} {L : Value → List Nat} {No : Nat → Prop} {es : Array MapEntry} {clock : Nat} (h : PlM w base mb e L No es clock) (f : Nat → UInt8) (hNo : ∀ g, No g → g < w.heap.size) :
 ∃ (v : Value) (st : Nat) (es1 : Array MapEntry) (clock1 : Nat), (∀ w2 : World, w2.heap[mb]? = w.heap[mb]? → (Instr.mapEntry t (.map (some mb)) (kV f)).run P w2 = .ok (.tuple #[v, goInt st]) (setBlock w2 mb (.map es1 clock1))) ∧
  w.ownsRow base e 1 v (L (kV f)).length ((L (kV f)).map intV) ∧ (∀ g, v.ownBlock = some g → ¬ No g) ∧
  ∀ (w3 : World) (v' : Value) (x : Nat), w3.heap[mb]? = some (.map es1 clock1) → (∀ g, base ≤ g → g < w.heap.size → v.ownBlock ≠ some g → ¬ No g → w3.heap[g]? = w.heap[g]?) →
   w3.ownsRow base e 1 v' ((L (kV f)).length + 1) ((L (kV f)).map intV ++ [intV x]) → (v'.ownBlock = v.ownBlock ∨ ∃ g, v'.ownBlock = some g ∧ w.heap.size ≤ g) →
   ∃ es' clock', (Instr.entryStore t (.map (some mb)) (goInt st) v').run P w3 = .ok () (setBlock w3 mb (.map es' clock')) ∧
    PlM (setBlock w3 mb (.map es' clock')) base mb e (fun u => if u = kV f then L u ++ [x] else L u) No es' clock' := by
 obtain ⟨l, hl⟩ := hk f
 have hks : ∀ x ∈ es.toList, ∃ l, keyOf P k x.key = some l := fun x hx => by
  obtain ⟨g, hg⟩ := h.keys x hx
  rw [hg]; exact hk g
 have hfd := fun w2 => K.find w2 hl es.toList hks
 obtain ⟨s1, s2, s3⟩ := h.st
 have hmb := h.hb
 by_cases hex : ∃ x ∈ es.toList, x.key = kV f
 · -- the key is there
   obtain ⟨x0, hx0, hxk⟩ := hex
   obtain ⟨j, hj⟩ := List.mem_iff_getElem?.1 hx0
   have hjl := (List.getElem?_eq_some_iff.1 hj).1
   have hja : es[j]? = some x0 := by simpa using hj
   have hkj : ∀ i y, es.toList[i]? = some y → i ≠ j → y.key ≠ kV f := fun i y hy hij hyk => by
    refine hij ((List.getElem?_inj (l := es.toList.map (·.key)) (by rw [List.length_map]; exact (List.getElem?_eq_some_iff.1 hy).1) s3).1 ?_)
    rw [List.getElem?_map, List.getElem?_map, hy, hj]
    show some y.key = some x0.key
    rw [hyk, hxk]
   have hfj : ∀ w2 : World, (Instr.findKey k (kV f) es.toList).run P w2 = .ok (some (j, x0.val)) w2 := fun w2 => by
    rcases hfd w2 with ⟨_, h2⟩ | ⟨i, e0, h1, h2, h3⟩
    · exact absurd hxk (h2 x0 hx0)
    · by_cases e : i = j
      · subst e
        rw [hj] at h2
        rw [← Option.some.inj h2] at h1
        exact h1
      · exact absurd h3 (hkj i e0 h2 e)
   have hsame : es.modify j (fun e => { e with key := kV f }) = es := by
    apply Array.ext'
    rw [Array.toList_modify, modify_eq_set _ _ _ _ hj]
    have : ({ x0 with key := kV f } : MapEntry) = x0 := by rw [← hxk]
    rw [this]
    exact set_self _ _ _ hj
   refine ⟨x0.val, x0.born, es, clock, fun w2 hw2 => ?_, by rw [← hxk]; exact h.own x0 hx0, h.off x0 hx0, fun w3 v' x hw3 hrows hown hlies => ?_⟩
   · simp [Instr.mapEntry, run_underlying ht, MapKept.run_getObj_map (hw2.trans h.blk), K.check w2 false hl, hfj w2, hja, hxk, K.stays w2 hl, hsame, MapKept.run_setObj_map _ (hw2.trans h.blk), Result.andThen, setBlock]
   · have hidx : es.findIdx? (fun e => ((e.born : Nat) : Int) == ((x0.born : Nat) : Int)) = some j := by
      rw [findIdx_arr]
      exact findIdx_born s2 hj
     have hlt3 : mb < w3.heap.size := by
      rcases Nat.lt_or_ge mb w3.heap.size with hlt | hge
      · exact hlt
      · rw [Array.getElem?_eq_none hge] at hw3; cases hw3
     obtain ⟨es', hes'⟩ : ∃ es', es' = es.modify j (fun e => { e with val := v' }) := ⟨_, rfl⟩
     have hel : es'.toList = es.toList.set j { x0 with val := v' } := by rw [hes', Array.toList_modify, modify_eq_set _ _ _ _ hj]
     refine ⟨es', clock, ?_, ?_⟩
     · rw [hes']
       simp [Instr.entryStore, MapKept.run_getObj_map hw3, asInt, asIntOf, goInt, hidx, MapKept.run_setObj_map _ hw3, Result.andThen, setBlock]
     · have hmem : ∀ y ∈ es'.toList, y = { x0 with val := v' } ∨ (y ∈ es.toList ∧ y.key ≠ kV f) := fun y hy => by
        rw [hel] at hy
        rcases mem_set_cases hy with h1 | ⟨i, hij, hi⟩
        · exact .inl h1
        · exact .inr ⟨List.mem_of_getElem? hi, hkj i y hi hij⟩
       have hkeep : ∀ y ∈ es.toList, y.key ≠ kV f → ∀ g, y.val.ownBlock = some g → base ≤ g ∧ g < w.heap.size ∧ w3.heap[g]? = w.heap[g]? := fun y hy hyk g hg => by
        have hlt := (h.own y hy).lt g hg
        refine ⟨hlt.1, hlt.2, hrows g hlt.1 hlt.2 (fun e => ?_) (h.off y hy g hg)⟩
        exact h.sep y hy x0 hx0 (by rw [hxk]; exact hyk) g hg e
       have hvne : ∀ y ∈ es.toList, y.key ≠ kV f → ∀ g, y.val.ownBlock = some g → v'.ownBlock ≠ some g := fun y hy hyk g hg e => by
        rcases hlies with h1 | ⟨g', h1, h2⟩
        · exact h.sep y hy x0 hx0 (by rw [hxk]; exact hyk) g hg (by rw [← h1]; exact e)
        · have := (hkeep y hy hyk g hg).2.1
          rw [h1] at e
          have := Option.some.inj e
          omega
       refine ⟨setBlock_same _ _ _ hlt3, ⟨?_, ?_, ?_⟩, ?_, ?_, ?_, ?_, ?_, hmb⟩
       · intro y hy
         rcases hmem y hy with rfl | ⟨h1, _⟩
         · exact s1 x0 hx0
         · exact s1 y h1
       · rw [hel, List.map_set]
         show ((es.toList.map (·.born)).set j x0.born).Nodup
         rw [set_self _ _ _ (by rw [List.getElem?_map, hj]; rfl)]
         exact s2
       · rw [hel, List.map_set]
         show ((es.toList.map (·.key)).set j x0.key).Nodup
         rw [set_self _ _ _ (by rw [List.getElem?_map, hj]; rfl)]
         exact s3
       · intro y hy
         rcases hmem y hy with rfl | ⟨h1, _⟩
         · exact h.keys x0 hx0
         · exact h.keys y h1
       · intro y hy
         rcases hmem y hy with rfl | ⟨h1, h2⟩
         · show World.ownsRow _ base e 1 v' (if x0.key = kV f then L x0.key ++ [x] else L x0.key).length ((if x0.key = kV f then L x0.key ++ [x] else L x0.key).map intV)
           rw [if_pos hxk, hxk, List.length_append, List.map_append]
           exact own_of_block hown (fun g hg => setBlock_other _ _ _ _ (by have := (hown.lt g hg).1; omega))
         · show World.ownsRow _ base e 1 y.val (if y.key = kV f then L y.key ++ [x] else L y.key).length ((if y.key = kV f then L y.key ++ [x] else L y.key).map intV)
           rw [if_neg h2]
           refine own_of_block (h.own y h1) (fun g hg => ?_)
           obtain ⟨a1, a2, a3⟩ := hkeep y h1 h2 g hg
           rw [setBlock_other _ _ _ _ (by omega)]
           exact a3
       · intro y hy g hg
         rcases hmem y hy with rfl | ⟨h1, _⟩
         · have hg' : v'.ownBlock = some g := hg
           rcases hlies with h2 | ⟨g', h2, h3⟩
           · exact h.off x0 hx0 g (by rw [← h2]; exact hg')
           · intro e
             rw [hg'] at h2
             have e1 : g = g' := Option.some.inj h2
             have := hNo g e
             omega
         · exact h.off y h1 g hg
       · intro u hu
         by_cases e : u = kV f
         · exact ⟨{ x0 with val := v' }, by rw [hel]; exact List.mem_iff_getElem?.2 ⟨j, by rw [List.getElem?_set_self (by simpa using hjl)]⟩, by rw [e]; exact hxk⟩
         · obtain ⟨y, hy, hyk⟩ := h.all u (by simpa [if_neg e] using hu)
           obtain ⟨i, hi⟩ := List.mem_iff_getElem?.1 hy
           refine ⟨y, ?_, hyk⟩
           rw [hel]
           refine List.mem_iff_getElem?.2 ⟨i, ?_⟩
           rw [List.getElem?_set_ne (fun e2 => by subst e2; rw [hj] at hi; rw [← Option.some.inj hi] at hyk; exact e (hyk.symm.trans hxk))]
           exact hi
       · intro y hy z hz' hyz g hg
         rcases hmem y hy with rfl | ⟨h1, h2⟩
         · rcases hmem z hz' with rfl | ⟨h3, h4⟩
           · exact absurd rfl hyz
           · intro e2
             exact hvne z h3 h4 g e2 hg
         · rcases hmem z hz' with rfl | ⟨h3, h4⟩
           · exact hvne y h1 h2 g hg
           · exact h.sep y h1 z h3 hyz g hg
 · -- a key that is new
   have hne : ∀ y ∈ es.toList, y.key ≠ kV f := fun y hy e => hex ⟨y, hy, e⟩
   have hL : L (kV f) = [] := by
    rcases List.eq_nil_or_concat (L (kV f)) with h0 | ⟨_, _, h0⟩
    · exact h0
    · exact absurd (h.all (kV f) (by rw [h0]; simp)) (fun ⟨x, hx, hxk⟩ => hex ⟨x, hx, hxk⟩)
   have hfj : ∀ w2 : World, (Instr.findKey k (kV f) es.toList).run P w2 = .ok none w2 := fun w2 => by
    rcases hfd w2 with ⟨h1, _⟩ | ⟨i, e0, _, h2, h3⟩
    · exact h1
    · exact absurd h3 (hne e0 (List.mem_of_getElem? h2))
   refine ⟨.slice none 0 0, clock, es.push ⟨kV f, .slice none 0 0, clock⟩, clock + 1, fun w2 hw2 => ?_, by rw [hL]; exact World.ownsRow_nil w _ _ _, by intro g hg; simp [Value.ownBlock] at hg, fun w3 v' x hw3 hrows hown hlies => ?_⟩
   · simp [Instr.mapEntry, run_underlying ht, MapKept.run_getObj_map (hw2.trans h.blk), K.check w2 false hl, hfj w2, hz, MapKept.run_setObj_map _ (hw2.trans h.blk), Result.andThen, setBlock]
   · have hnod : ((es.push ⟨kV f, .slice none 0 0, clock⟩).toList.map (·.born)).Nodup := by
      simp only [Array.toList_push, List.map_append, List.map_cons, List.map_nil]
      refine List.nodup_append.2 ⟨s2, by simp, fun a ha c hc e1 => ?_⟩
      simp only [List.mem_singleton] at hc
      obtain ⟨x, hx, rfl⟩ := List.mem_map.1 ha
      have := s1 x hx
      omega
     have hidx : (es.push ⟨kV f, .slice none 0 0, clock⟩).findIdx? (fun e => ((e.born : Nat) : Int) == ((clock : Nat) : Int)) = some es.size := by
      rw [findIdx_arr]
      exact findIdx_born (j := es.size) (e0 := ⟨kV f, .slice none 0 0, clock⟩) hnod (by simp)
     have hmod : (es.push ⟨kV f, .slice none 0 0, clock⟩).modify es.size (fun e => { e with val := v' }) = es.push ⟨kV f, v', clock⟩ := by
      apply Array.ext'
      rw [Array.toList_modify, Array.toList_push, Array.toList_push, ← Array.length_toList, modify_last]
     have hlt3 : mb < w3.heap.size := by
      rcases Nat.lt_or_ge mb w3.heap.size with hlt | hge
      · exact hlt
      · rw [Array.getElem?_eq_none hge] at hw3; cases hw3
     have hnew : ∀ g, v'.ownBlock = some g → w.heap.size ≤ g := fun g hg => by
      rcases hlies with h1 | ⟨g', h1, h2⟩
      · rw [h1] at hg; simp [Value.ownBlock] at hg
      · rw [hg] at h1
        rw [Option.some.inj h1]; exact h2
     refine ⟨es.push ⟨kV f, v', clock⟩, clock + 1, ?_, ?_⟩
     · simp [Instr.entryStore, MapKept.run_getObj_map hw3, asInt, asIntOf, goInt, hidx, hmod, MapKept.run_setObj_map _ hw3, Result.andThen, setBlock]
     · have hmem : ∀ y ∈ (es.push ⟨kV f, v', clock⟩).toList, y = ⟨kV f, v', clock⟩ ∨ y ∈ es.toList := fun y hy => by
        rw [Array.toList_push] at hy
        rcases List.mem_append.1 hy with h1 | h1
        · exact .inr h1
        · exact .inl (by simpa using h1)
       have hkeep : ∀ y ∈ es.toList, ∀ g, y.val.ownBlock = some g → base ≤ g ∧ g < w.heap.size ∧ w3.heap[g]? = w.heap[g]? := fun y hy g hg => by
        have hlt := (h.own y hy).lt g hg
        exact ⟨hlt.1, hlt.2, hrows g hlt.1 hlt.2 (by simp [Value.ownBlock]) (h.off y hy g hg)⟩
       refine ⟨setBlock_same _ _ _ hlt3, ⟨?_, ?_, ?_⟩, ?_, ?_, ?_, ?_, ?_, hmb⟩
       · intro y hy
         rcases hmem y hy with rfl | h1
         · exact Nat.lt_succ_self _
         · exact Nat.lt_succ_of_lt (s1 y h1)
       · simpa using hnod
       · simp only [Array.toList_push, List.map_append, List.map_cons, List.map_nil]
         refine List.nodup_append.2 ⟨s3, by simp, fun a ha c hc e1 => ?_⟩
         simp only [List.mem_singleton] at hc
         obtain ⟨x, hx, rfl⟩ := List.mem_map.1 ha
         exact hne x hx (e1.trans hc)
       · intro y hy
         rcases hmem y hy with rfl | h1
         · exact ⟨f, rfl⟩
         · exact h.keys y h1
       · intro y hy
         rcases hmem y hy with rfl | h1
         · show World.ownsRow _ base e 1 v' (if kV f = kV f then L (kV f) ++ [x] else L (kV f)).length ((if kV f = kV f then L (kV f) ++ [x] else L (kV f)).map intV)
           rw [if_pos rfl, List.length_append, List.map_append]
           exact own_of_block hown (fun g hg => setBlock_other _ _ _ _ (by have := (hown.lt g hg).1; omega))
         · show World.ownsRow _ base e 1 y.val (if y.key = kV f then L y.key ++ [x] else L y.key).length ((if y.key = kV f then L y.key ++ [x] else L y.key).map intV)
           rw [if_neg (hne y h1)]
           refine own_of_block (h.own y h1) (fun g hg => ?_)
           obtain ⟨a1, a2, a3⟩ := hkeep y h1 g hg
           rw [setBlock_other _ _ _ _ (by omega)]
           exact a3
       · intro y hy g hg
         rcases hmem y hy with rfl | h1
         · intro e
           have := hNo g e
           have := hnew g hg
           omega
         · exact h.off y h1 g hg
       · intro u hu
         by_cases e : u = kV f
         · exact ⟨⟨kV f, v', clock⟩, by simp, e.symm⟩
         · obtain ⟨y, hy, hyk⟩ := h.all u (by simpa [if_neg e] using hu)
           exact ⟨y, by rw [Array.toList_push]; exact List.mem_append.2 (.inl hy), hyk⟩
       · intro y hy z hz' hyz g hg
         rcases hmem y hy with rfl | h1
         · rcases hmem z hz' with rfl | h3
           · exact absurd rfl hyz
           · intro e2
             have := (hkeep z h3 g e2).2.1
             have := hnew g hg
             omega
         · rcases hmem z hz' with rfl | h3
           · intro e2
             have := (hkeep y h1 g hg).2.1
             have := hnew g e2
             omega
           · exact h.sep y h1 z h3 hyz g hg
end
end Go.Proofs.YtconcnndghmdfaaGreatDoor

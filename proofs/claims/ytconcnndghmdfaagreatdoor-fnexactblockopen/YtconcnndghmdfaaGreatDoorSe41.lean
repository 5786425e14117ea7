/- Put together: BestF, HeldCall, RoundAny. -/
import Derived.Test.YtconcnndghmdfaaGreatDoorSe40
import Derived.Test.YtconcnndghmdfaaGreatDoorSe12
import Derived.RangeFuncCalls
import Derived.OrdersIn
import Derived.OwnWalkIn
namespace Go.Proofs.YtconcnndghmdfaaGreatDoor
open Go Go.RowKit
theorem kV_inj (f g : Nat → UInt8) : kV f = kV g ↔ ∀ j, j < 3 → f j = g j := by
  rw [kV_eq, kV_eq]
  constructor
  · intro h
    simp only [Value.agg.injEq, Array.mk.injEq, List.cons.injEq, Value.int.injEq, true_and, and_true] at h
    have h0 : f 0 = g 0 := UInt8.toNat_inj.1 (by omega)
    have h1 : f 1 = g 1 := UInt8.toNat_inj.1 (by omega)
    have h2 : f 2 = g 2 := UInt8.toNat_inj.1 (by omega)
    intro j hj
    match j, hj with
    | 0, _ => exact h0
    | 1, _ => exact h1
    | 2, _ => exact h2
  · intro h
    rw [h 0 (by omega), h 1 (by omega), h 2 (by omega)]
theorem alike_longG (T : Nat → UInt8) (N here p : Nat) (hp : p < here) : ∀ k n, here + n + k ≤ N → alikeG (fun j => T (here + j)) (fun j => T (p + j)) k n = longG T N here (here - p) k n
  | 0, _, _ => rfl
  | k + 1, n, h => by
    have e : here + n - (here - p) = p + n := by omega
    show (if T (p + n) = T (here + n) then _ else n) = if here + n < N ∧ T (here + n) = T (here + n - (here - p)) then _ else n
    rw [e]
    by_cases c : T (p + n) = T (here + n)
    · rw [if_pos c, if_pos ⟨by omega, c.symm⟩]
      exact alike_longG T N here p hp k (n + 1) (by omega)
    · rw [if_neg c, if_neg (fun h => c h.2.symm)]
theorem longG_past (T : Nat → UInt8) (N at_ far d : Nat) : ∀ k n, N ≤ at_ + n + k → longG T N at_ far (k + d) n = longG T N at_ far k n
  | 0, n, h => by
    cases d with
    | zero => rfl
    | succ d =>
      rw [Nat.zero_add]
      show (if at_ + n < N ∧ T (at_ + n) = T (at_ + n - far) then _ else n) = n
      rw [if_neg (fun h => by omega)]
  | k + 1, n, h => by
    rw [show k + 1 + d = (k + d) + 1 by omega]
    show (if at_ + n < N ∧ T (at_ + n) = T (at_ + n - far) then longG T N at_ far (k + d) (n + 1) else n) = if at_ + n < N ∧ T (at_ + n) = T (at_ + n - far) then longG T N at_ far k (n + 1) else n
    rw [longG_past T N at_ far d k (n + 1) (by omega)]
theorem alike_long (T : Nat → UInt8) (N here p M : Nat) (hp : p < here) (hh : here ≤ N) (hM : (M = 66 ∧ 66 ≤ N - here) ∨ (M = N - here ∧ N - here ≤ 66)) : alikeG (fun j => T (here + j)) (fun j => T (p + j)) M 0 = long T N here (here - p) := by
  rw [alike_longG T N here p hp M 0 (by omega)]
  unfold long
  rcases hM with ⟨h, _⟩ | ⟨h, h2⟩
  · rw [h]
  · have := longG_past T N here (here - p) (66 - M) M 0 (by omega)
    rw [show M + (66 - M) = 66 by omega] at this
    exact this.symm
theorem long_most (T : Nat → UInt8) (N at_ far : Nat) : long T N at_ far ≤ N - at_ := by
  rcases Nat.lt_or_ge (N - at_) (long T N at_ far) with h | h
  · have := (long_eq T N at_ far (N - at_) h).1; omega
  · exact h
theorem mem_plc (T : Nat → UInt8) (N here p : Nat) (h3 : here + 3 ≤ N) : p ∈ plc T N here (kV (opF T N here)) ↔ p < here ∧ 3 ≤ long T N here (here - p) := by
  unfold plc
  rw [List.mem_filter, List.mem_range, plcP]
  constructor
  · rintro ⟨hp, hN, he⟩
    refine ⟨hp, long_ge T N here (here - p) 3 (by omega) (fun j hj => ⟨by omega, ?_⟩)⟩
    have := (kV_inj _ _).1 he j hj
    unfold opF at this
    rw [if_pos (by omega), if_pos (by omega)] at this
    rw [show here + j - (here - p) = p + j by omega]
    exact this.symm
  · rintro ⟨hp, hl⟩
    refine ⟨hp, by omega, (kV_inj _ _).2 fun j hj => ?_⟩
    unfold opF
    rw [if_pos (by omega), if_pos (by omega)]
    have := (long_eq T N here (here - p) j (by omega)).2
    rw [show here + j - (here - p) = p + j by omega] at this
    exact this.symm
theorem plc_desc (T : Nat → UInt8) (N here : Nat) (v : Value) : (plc T N here v).reverse.Pairwise (fun a b => b < a) := by
  rw [List.pairwise_reverse]
  unfold plc
  exact List.pairwise_lt_range.filter _
theorem plc_lt (T : Nat → UInt8) (N here p : Nat) (v : Value) (h : p ∈ plc T N here v) : p < here := by
  unfold plc at h
  rw [List.mem_filter, List.mem_range] at h
  exact h.1
/-- How many bytes the best so far is of. -/
def sizeB (b : Nat × Nat) : Nat := if b.1 = 0 then 1 else b.1
/-- One place more. -/
def stepB (T : Nat → UInt8) (N here : Nat) (b : Nat × Nat) (p : Nat) : Nat × Nat := if sizeB b < long T N here (here - p) then (long T N here (here - p), here - p) else b
def foldB (T : Nat → UInt8) (N here : Nat) (l : List Nat) : Nat × Nat := l.foldl (stepB T N here) (0, 0)
theorem foldB_snoc (T : Nat → UInt8) (N here : Nat) (l : List Nat) (p : Nat) : foldB T N here (l ++ [p]) = stepB T N here (foldB T N here l) p := by simp [foldB]
def GoodB (T : Nat → UInt8) (N here : Nat) (b : Nat × Nat) (l : List Nat) : Prop :=
  (b = (0, 0) ∧ l = []) ∨ (3 ≤ b.1 ∧ b.1 = long T N here b.2 ∧ (∃ p ∈ l, p < here ∧ b.2 = here - p) ∧ (∀ p ∈ l, long T N here (here - p) ≤ b.1) ∧ ∀ p ∈ l, here - p < b.2 → long T N here (here - p) < b.1)
theorem good_step {T : Nat → UInt8} {N here : Nat} {b : Nat × Nat} {l : List Nat} (h : GoodB T N here b l) (p : Nat) (hp : p < here) (h3 : 3 ≤ long T N here (here - p)) (hd : ∀ q ∈ l, p < q) : GoodB T N here (stepB T N here b p) (l ++ [p]) := by
  right
  unfold stepB
  rcases h with ⟨rfl, rfl⟩ | ⟨g1, g2, ⟨q0, hq0, hq1, hq2⟩, g4, g5⟩
  · rw [if_pos (show sizeB (0, 0) < _ from by show 1 < _; omega)]
    refine ⟨h3, rfl, ⟨p, by simp, hp, rfl⟩, fun q hq => ?_, fun q hq hl => ?_⟩
    · simp at hq; subst hq; exact Nat.le_refl _
    · simp at hq; subst hq; exact absurd hl (Nat.lt_irrefl _)
  · have hsz : sizeB b = b.1 := if_neg (by omega)
    rw [hsz]
    by_cases c : b.1 < long T N here (here - p)
    · rw [if_pos c]
      refine ⟨by show 3 ≤ long T N here (here - p); omega, rfl, ⟨p, by simp, hp, rfl⟩, fun q hq => ?_, fun q hq hl => ?_⟩
      · rcases List.mem_append.1 hq with hq | hq
        · have := g4 q hq; show _ ≤ long T N here (here - p); omega
        · simp at hq; subst hq; exact Nat.le_refl _
      · rcases List.mem_append.1 hq with hq | hq
        · have := g4 q hq; show _ < long T N here (here - p); omega
        · simp at hq; subst hq; exact absurd hl (Nat.lt_irrefl _)
    · rw [if_neg c]
      refine ⟨g1, g2, ⟨q0, by simp [hq0], hq1, hq2⟩, fun q hq => ?_, fun q hq hl => ?_⟩
      · rcases List.mem_append.1 hq with hq | hq
        · exact g4 q hq
        · simp at hq; subst hq; omega
      · rcases List.mem_append.1 hq with hq | hq
        · exact g5 q hq hl
        · simp at hq; subst hq
          have := hd q0 hq0
          omega
theorem good_all {T : Nat → UInt8} {N here : Nat} : ∀ (l ini : List Nat) (b : Nat × Nat), GoodB T N here b ini → (∀ p ∈ l, p < here ∧ 3 ≤ long T N here (here - p)) → (ini ++ l).Pairwise (fun a b => b < a) → GoodB T N here (l.foldl (stepB T N here) b) (ini ++ l)
  | [], ini, b, h, _, _ => by rw [List.append_nil]; exact h
  | p :: l, ini, b, h, hl, hd => by
    have e : ini ++ p :: l = (ini ++ [p]) ++ l := by simp
    rw [e] at hd ⊢
    rw [List.foldl_cons]
    refine good_all l (ini ++ [p]) _ (good_step h p (hl p (by simp)).1 (hl p (by simp)).2 (fun q hq => ?_)) (fun q hq => hl q (by simp [hq])) hd
    have := (List.pairwise_append.1 (List.pairwise_append.1 hd).1).2.2 q hq p (by simp)
    exact this
theorem good_fold {T : Nat → UInt8} {N here : Nat} (l : List Nat) (hl : ∀ p ∈ l, p < here ∧ 3 ≤ long T N here (here - p)) (hd : l.Pairwise (fun a b => b < a)) : GoodB T N here (foldB T N here l) l := by
  have := good_all (T := T) (N := N) (here := here) l [] (0, 0) (.inl ⟨rfl, rfl⟩) hl (by simpa using hd)
  simpa [foldB] using this
/-- The token of the best so far. -/
def tokB (T : Nat → UInt8) (here : Nat) (b : Nat × Nat) : Tok := if b.1 = 0 then ⟨((T here).toNat : Int), 0, 0⟩ else ⟨0, (b.1 : Int), (b.2 : Int)⟩
theorem best_small (T : Nat → UInt8) (N here : Nat) (h : ∀ g, 1 ≤ g → g ≤ min 1024 here → long T N here g < 3) : (bestAt T N here).1 < 3 := by
  unfold bestAt
  rcases best_is T N here (min 1024 here) with e | ⟨h1, h2, _, h4, _⟩
  · rw [e]; decide
  · rw [h4]; exact h _ h1 h2
theorem tokAt_small (T : Nat → UInt8) (N here : Nat) (h : ¬ here + 3 ≤ N) : tokAt T N here = tokB T here (0, 0) := by
  unfold tokAt
  rw [if_pos (best_small T N here (fun g _ _ => by have := long_most T N here g; omega))]
  rfl
theorem best_final (T : Nat → UInt8) (N here M : Nat) (h3 : here + 3 ≤ N) (hM : (M = 66 ∧ 66 ≤ N - here) ∨ (M = N - here ∧ N - here ≤ 66)) (ini rest : List Nat) (hmem : ∀ p, p ∈ ini ++ rest ↔ p < here ∧ 3 ≤ long T N here (here - p)) (hd : (ini ++ rest).Pairwise (fun a b => b < a))
    (hf : ∀ p ∈ ini, here - p ≤ 1024) (hr : ∀ q ∈ rest, 1024 < here - q ∨ sizeB (foldB T N here ini) = M) : tokB T here (foldB T N here ini) = tokAt T N here := by
  have hg := good_fold ini (fun p hp => (hmem p).1 (by simp [hp])) (List.pairwise_append.1 hd).1
  have hlM : ∀ g, long T N here g ≤ M := fun g => by have := long_most T N here g; have := long_le T N here g; omega
  rcases hg with ⟨e, hi⟩ | ⟨g1, g2, ⟨q0, hq0, hq1, hq2⟩, g4, g5⟩
  · rw [e]
    rw [e] at hr
    unfold tokAt
    rw [if_pos (best_small T N here (fun g hg1 hg2 => ?_))]
    · rfl
    · rcases Nat.lt_or_ge (long T N here g) 3 with h | h
      · exact h
      · have hg' : here - (here - g) = g := by omega
        have hm := (hmem (here - g)).2 ⟨by omega, by rw [hg']; exact h⟩
        rw [hi, List.nil_append] at hm
        rcases hr _ hm with h1 | h1
        · omega
        · have : sizeB (0, 0) = 1 := rfl
          omega
  · obtain ⟨m, far, hb⟩ : ∃ m far, foldB T N here ini = (m, far) := ⟨_, _, rfl⟩
    rw [hb] at g1 g2 hq2 g4 g5 hr ⊢
    dsimp only at g1 g2 hq2 g4 g5
    have hcase : ∀ g, 1 ≤ g → g ≤ min 1024 here → 3 ≤ long T N here g → (here - g ∈ ini) ∨ ((here - g) ∈ rest ∧ m = M) := by
      intro g hg1 hg2 hl
      have hg' : here - (here - g) = g := by omega
      have hm := (hmem (here - g)).2 ⟨by omega, by rw [hg']; exact hl⟩
      rcases List.mem_append.1 hm with hm | hm
      · exact .inl hm
      · rcases hr _ hm with h1 | h1
        · omega
        · have : sizeB (m, far) = m := if_neg (by show ¬ m = 0; omega)
          exact .inr ⟨hm, by omega⟩
    have hfar := hf q0 hq0
    have hbest : bestAt T N here = (m, far) := by
      unfold bestAt
      refine best_only T N here (min 1024 here) m far (by omega) (by omega) (by omega) g2 (fun g hg1 hg2 => ?_) (fun g hg1 hg2 => ?_)
      · rcases Nat.lt_or_ge (long T N here g) 3 with h | h
        · omega
        · rcases hcase g hg1 hg2 h with h1 | ⟨_, h1⟩
          · have := g4 _ h1
            rwa [show here - (here - g) = g by omega] at this
          · rw [h1]; exact hlM g
      · rcases Nat.lt_or_ge (long T N here g) 3 with h | h
        · omega
        · have e : here - (here - g) = g := by omega
          rcases hcase g hg1 (by omega) h with h1 | ⟨h1, _⟩
          · have := g5 _ h1 (by omega)
            rwa [e] at this
          · have := (List.pairwise_append.1 hd).2.2 q0 hq0 _ h1
            omega
    unfold tokAt tokB
    rw [hbest, if_neg (show ¬ m = 0 by omega), if_neg (show ¬ m < 3 by omega)]
theorem tokB_ok (T : Nat → UInt8) (N here : Nat) (l : List Nat) : (foldB T N here l).1 ≤ 66 := by
  have : ∀ (l : List Nat) (b : Nat × Nat), b.1 ≤ 66 → (l.foldl (stepB T N here) b).1 ≤ 66 := by
    intro l
    induction l with
    | nil => exact fun b h => h
    | cons p l ih =>
      intro b h
      rw [List.foldl_cons]
      refine ih _ ?_
      unfold stepB
      split
      · exact long_le T N here _
      · exact h
  exact this l (0, 0) (by omega)
end Go.Proofs.YtconcnndghmdfaaGreatDoor
namespace Go.Proofs.YtconcnndghmdfaaGreatDoor
open Go Go.RowKit
section
variable {P : Program} {md : Region.Mode} {ops : Array Oper} {Q : Exit → Act → World → Prop} {S : World → Prop}
/-- The operation is a call that hands v back and leaves every world that meets S as it is. -/
def CallsIf (P : Program) (ops : Array Oper) (S : World → Prop) (o : Oper) (v : Value) (a : Act) : Prop :=
  Region.wanted o (yielded ops a.tmps) = true ∧ ∀ w, S w → ∃ f args, (execOp a.eval o).run P w = .ok (.enter f args) w ∧ Calls P f args w fun e w' => e = .returned v ∧ w' = w
theorem CallsIf.wpOp {i : Nat} {o : Oper} {v : Value} {a : Act} (hi : ops[i]? = some o) (hy : CallsIf P ops S o v a)
    {K : Act → World → Prop} {w : World} (hS : S w) (h : K (a.put o.dst v) w) : wpOp P ops Q i K a w := by
  unfold Go.wpOp
  simp only [hi]
  obtain ⟨hw, hv⟩ := hy
  obtain ⟨f, args, hr, hc⟩ := hv w hS
  simp only [hw, if_true, Oper.wp, hr, Oper.upon]
  refine .inl (Calls.mono hc ?_)
  rintro e w' ⟨rfl, rfl⟩
  exact h
theorem CallsIf.of_same {o : Oper} {v : Value} {a a' : Act} (hy : CallsIf P ops S o v a) (he : execOp a'.eval o = execOp a.eval o)
    (hw : Region.wanted o (yielded ops a'.tmps) = Region.wanted o (yielded ops a.tmps)) : CallsIf P ops S o v a' := by
  unfold CallsIf at *
  rw [he, hw]
  exact hy
theorem wpOp_putC {j : Nat} {oi oj : Oper} {v : Value} (hj : ops[j]? = some oj) (hap : oi.apart ops oj = true)
    (hsi : ∀ cs b, oi.op ≠ .select cs b) (hsj : ∀ cs b, oj.op ≠ .select cs b)
    (hQ : ∀ c a w, Q (.panic c) (a.put oi.dst v) w → Q (.panic c) a w) {K : Act → World → Prop} {a : Act} {w : World}
    (hy : CallsIf P ops S oi v a) (h : wpOp P ops Q j K (a.put oi.dst v) w) :
    wpOp P ops Q j (fun a' w' => CallsIf P ops S oi v a' ∧ K (a'.put oi.dst v) w') a w := by
  obtain ⟨h1, h2, h3⟩ := Oper.apart_spec hap
  have keep : ∀ (a : Act), CallsIf P ops S oi v a → ∀ u, CallsIf P ops S oi v (a.put oj.dst u) := fun a hy u =>
    hy.of_same (execOp_put oi hsi a oj.dst u h3) (wanted_put oi a oj.dst u h3)
  have keepD : ∀ d, CallsIf P ops S oi v { a with defers := d :: a.defers } := fun d => hy.of_same rfl rfl
  unfold wpOp at *
  simp only [hj] at *
  rw [wanted_put oj a oi.dst v h1] at h
  split
  · rename_i hw
    simp only [hw, if_true] at h
    rcases h with h | ⟨hasks, hlets⟩
    case inr => exact .inr ⟨by unfold Oper.asks at *; rw [execOp_put oj hsj a oi.dst v h1] at hasks; exact hasks, hlets⟩
    refine .inl ?_
    unfold Oper.wp at *
    rw [execOp_put oj hsj a oi.dst v h1] at h
    generalize (execOp a.eval oj).run P w = r at *
    cases r with
    | ok n w' =>
      cases n <;> simp only [Oper.upon] at h ⊢
      case value u => exact ⟨keep a hy u, by rw [← Act.put_comm a v u h2]; exact h⟩
      case skip => exact ⟨keep a hy _, by rw [← Act.put_comm a v undef h2]; exact h⟩
      case defer d =>
        refine ⟨keep _ (keepD d) _, ?_⟩
        rw [← Act.put_comm _ v undef h2, ← Act.put_defers]
        exact h
      case enter f args =>
        refine Calls.mono h fun e w'' he => ?_
        cases e with
        | returned u => exact ⟨keep a hy u, by rw [← Act.put_comm a v u h2]; exact he⟩
        | panicked c => exact hQ _ _ _ he
        | outgrown => exact he
      case row row args => exact Rows.mono h fun u w'' he => ⟨keep a hy u, by rw [← Act.put_comm a v u h2]; exact he⟩
    | halt x w' =>
      cases x <;> simp only [Oper.upon] at h ⊢
      case panic u => exact hQ _ _ _ h
  · rename_i hw
    simp only [hw] at h
    exact ⟨keep a hy _, by rw [← Act.put_comm a v undef h2]; exact h⟩
theorem wpAnyH_firstC {i : Nat} {oi : Oper} {v : Value} (hi : ops[i]? = some oi) (hsel : ∀ (j : Nat) (o : Oper) cs b, ops[j]? = some o → o.op ≠ .select cs b)
    (hQ : ∀ c a w, Q (.panic c) (a.put oi.dst v) w → Q (.panic c) a w) :
    ∀ (fuel : Nat) (listed : Array Bool) (a : Act) (w : World),
      (∀ j oj, ops[j]? = some oj → j ≠ i → listed.getD j true = false → (∀ e ∈ oj.after, Region.binds md e = true → e.on ≠ i) → oi.apart ops oj = true) →
      i ∈ Region.ready md ops listed → CallsIf P ops S oi v a → S w →
      wpAnyH P md ops Q S fuel (listed.setIfInBounds i true) (a.put oi.dst v) w → wpAnyH P md ops Q S (fuel + 1) listed a w := by
  intro fuel
  induction fuel with
  | zero =>
    intro listed a w _ hr hy hS H
    refine ⟨fun h => (by rw [h] at hr; cases hr), fun j hj => ?_⟩
    by_cases hji : j = i
    · subst hji; exact hy.wpOp hi hS ⟨hS, H⟩
    · have := ready_mono hj hji
      rw [H.1] at this
      cases this
  | succ fuel ih =>
    intro listed a w hfree hr hy hS H
    refine ⟨fun h => (by rw [h] at hr; cases hr), fun j hj => ?_⟩
    by_cases hji : j = i
    · subst hji; exact hy.wpOp hi hS ⟨hS, H⟩
    · have h1 := H.2 j (ready_mono hj hji)
      obtain ⟨hjun, oj, hoj, hall⟩ := mem_ready.1 hj
      have hnot : ∀ e ∈ oj.after, Region.binds md e = true → e.on ≠ i := fun e he hb heq => by
        have h1 := hall e he hb
        have h0 := (mem_ready.1 hr).1
        rw [heq] at h1
        rcases Nat.lt_or_ge i listed.size with h' | h'
        · simp [h'] at h0 h1; rw [h0] at h1; cases h1
        · simp [Array.getElem?_eq_none h'] at h1
      have h2 := wpOp_putC hoj (hfree j oj hoj hji hjun hnot) (fun cs b => hsel i oi cs b hi) (fun cs b => hsel j oj cs b hoj) hQ hy h1
      have hfree' : ∀ k ok, ops[k]? = some ok → k ≠ i → (listed.setIfInBounds j true).getD k true = false →
          (∀ e ∈ ok.after, Region.binds md e = true → e.on ≠ i) → oi.apart ops ok = true := fun k ok hk hki hun hno => by
        refine hfree k ok hk hki ?_ hno
        by_cases hjk : j = k
        · subst hjk; exact hjun
        · rw [getD_set_ne true hjk] at hun; exact hun
      refine wpOp_mono (fun a' w' h3 => ⟨h3.2.1, ih (listed.setIfInBounds j true) a' w' hfree' (ready_mono hr (Ne.symm hji)) h3.1 h3.2.1 ?_⟩) h2
      rw [Array.setIfInBounds_comm _ _ hji]
      exact h3.2.2
/-- Take the call i first: it only reads. -/
theorem takeC {i : Nat} {oi : Oper} {v : Value} {fuel : Nat} {listed : Array Bool} {a : Act} {w : World} (d : Option Nat) (hi : ops[i]? = some oi) (hd : oi.dst = d)
    (hs : Region.noSelect ops = true) (hf : Region.free md ops listed i = true) (hr : (Region.ready md ops listed).contains i = true)
    (hQ : ∀ c a w, Q (.panic c) (a.put d v) w → Q (.panic c) a w) (hg : oi.guard = none) (f : Nat) (args : Array Operand) (tys : Array TypeId) (ho : oi.op = .call { callee := .value (.func f), args := args, argTypes := tys })
    (he : ∀ args w, (callFunc f args).run P w = .ok (.enter f args) w) (vs : Array Value) (hvs : args.map a.eval = vs)
    (hc : ∀ w, S w → Calls P f vs w fun e w' => e = .returned v ∧ w' = w) (hS : S w)
    (h : wpAnyH P md ops Q S fuel (listed.setIfInBounds i true) (a.put d v) w) : wpAnyH P md ops Q S (fuel + 1) listed a w := by
  subst hd
  refine wpAnyH_firstC hi (Region.noSelect_spec hs) hQ fuel listed a w (Region.free_spec hi hf) (by simpa using hr) ⟨by simp [Region.wanted, hg], fun w hw => ⟨f, vs, ?_, hc w hw⟩⟩ hS h
  simp [execOp, ho, go_sem, he, resolve, invoke, hvs]
end
end Go.Proofs.YtconcnndghmdfaaGreatDoor
namespace Go.Proofs.YtconcnndghmdfaaGreatDoor
open Go Go.RowKit
section
variable {P : Program} {md : Region.Mode} {ops : Array Oper} {Q : Exit → Act → World → Prop} {S : World → Prop} {l n : Nat}
theorem wpOpIn_round {i : Nat} {K : Act → World → Prop} {a : Act} {w : World} (hnd : ∀ o ∈ ops.toList, ∀ c, o.op ≠ .defer c) (hlo : ¬ LetsOut Q) (h : wpOp P ops Q i K a w) : wpOpIn (Fence.wide.inRound l) n P ops Q i K a w := by
  unfold wpOp at h
  unfold wpOpIn
  cases ho : ops[i]? with
  | none => simp only [ho] at h ⊢; exact h
  | some o =>
    simp only [ho] at h ⊢
    have hd := hnd o (by rw [← Array.getElem?_toList] at ho; exact List.mem_of_getElem? ho)
    split
    · rename_i hw
      simp only [hw, if_true] at h
      refine ⟨fun _ _ => trivial, ?_⟩
      rw [Oper.semAt_plain _ _ _ hd]
      rcases h with h | ⟨_, h⟩
      · unfold Oper.wp at h
        generalize (execOp a.eval o).run P w = r at *
        cases r with
        | ok x w' =>
          cases x <;> simp only [Oper.upon, Oper.uponIn] at h ⊢ <;> first | exact h | exact ⟨fun e => (by cases e), CallsIn.inRound l (callsIn_wide.2 h)⟩ | skip
          all_goals exact ⟨fun e => (by cases e), fun c cs _ => let ⟨v, w', r, s⟩ := h c cs; ⟨v, w', r, stepsIn_wide.2 s⟩⟩
        | halt x w' => cases x <;> simp only [Oper.upon, Oper.uponIn] at h ⊢ <;> exact h
      · exact absurd h hlo
    · rename_i hw
      simp only [hw] at h
      exact ⟨fun _ _ => trivial, h⟩
theorem wpAnyIn_round (hnd : ∀ o ∈ ops.toList, ∀ c, o.op ≠ .defer c) (hlo : ¬ LetsOut Q) : ∀ (fuel : Nat) (listed : Array Bool) (a : Act) (w : World), wpAny P md ops Q fuel listed a w → wpAnyIn (Fence.wide.inRound l) n P md ops Q fuel listed a w
  | 0, _, _, _, h => h
  | fuel + 1, _, _, _, h => ⟨h.1, fun i hi => wpOpIn_round hnd hlo (wpOp_mono (fun a w h' => wpAnyIn_round hnd hlo fuel _ a w h') (h.2 i hi))⟩
def noDefer (ops : Array Oper) : Bool := ops.toList.all fun o => match o.op with | .defer _ => false | _ => true
theorem noDefer_spec (h : noDefer ops = true) : ∀ o ∈ ops.toList, ∀ c, o.op ≠ .defer c := fun o ho c e => by
  have := List.all_eq_true.1 h o ho
  rw [e] at this
  cases this
theorem round_held {id : Nat} {a : Act} {w : World} (hnd : noDefer ops = true) (hlo : ¬ LetsOut Q) (hm : P.follows .mixedOrders = true) (hS : S w.drew)
    (h : S w.drew → wpAnyH P .any ops Q S ops.size (Array.replicate ops.size false) a w.drew) : (Code.region id ops true).wpIn (Fence.wide.inRound l) n P Q a w :=
  wpIn_region_any hm (wpAnyIn_round (noDefer_spec hnd) hlo _ _ _ _ (wpAny_of_held _ _ _ _ (h hS)))
end
end Go.Proofs.YtconcnndghmdfaaGreatDoor

/- Matches on plain lists: tokens, how a text is parsed into them, how they are expanded; the tokens of a text make it again. No program is named here. -/
import Derived.Test.YtconcnndghmdfaaGreatDoorSa1
namespace Go.Proofs.YtconcnndghmdfaaGreatDoor
structure Tok where
  b : Int
  m : Int
  f : Int
/-- TokenRight. -/
def tokOk (t : Tok) : Bool := if t.m = 0 ∧ t.f = 0 then decide (0 ≤ t.b ∧ t.b ≤ 255) else decide (t.b = 0 ∧ 3 ≤ t.m ∧ t.m ≤ 66 ∧ 1 ≤ t.f ∧ t.f ≤ 1024)
/-- k bytes more, each the one that stands far ahead of the end. -/
def copyN (far : Nat) : Nat → List UInt8 → List UInt8
  | 0, b => b
  | k + 1, b => copyN far k (b ++ [b.getD (b.length - far) 0])
def exp1 (b : List UInt8) (t : Tok) : List UInt8 := if t.f = 0 then b ++ [UInt8.ofNat t.b.toNat] else copyN t.f.toNat t.m.toNat b
/-- Tokens, expanded onto what is there. -/
def expandG : List UInt8 → List Tok → Option (List UInt8)
  | b, [] => some b
  | b, t :: l => if tokOk t = true ∧ t.f ≤ b.length then expandG (exp1 b t) l else none
def expS (l : List Tok) : ByteArray := if l.length ≤ 20000 then (match expandG [] l with
  | some b => if b.length ≤ 20000 then ⟨b.toArray⟩ else ⟨#[]⟩
  | none => ⟨#[]⟩) else ⟨#[]⟩
theorem copyN_len (far : Nat) : ∀ k b, (copyN far k b).length = b.length + k
  | 0, _ => rfl
  | k + 1, b => by
    show (copyN far k (b ++ [b.getD (b.length - far) 0])).length = _
    rw [copyN_len far k, List.length_append]
    show b.length + 1 + k = _
    omega
theorem copyN_more (far : Nat) : ∀ k b, copyN far (k + 1) b = copyN far k b ++ [(copyN far k b).getD ((copyN far k b).length - far) 0]
  | 0, _ => rfl
  | k + 1, b => by
    show copyN far (k + 1) (b ++ [b.getD (b.length - far) 0]) = _
    rw [copyN_more far k]; rfl
theorem exp1_len (b : List UInt8) (t : Tok) : b.length ≤ (exp1 b t).length := by
  unfold exp1
  split
  · rw [List.length_append]; omega
  · rw [copyN_len]; omega
theorem expandG_len : ∀ l b c, expandG b l = some c → b.length ≤ c.length
  | [], b, c, h => by
    have e : b = c := Option.some.inj h
    rw [e]; exact Nat.le_refl _
  | t :: l, b, c, h => by
    unfold expandG at h
    split at h
    · exact Nat.le_trans (exp1_len b t) (expandG_len l _ c h)
    · cases h
theorem expandG_snoc : ∀ l b t, expandG b (l ++ [t]) = (match expandG b l with
  | some c => if tokOk t = true ∧ t.f ≤ c.length then some (exp1 c t) else none
  | none => none)
  | [], _, _ => rfl
  | u :: l, b, t => by
    show (if tokOk u = true ∧ u.f ≤ b.length then expandG (exp1 b u) (l ++ [t]) else none) = match (if tokOk u = true ∧ u.f ≤ b.length then expandG (exp1 b u) l else none) with
      | some c => if tokOk t = true ∧ t.f ≤ c.length then some (exp1 c t) else none
      | none => none
    split
    · exact expandG_snoc l _ t
    · rfl
theorem expandG_app : ∀ l b k, expandG b (l ++ k) = (match expandG b l with
  | some c => expandG c k
  | none => none)
  | [], _, _ => rfl
  | u :: l, b, k => by
    show (if tokOk u = true ∧ u.f ≤ b.length then expandG (exp1 b u) (l ++ k) else none) = match (if tokOk u = true ∧ u.f ≤ b.length then expandG (exp1 b u) l else none) with
      | some c => expandG c k
      | none => none
    split
    · exact expandG_app l _ k
    · rfl
/-- What is too long stays so, or is refused. -/
theorem expS_long {l k : List Tok} {b : List UInt8} (h : expandG [] l = some b) (hb : 20000 < b.length) : expS (l ++ k) = ⟨#[]⟩ := by
  unfold expS
  split
  · rw [expandG_app, h]
    show (match expandG b k with
      | some b => if b.length ≤ 20000 then (⟨b.toArray⟩ : ByteArray) else ⟨#[]⟩
      | none => ⟨#[]⟩) = _
    cases hc : expandG b k with
    | none => rfl
    | some c =>
      show (if c.length ≤ 20000 then (⟨c.toArray⟩ : ByteArray) else ⟨#[]⟩) = _
      rw [if_neg (by have := expandG_len k b c hc; omega)]
  · rfl
theorem expS_wrong {l k : List Tok} {b : List UInt8} {t : Tok} (h : expandG [] l = some b) (ht : ¬ (tokOk t = true ∧ t.f ≤ b.length)) : expS (l ++ t :: k) = ⟨#[]⟩ := by
  unfold expS
  split
  · rw [expandG_app, h]
    show (match (if tokOk t = true ∧ t.f ≤ b.length then expandG (exp1 b t) k else none) with
      | some b => if b.length ≤ 20000 then (⟨b.toArray⟩ : ByteArray) else ⟨#[]⟩
      | none => ⟨#[]⟩) = _
    rw [if_neg ht]
  · rfl
/-- How many bytes from 'at_' on, from the n-th on, are those that stand 'far' ahead of them, at most fuel more. -/
def longG (T : Nat → UInt8) (N at_ far : Nat) : Nat → Nat → Nat
  | 0, n => n
  | k + 1, n => if at_ + n < N ∧ T (at_ + n) = T (at_ + n - far) then longG T N at_ far k (n + 1) else n
def long (T : Nat → UInt8) (N at_ far : Nat) : Nat := longG T N at_ far 66 0
theorem longG_le (T : Nat → UInt8) (N at_ far : Nat) : ∀ k n, n ≤ longG T N at_ far k n ∧ longG T N at_ far k n ≤ n + k
  | 0, n => ⟨Nat.le_refl _, Nat.le_refl _⟩
  | k + 1, n => by
    unfold longG
    split
    · have := longG_le T N at_ far k (n + 1); omega
    · omega
theorem longG_eq (T : Nat → UInt8) (N at_ far : Nat) : ∀ k n j, n ≤ j → j < longG T N at_ far k n → at_ + j < N ∧ T (at_ + j) = T (at_ + j - far)
  | 0, n, j, h1, h2 => by unfold longG at h2; omega
  | k + 1, n, j, h1, h2 => by
    unfold longG at h2
    split at h2
    · rename_i h
      by_cases e : j = n
      · subst e; exact h
      · exact longG_eq T N at_ far k (n + 1) j (by omega) h2
    · omega
theorem longG_stop (T : Nat → UInt8) (N at_ far : Nat) : ∀ k n, longG T N at_ far k n = n + k ∨ ¬ (at_ + longG T N at_ far k n < N ∧ T (at_ + longG T N at_ far k n) = T (at_ + longG T N at_ far k n - far))
  | 0, n => .inl rfl
  | k + 1, n => by
    unfold longG
    split
    · rcases longG_stop T N at_ far k (n + 1) with h | h
      · exact .inl (by omega)
      · exact .inr h
    · rename_i h; exact .inr h
theorem long_le (T : Nat → UInt8) (N at_ far : Nat) : long T N at_ far ≤ 66 := by have := (longG_le T N at_ far 66 0).2; unfold long; omega
theorem long_eq (T : Nat → UInt8) (N at_ far j : Nat) (h : j < long T N at_ far) : at_ + j < N ∧ T (at_ + j) = T (at_ + j - far) := longG_eq T N at_ far 66 0 j (Nat.zero_le _) h
/-- Where bytes are the same from the first on, so many at least. -/
theorem long_ge (T : Nat → UInt8) (N at_ far n : Nat) (hn : n ≤ 66) (h : ∀ j, j < n → at_ + j < N ∧ T (at_ + j) = T (at_ + j - far)) : n ≤ long T N at_ far := by
  rcases Nat.lt_or_ge (long T N at_ far) n with hl | hl
  · rcases longG_stop T N at_ far 66 0 with hs | hs
    · have hs' : long T N at_ far = 0 + 66 := hs
      omega
    · exact absurd (h _ hl) hs
  · exact hl
/-- The best of the first k places back: the greatest many, the least far. -/
def best (T : Nat → UInt8) (N at_ : Nat) : Nat → Nat × Nat
  | 0 => (0, 0)
  | k + 1 => if (best T N at_ k).1 < long T N at_ (k + 1) then (long T N at_ (k + 1), k + 1) else best T N at_ k
theorem best_ge (T : Nat → UInt8) (N at_ : Nat) : ∀ k far, 1 ≤ far → far ≤ k → long T N at_ far ≤ (best T N at_ k).1
  | 0, far, h1, h2 => by omega
  | k + 1, far, h1, h2 => by
    unfold best
    by_cases e : far = k + 1
    · subst e
      split
      · exact Nat.le_refl _
      · omega
    · have := best_ge T N at_ k far h1 (by omega)
      split <;> omega
theorem best_is (T : Nat → UInt8) (N at_ : Nat) : ∀ k, (best T N at_ k = (0, 0)) ∨ (1 ≤ (best T N at_ k).2 ∧ (best T N at_ k).2 ≤ k ∧ 0 < (best T N at_ k).1 ∧ (best T N at_ k).1 = long T N at_ (best T N at_ k).2 ∧ ∀ far, 1 ≤ far → far < (best T N at_ k).2 → long T N at_ far < (best T N at_ k).1)
  | 0 => .inl rfl
  | k + 1 => by
    have ih := best_is T N at_ k
    unfold best
    split
    · rename_i h
      refine .inr ⟨by show 1 ≤ k + 1; omega, Nat.le_refl _, by show 0 < long T N at_ (k + 1); omega, rfl, fun far h1 h2 => ?_⟩
      have h3 := best_ge T N at_ k far h1 (by have : far < k + 1 := h2; omega)
      show long T N at_ far < long T N at_ (k + 1)
      omega
    · rcases ih with h | ⟨a, b, c, d, e⟩
      · exact .inl h
      · exact .inr ⟨a, by omega, c, d, e⟩
/-- The best is the only one with these properties. -/
theorem best_only (T : Nat → UInt8) (N at_ k m far : Nat) (h1 : 1 ≤ far) (h2 : far ≤ k) (hm : 0 < m) (h3 : m = long T N at_ far) (h4 : ∀ g, 1 ≤ g → g ≤ k → long T N at_ g ≤ m) (h5 : ∀ g, 1 ≤ g → g < far → long T N at_ g < m) : best T N at_ k = (m, far) := by
  have a := best_ge T N at_ k far h1 h2
  rcases best_is T N at_ k with h | ⟨b1, b2, b3, b4, b5⟩
  · rw [h] at a
    have a' : long T N at_ far ≤ 0 := a
    omega
  · have c1 := h4 (best T N at_ k).2 b1 b2
    have e1 : (best T N at_ k).1 = m := by omega
    have e2 : (best T N at_ k).2 = far := by
      rcases Nat.lt_trichotomy (best T N at_ k).2 far with h | h | h
      · have := h5 _ b1 h; omega
      · exact h
      · have := b5 far h1 h; omega
    exact Prod.ext e1 e2
def bestAt (T : Nat → UInt8) (N at_ : Nat) : Nat × Nat := best T N at_ (min 1024 at_)
/-- The tokens from 'at_' on. -/
def parseG (T : Nat → UInt8) (N : Nat) : Nat → Nat → List Tok
  | 0, _ => []
  | k + 1, at_ => if at_ < N then (if (bestAt T N at_).1 < 3 then ⟨((T at_).toNat : Int), 0, 0⟩ :: parseG T N k (at_ + 1) else ⟨0, (bestAt T N at_).1, (bestAt T N at_).2⟩ :: parseG T N k (at_ + (bestAt T N at_).1)) else []
def parseL (T : Nat → UInt8) (N : Nat) : List Tok := parseG T N N 0
/-- One token, and where the next begins. -/
def tokAt (T : Nat → UInt8) (N at_ : Nat) : Tok := if (bestAt T N at_).1 < 3 then ⟨((T at_).toNat : Int), 0, 0⟩ else ⟨0, (bestAt T N at_).1, (bestAt T N at_).2⟩
def stepAt (T : Nat → UInt8) (N at_ : Nat) : Nat := if (bestAt T N at_).1 < 3 then at_ + 1 else at_ + (bestAt T N at_).1
theorem parseG_step (T : Nat → UInt8) (N k at_ : Nat) (h : at_ < N) : parseG T N (k + 1) at_ = tokAt T N at_ :: parseG T N k (stepAt T N at_) := by
  show (if at_ < N then _ else _) = _
  rw [if_pos h]
  unfold tokAt stepAt
  split <;> rfl
theorem parseG_end (T : Nat → UInt8) (N k at_ : Nat) (h : ¬ at_ < N) : parseG T N k at_ = [] := by
  cases k with
  | zero => rfl
  | succ k =>
    show (if at_ < N then _ else _) = _
    rw [if_neg h]
theorem stepAt_gt (T : Nat → UInt8) (N at_ : Nat) : at_ < stepAt T N at_ := by unfold stepAt; split <;> omega
/-- More fuel than bytes turns nothing. -/
theorem parseG_fuel (T : Nat → UInt8) (N : Nat) : ∀ k j at_, N ≤ at_ + k → N ≤ at_ + j → parseG T N k at_ = parseG T N j at_
  | 0, j, at_, h1, h2 => by rw [parseG_end T N j at_ (by omega)]; rfl
  | k + 1, 0, at_, h1, h2 => by rw [parseG_end T N (k + 1) at_ (by omega)]; rfl
  | k + 1, j + 1, at_, h1, h2 => by
    by_cases h : at_ < N
    · have hs := stepAt_gt T N at_
      rw [parseG_step T N k at_ h, parseG_step T N j at_ h, parseG_fuel T N k j _ (by omega) (by omega)]
    · rw [parseG_end T N _ at_ h, parseG_end T N _ at_ h]
theorem bestAt_facts (T : Nat → UInt8) (N at_ : Nat) (h : ¬ (bestAt T N at_).1 < 3) : 1 ≤ (bestAt T N at_).2 ∧ (bestAt T N at_).2 ≤ 1024 ∧ (bestAt T N at_).2 ≤ at_ ∧ (bestAt T N at_).1 ≤ 66 ∧ at_ + (bestAt T N at_).1 ≤ N ∧ ∀ j, j < (bestAt T N at_).1 → T (at_ + j) = T (at_ + j - (bestAt T N at_).2) := by
  unfold bestAt at h ⊢
  rcases best_is T N at_ (min 1024 at_) with e | ⟨b1, b2, b3, b4, _⟩
  · rw [e] at h; exact absurd (show (0 : Nat) < 3 by omega) h
  · have hl := long_le T N at_ (best T N at_ (min 1024 at_)).2
    have hq := long_eq T N at_ (best T N at_ (min 1024 at_)).2
    rw [← b4] at hl hq
    refine ⟨b1, by omega, by omega, hl, ?_, fun j hj => (hq j hj).2⟩
    have := (hq ((best T N at_ (min 1024 at_)).1 - 1) (by omega)).1
    omega
theorem tokAt_ok (T : Nat → UInt8) (N at_ : Nat) : tokOk (tokAt T N at_) = true ∧ (tokAt T N at_).f ≤ at_ := by
  unfold tokAt
  by_cases h : (bestAt T N at_).1 < 3
  · rw [if_pos h]
    refine ⟨?_, by show (0 : Int) ≤ _; omega⟩
    unfold tokOk
    rw [if_pos ⟨rfl, rfl⟩]
    have := (T at_).toNat_lt
    exact decide_eq_true ⟨by show (0 : Int) ≤ ((T at_).toNat : Int); omega, by show ((T at_).toNat : Int) ≤ 255; omega⟩
  · rw [if_neg h]
    obtain ⟨h1, h2, h3, h4, _, _⟩ := bestAt_facts T N at_ h
    refine ⟨?_, by show ((bestAt T N at_).2 : Int) ≤ _; omega⟩
    unfold tokOk
    rw [if_neg (fun e => by have : ((bestAt T N at_).2 : Int) = 0 := e.2; omega)]
    exact decide_eq_true ⟨rfl, by show (3 : Int) ≤ ((bestAt T N at_).1 : Int); omega, by show ((bestAt T N at_).1 : Int) ≤ 66; omega, by show (1 : Int) ≤ ((bestAt T N at_).2 : Int); omega, by show ((bestAt T N at_).2 : Int) ≤ 1024; omega⟩
theorem parseG_ok (T : Nat → UInt8) (N : Nat) : ∀ k at_, ∀ t ∈ parseG T N k at_, tokOk t = true
  | 0, _, t, h => by cases h
  | k + 1, at_, t, h => by
    by_cases hl : at_ < N
    · rw [parseG_step T N k at_ hl] at h
      rcases List.mem_cons.1 h with rfl | h
      · exact (tokAt_ok T N at_).1
      · exact parseG_ok T N k _ t h
    · rw [parseG_end T N _ at_ hl] at h; cases h
theorem parseG_len (T : Nat → UInt8) (N : Nat) : ∀ k at_, (parseG T N k at_).length ≤ N - at_
  | 0, _ => Nat.zero_le _
  | k + 1, at_ => by
    by_cases hl : at_ < N
    · have hs := stepAt_gt T N at_
      have := parseG_len T N k (stepAt T N at_)
      rw [parseG_step T N k at_ hl, List.length_cons]; omega
    · rw [parseG_end T N _ at_ hl]; exact Nat.zero_le _
/-- The first n bytes. -/
def upto (T : Nat → UInt8) (n : Nat) : List UInt8 := (List.range n).map T
theorem upto_len (T : Nat → UInt8) (n : Nat) : (upto T n).length = n := by simp [upto]
theorem upto_succ (T : Nat → UInt8) (n : Nat) : upto T (n + 1) = upto T n ++ [T n] := by simp [upto, List.range_succ]
theorem upto_at (T : Nat → UInt8) (n j : Nat) (h : j < n) : (upto T n).getD j 0 = T j := by simp [upto, List.getD_eq_getElem?_getD, h]
theorem copy_upto (T : Nat → UInt8) (far at_ : Nat) (h1 : 1 ≤ far) (h2 : far ≤ at_) : ∀ m, (∀ j, j < m → T (at_ + j) = T (at_ + j - far)) → copyN far m (upto T at_) = upto T (at_ + m)
  | 0, _ => rfl
  | m + 1, h => by
    rw [copyN_more, copy_upto T far at_ h1 h2 m (fun j hj => h j (by omega)), upto_len, upto_at T _ _ (by omega), ← h m (by omega)]
    exact (upto_succ T (at_ + m)).symm
theorem exp1_at (T : Nat → UInt8) (N at_ : Nat) : exp1 (upto T at_) (tokAt T N at_) = upto T (stepAt T N at_) := by
  unfold exp1 tokAt stepAt
  by_cases h : (bestAt T N at_).1 < 3
  · rw [if_pos h, if_pos h, if_pos rfl, upto_succ]
    show _ ++ [UInt8.ofNat (((T at_).toNat : Int)).toNat] = _
    rw [Int.toNat_natCast, UInt8.ofNat_toNat]
  · rw [if_neg h, if_neg h]
    obtain ⟨h1, h2, h3, h4, _, h6⟩ := bestAt_facts T N at_ h
    rw [if_neg (by show ¬ ((bestAt T N at_).2 : Int) = 0; omega)]
    show copyN ((bestAt T N at_).2 : Int).toNat ((bestAt T N at_).1 : Int).toNat _ = _
    rw [Int.toNat_natCast, Int.toNat_natCast]
    exact copy_upto T _ at_ h1 h3 _ h6
theorem stepAt_le (T : Nat → UInt8) (N at_ : Nat) (h : at_ < N) : stepAt T N at_ ≤ N := by
  unfold stepAt
  split
  · omega
  · rename_i h2; exact (bestAt_facts T N at_ h2).2.2.2.2.1
/-- The tokens of a text make it again. -/
theorem parse_back (T : Nat → UInt8) (N : Nat) : ∀ k at_, at_ ≤ N → N ≤ at_ + k → expandG (upto T at_) (parseG T N k at_) = some (upto T N)
  | 0, at_, h1, h2 => by
    have e : at_ = N := by omega
    subst e; rfl
  | k + 1, at_, h1, h2 => by
    by_cases hl : at_ < N
    · have hs := stepAt_gt T N at_
      rw [parseG_step T N k at_ hl]
      show (if tokOk (tokAt T N at_) = true ∧ (tokAt T N at_).f ≤ (upto T at_).length then expandG (exp1 (upto T at_) (tokAt T N at_)) (parseG T N k (stepAt T N at_)) else none) = _
      rw [upto_len, if_pos (tokAt_ok T N at_), exp1_at]
      exact parse_back T N k _ (stepAt_le T N at_ hl) (by omega)
    · rw [parseG_end T N _ at_ hl]
      have e : at_ = N := by omega
      subst e; rfl
theorem parse_all (T : Nat → UInt8) (N : Nat) : expandG [] (parseL T N) = some (upto T N) := parse_back T N N 0 (Nat.zero_le _) (by omega)
end Go.Proofs.YtconcnndghmdfaaGreatDoor

/- Put together: PackF, RangeC, RangeM, BitsM, BitsC, TokC. -/
import Derived.Test.YtconcnndghmdfaaGreatDoorSe8
import Derived.Test.YtconcnndghmdfaaGreatDoorSe1
import Derived.Laws.BitsLemmas
import Derived.WalkKit
import Derived.Below
import Derived.OwnWalk
import Derived.Laws.IdiomStrings
import Derived.Deep.AppendLies
namespace Go.Proofs.YtconcnndghmdfaaGreatDoor
theorem run_app : ∀ l k s, run s (l ++ k) = run (run s l) k
  | [], _, _ => rfl
  | x :: l, k, s => run_app l k (step s x.1 x.2)
/-- The bit k of n. -/
def bitAt (n k : Nat) : Bool := decide (n / 2 ^ k % 2 = 1)
def bN (b : Bool) : Nat := if b then 1 else 0
/-- The last k bits of n, the highest first, each with its context: the base and the node. -/
def treeG (n base : Nat) : Nat → Nat → List (Nat × Bool)
  | 0, _ => []
  | k + 1, node => (base + node, bitAt n k) :: treeG n base k (2 * node + bN (bitAt n k))
def tree (n many base : Nat) : List (Nat × Bool) := treeG n base many 1
theorem treeG_len (n base : Nat) : ∀ k node, (treeG n base k node).length = k
  | 0, _ => rfl
  | k + 1, _ => congrArg Nat.succ (treeG_len n base k _)
theorem bN_le (b : Bool) : bN b ≤ 1 := by cases b <;> decide
theorem treeG_ctx (n base : Nat) : ∀ k node N, node < 2 ^ N → ∀ x ∈ treeG n base (k + 1) node, x.1 < base + 2 ^ (N + k)
  | 0, node, N, hN, x, h => by
    have e : x = (base + node, bitAt n 0) := by simpa [treeG] using h
    rw [e]
    show base + node < base + 2 ^ (N + 0)
    rw [Nat.add_zero]; omega
  | k + 1, node, N, hN, x, h => by
    rcases List.mem_cons.1 h with rfl | h
    · show base + node < base + 2 ^ (N + (k + 1))
      have : 2 ^ N ≤ 2 ^ (N + (k + 1)) := Nat.pow_le_pow_right (by omega) (by omega)
      omega
    · have hb := bN_le (bitAt n (k + 1))
      have := treeG_ctx n base k (2 * node + bN (bitAt n (k + 1))) (N + 1) (by rw [Nat.pow_succ]; omega) x h
      rwa [show N + 1 + k = N + (k + 1) by omega] at this
def tokBits (t : Tok) : List (Nat × Bool) := if t.f = 0 then (0, false) :: tree t.b.toNat 8 16 else (0, true) :: (tree (t.m - 3).toNat 6 300 ++ tree (t.f - 1).toNat 10 400)
def toksBits (l : List Tok) : List (Nat × Bool) := l.flatMap tokBits
theorem tokBits_len (t : Tok) : (tokBits t).length ≤ 17 := by
  unfold tokBits
  split
  · show (tree t.b.toNat 8 16).length + 1 ≤ 17
    rw [tree, treeG_len]; omega
  · show (tree (t.m - 3).toNat 6 300 ++ tree (t.f - 1).toNat 10 400).length + 1 ≤ 17
    rw [List.length_append, tree, tree, treeG_len, treeG_len]; omega
theorem toksBits_len : ∀ l, (toksBits l).length ≤ 17 * l.length
  | [] => Nat.le_refl _
  | t :: l => by
    show (tokBits t ++ toksBits l).length ≤ 17 * (l.length + 1)
    have h1 := tokBits_len t
    have h2 := toksBits_len l
    rw [List.length_append]; omega
theorem tree_ctx (n k base : Nat) (x : Nat × Bool) (h : x ∈ tree n (k + 1) base) : x.1 < base + 2 ^ (k + 1) := by
  have := treeG_ctx n base k 1 1 (by decide) x h
  rwa [Nat.add_comm 1 k] at this
theorem tokBits_ctx (t : Tok) : ∀ x ∈ tokBits t, x.1 < 1600 := by
  intro x hx
  unfold tokBits at hx
  split at hx
  · rcases List.mem_cons.1 hx with rfl | hx
    · show (0 : Nat) < _; omega
    · have := tree_ctx _ 7 _ x hx
      have e : 2 ^ (7 + 1) = 256 := rfl
      omega
  · rcases List.mem_cons.1 hx with rfl | hx
    · show (0 : Nat) < _; omega
    · rcases List.mem_append.1 hx with hx | hx
      · have := tree_ctx _ 5 _ x hx
        have e : 2 ^ (5 + 1) = 64 := rfl
        omega
      · have := tree_ctx _ 9 _ x hx
        have e : 2 ^ (9 + 1) = 1024 := rfl
        omega
theorem toksBits_ctx (l : List Tok) : ∀ x ∈ toksBits l, x.1 < 1600 := by
  intro x hx
  obtain ⟨t, _, h⟩ := List.mem_flatMap.1 hx
  exact tokBits_ctx t x h
/-- A number of k bits, read: the decoder's state, and the node. -/
def readG (tb : Nat → Nat) (base : Nat) : Nat → RC × Nat → Nat → (RC × Nat) × Nat
  | 0, st, node => (st, node)
  | k + 1, st, node => readG tb base k (step st.1 (base + node) (dbit st.1 st.2 (base + node)), dx tb st.1 st.2 (base + node)) (2 * node + bN (dbit st.1 st.2 (base + node)))
theorem readG_node (tb : Nat → Nat) (base : Nat) : ∀ k st node, node * 2 ^ k ≤ (readG tb base k st node).2 ∧ (readG tb base k st node).2 < (node + 1) * 2 ^ k
  | 0, _, node => by
    show node * 2 ^ 0 ≤ node ∧ node < (node + 1) * 2 ^ 0
    rw [Nat.pow_zero]; omega
  | k + 1, st, node => by
    have h := readG_node tb base k (step st.1 (base + node) (dbit st.1 st.2 (base + node)), dx tb st.1 st.2 (base + node)) (2 * node + bN (dbit st.1 st.2 (base + node)))
    have hb := bN_le (dbit st.1 st.2 (base + node))
    obtain ⟨h1, h2⟩ := h
    have e1 : node * 2 ^ (k + 1) = (2 * node) * 2 ^ k := by rw [Nat.pow_succ, Nat.mul_comm (2 ^ k) 2, ← Nat.mul_assoc, Nat.mul_comm node 2]
    have e2 : (node + 1) * 2 ^ (k + 1) = (2 * node + 2) * 2 ^ k := by rw [Nat.pow_succ, Nat.mul_comm (2 ^ k) 2, ← Nat.mul_assoc, Nat.mul_comm (node + 1) 2, Nat.mul_add]
    have m1 : (2 * node) * 2 ^ k ≤ (2 * node + bN (dbit st.1 st.2 (base + node))) * 2 ^ k := Nat.mul_le_mul_right _ (by omega)
    have m2 : (2 * node + bN (dbit st.1 st.2 (base + node)) + 1) * 2 ^ k ≤ (2 * node + 2) * 2 ^ k := Nat.mul_le_mul_right _ (by omega)
    rw [e1, e2]
    exact ⟨Nat.le_trans m1 h1, Nat.lt_of_lt_of_le h2 m2⟩
/-- A token's bit, read. -/
def dnext (tb : Nat → Nat) (st : RC × Nat) (c : Nat) : RC × Nat := (step st.1 c (dbit st.1 st.2 c), dx tb st.1 st.2 c)
/-- What comes out of a code, onto what is there, till there are 'many' bytes. (At most k tokens more.) -/
def unpackG (tb : Nat → Nat) (many : Nat) : Nat → RC × Nat → List UInt8 → Option (List UInt8)
  | 0, _, b => some b
  | k + 1, st, b => if b.length < many then
      (if dbit st.1 st.2 0 = true then
        (if b.length < (readG tb 400 10 (readG tb 300 6 (dnext tb st 0) 1).1 1).2 - 1024 + 1 then none
         else unpackG tb many k (readG tb 400 10 (readG tb 300 6 (dnext tb st 0) 1).1 1).1 (copyN ((readG tb 400 10 (readG tb 300 6 (dnext tb st 0) 1).1 1).2 - 1024 + 1) ((readG tb 300 6 (dnext tb st 0) 1).2 - 64 + 3) b))
       else unpackG tb many k (readG tb 16 8 (dnext tb st 0) 1).1 (b ++ [UInt8.ofNat ((readG tb 16 8 (dnext tb st 0) 1).2 - 256)]))
    else some b
/-- What holds of a decoder behind the first bits of a code. -/
def Dinv (tb : Nat → Nat) (p : List (Nat × Bool)) (st : RC × Nat) : Prop := st.1 = run rc0 p ∧ st.1.low + st.2 = pv tb (st.1.n + 4)
/-- The next bit comes back. -/
theorem bit_back (tb : Nat → Nat) (htb : ∀ j, tb j < 256) (L p rest : List (Nat × Bool)) (c : Nat) (one : Bool) (hL : L = p ++ (c, one) :: rest) (hp : ∀ k, k ≤ (run rc0 L).n + 4 → pv tb k = (run rc0 L).low / 256 ^ ((run rc0 L).n + 4 - k)) (st : RC × Nat) (h : Dinv tb p st) :
    dbit st.1 st.2 c = one ∧ Dinv tb (p ++ [(c, one)]) (dnext tb st c) := by
  obtain ⟨s, x⟩ := st
  obtain ⟨hs, hx⟩ := h
  have hs' : s = run rc0 p := hs
  have hx' : s.low + x = pv tb (s.n + 4) := hx
  have hok : RcOk s := by rw [hs']; exact run_ok p rc0 rc0_ok
  have hLr : run rc0 L = run (step s c one) rest := by rw [hL, run_app, ← hs']; rfl
  rw [hLr] at hp
  have hn := run_n rest (step s c one)
  have hns := step_n s c one
  obtain ⟨r1, r2⟩ := run_part rest s c one hok
  have hq := hp (s.n + 4) (by omega)
  rw [show (run (step s c one) rest).n + 4 - (s.n + 4) = (run (step s c one) rest).n - s.n by omega] at hq
  obtain ⟨k1, k2⟩ := div_le_lt (Nat.pow_pos (by decide)) r1 r2
  rw [← hq] at k1 k2
  obtain ⟨b1, b2⟩ := bound_in s c hok
  have hkey : dbit s x c = one ∧ (part1 s c one).low + dx1 s x c = pv tb (s.n + 4) := by
    unfold part1 at k1 k2 ⊢
    unfold dbit dx1
    cases one
    · have k2' : pv tb (s.n + 4) < s.low + bound s c := k2
      have hlt : ¬ bound s c ≤ x := by omega
      refine ⟨decide_eq_false hlt, ?_⟩
      rw [if_neg hlt]; exact hx'
    · have k1' : s.low + bound s c ≤ pv tb (s.n + 4) := k1
      have hle : bound s c ≤ x := by omega
      refine ⟨decide_eq_true hle, ?_⟩
      rw [if_pos hle]
      show s.low + bound s c + (x - bound s c) = _
      omega
  obtain ⟨hb, hd⟩ := hkey
  refine ⟨hb, ?_, ?_⟩
  · show step s c (dbit s x c) = _
    rw [hb, run_snoc, ← hs']
  · show (step s c (dbit s x c)).low + dx tb s x c = pv tb ((step s c (dbit s x c)).n + 4)
    rw [hb]
    unfold dx step norm
    rw [hb]
    obtain ⟨q1, q2, _⟩ := part1_ok s c one hok
    by_cases e : (part1 s c one).size < 16777216
    · rw [if_pos e, if_pos e]
      show 256 * (part1 s c one).low + (256 * dx1 s x c + tb (s.n + 4)) % 18446744073709551616 = pv tb ((part1 s c one).n + 1 + 4)
      have ht := htb (s.n + 4)
      have hx1 : dx1 s x c < (part1 s c one).size := by
        have : (part1 s c one).low + dx1 s x c < (part1 s c one).low + (part1 s c one).size := by rw [hd]; exact k2
        omega
      rw [part1_n, show s.n + 1 + 4 = (s.n + 4) + 1 by omega, Nat.mod_eq_of_lt (by omega)]
      show _ = 256 * pv tb (s.n + 4) + tb (s.n + 4)
      omega
    · rw [if_neg e, if_neg e, part1_n]; exact hd
/-- A number comes back. -/
theorem read_back (tb : Nat → Nat) (htb : ∀ j, tb j < 256) (L : List (Nat × Bool)) (hp : ∀ k, k ≤ (run rc0 L).n + 4 → pv tb k = (run rc0 L).low / 256 ^ ((run rc0 L).n + 4 - k)) (n base : Nat) : ∀ k node p rest st, L = p ++ (treeG n base k node ++ rest) → Dinv tb p st →
    (readG tb base k st node).2 = node * 2 ^ k + n % 2 ^ k ∧ Dinv tb (p ++ treeG n base k node) (readG tb base k st node).1
  | 0, node, p, rest, st, _, h => by
    refine ⟨?_, by simpa [treeG, readG] using h⟩
    show node = node * 2 ^ 0 + n % 2 ^ 0
    rw [Nat.pow_zero, Nat.mod_one]; omega
  | k + 1, node, p, rest, st, hL, h => by
    obtain ⟨hb, hd⟩ := bit_back tb htb L p (treeG n base k (2 * node + bN (bitAt n k)) ++ rest) (base + node) (bitAt n k) hL hp st h
    have ih := read_back tb htb L hp n base k (2 * node + bN (bitAt n k)) (p ++ [(base + node, bitAt n k)]) rest (dnext tb st (base + node)) (by rw [hL]; simp [treeG]) hd
    have e : readG tb base (k + 1) st node = readG tb base k (dnext tb st (base + node)) (2 * node + bN (bitAt n k)) := by
      show readG tb base k (step st.1 (base + node) (dbit st.1 st.2 (base + node)), dx tb st.1 st.2 (base + node)) (2 * node + bN (dbit st.1 st.2 (base + node))) = _
      rw [hb]
      unfold dnext
      rw [hb]
    rw [e]
    refine ⟨?_, ?_⟩
    · rw [ih.1, Nat.mod_pow_succ]
      have hbn : bN (bitAt n k) = n / 2 ^ k % 2 := by
        unfold bN bitAt
        by_cases h1 : n / 2 ^ k % 2 = 1
        · rw [decide_eq_true h1, h1]; rfl
        · rw [decide_eq_false h1]
          show 0 = _
          omega
      rw [hbn, Nat.pow_succ, Nat.add_mul, Nat.mul_comm (2 ^ k) 2, ← Nat.mul_assoc node 2, Nat.mul_comm node 2, Nat.mul_comm (n / 2 ^ k % 2) (2 ^ k)]
      omega
    · have h2 := ih.2
      rw [List.append_assoc] at h2
      exact h2
theorem treeG_app (n base k node : Nat) (rest : List (Nat × Bool)) (x : Nat × Bool) (p : List (Nat × Bool)) : p ++ x :: (treeG n base k node ++ rest) = (p ++ [x]) ++ (treeG n base k node ++ rest) := by simp
/-- What is squeezed comes back, token by token. -/
theorem unpack_step (tb : Nat → Nat) (htb : ∀ j, tb j < 256) (L : List (Nat × Bool)) (hp : ∀ k, k ≤ (run rc0 L).n + 4 → pv tb k = (run rc0 L).low / 256 ^ ((run rc0 L).n + 4 - k)) (T : Nat → UInt8) (N : Nat) : ∀ k at_ p st, at_ ≤ N → N ≤ at_ + k → L = p ++ toksBits (parseG T N k at_) → Dinv tb p st → unpackG tb N k st (upto T at_) = some (upto T N)
  | 0, at_, _, _, h1, h2, _, _ => by
    have e : at_ = N := by omega
    subst e; rfl
  | k + 1, at_, p, st, h1, h2, hL, hd => by
    by_cases hl : at_ < N
    · have hs := stepAt_gt T N at_
      have hsl := stepAt_le T N at_ hl
      rw [parseG_step T N k at_ hl] at hL
      have hL2 : L = p ++ (tokBits (tokAt T N at_) ++ toksBits (parseG T N k (stepAt T N at_))) := hL
      show (if (upto T at_).length < N then _ else _) = _
      rw [upto_len, if_pos hl]
      by_cases hm : (bestAt T N at_).1 < 3
      · have et : tokAt T N at_ = ⟨((T at_).toNat : Int), 0, 0⟩ := if_pos hm
        have es : stepAt T N at_ = at_ + 1 := if_pos hm
        have eb : tokBits (tokAt T N at_) = (0, false) :: tree (T at_).toNat 8 16 := by rw [et]; unfold tokBits; rw [if_pos rfl]; rfl
        rw [eb] at hL2
        obtain ⟨hb, hd1⟩ := bit_back tb htb L p (tree (T at_).toNat 8 16 ++ toksBits (parseG T N k (stepAt T N at_))) 0 false hL2 hp st hd
        have hr := read_back tb htb L hp (T at_).toNat 16 8 1 (p ++ [(0, false)]) (toksBits (parseG T N k (stepAt T N at_))) (dnext tb st 0) (by rw [hL2]; simp [tree]) hd1
        have hT := (T at_).toNat_lt
        have hv : (readG tb 16 8 (dnext tb st 0) 1).2 - 256 = (T at_).toNat := by
          rw [hr.1, show (2 : Nat) ^ 8 = 256 from rfl, Nat.mod_eq_of_lt (by omega)]; omega
        rw [if_neg (by rw [hb]; decide), hv, UInt8.ofNat_toNat, ← upto_succ, ← es]
        exact unpack_step tb htb L hp T N k (stepAt T N at_) (p ++ [(0, false)] ++ treeG (T at_).toNat 16 8 1) _ hsl (by omega) (by rw [hL2]; simp [tree]) hr.2
      · obtain ⟨f1, f2, f3, f4, f5, f6⟩ := bestAt_facts T N at_ hm
        have et : tokAt T N at_ = ⟨0, (bestAt T N at_).1, (bestAt T N at_).2⟩ := if_neg hm
        have es : stepAt T N at_ = at_ + (bestAt T N at_).1 := if_neg hm
        have eb : tokBits (tokAt T N at_) = (0, true) :: (tree ((bestAt T N at_).1 - 3) 6 300 ++ tree ((bestAt T N at_).2 - 1) 10 400) := by
          rw [et]
          unfold tokBits
          rw [if_neg (by show ¬ ((bestAt T N at_).2 : Int) = 0; omega)]
          show (0, true) :: (tree (((bestAt T N at_).1 : Int) - 3).toNat 6 300 ++ tree (((bestAt T N at_).2 : Int) - 1).toNat 10 400) = _
          rw [show (((bestAt T N at_).1 : Int) - 3).toNat = (bestAt T N at_).1 - 3 by omega, show (((bestAt T N at_).2 : Int) - 1).toNat = (bestAt T N at_).2 - 1 by omega]
        rw [eb] at hL2
        generalize (bestAt T N at_).1 = m at *
        generalize (bestAt T N at_).2 = f at *
        obtain ⟨hb, hd1⟩ := bit_back tb htb L p ((tree (m - 3) 6 300 ++ tree (f - 1) 10 400) ++ toksBits (parseG T N k (stepAt T N at_))) 0 true hL2 hp st hd
        have hr := read_back tb htb L hp (m - 3) 300 6 1 (p ++ [(0, true)]) (tree (f - 1) 10 400 ++ toksBits (parseG T N k (stepAt T N at_))) (dnext tb st 0) (by rw [hL2]; simp [tree]) hd1
        have hr2 := read_back tb htb L hp (f - 1) 400 10 1 (p ++ [(0, true)] ++ treeG (m - 3) 300 6 1) (toksBits (parseG T N k (stepAt T N at_))) (readG tb 300 6 (dnext tb st 0) 1).1 (by rw [hL2]; simp [tree]) hr.2
        have hv1 : (readG tb 300 6 (dnext tb st 0) 1).2 - 64 + 3 = m := by
          rw [hr.1, show (2 : Nat) ^ 6 = 64 from rfl, Nat.mod_eq_of_lt (by omega)]; omega
        have hv2 : (readG tb 400 10 (readG tb 300 6 (dnext tb st 0) 1).1 1).2 - 1024 + 1 = f := by
          rw [hr2.1, show (2 : Nat) ^ 10 = 1024 from rfl, Nat.mod_eq_of_lt (by omega)]; omega
        rw [if_pos hb, hv1, hv2, if_neg (by omega), copy_upto T f at_ f1 f3 m f6, ← es]
        exact unpack_step tb htb L hp T N k (stepAt T N at_) (p ++ [(0, true)] ++ treeG (m - 3) 300 6 1 ++ treeG (f - 1) 400 10 1) _ hsl (by omega) (by rw [hL2]; simp [tree]) hr2.2
    · have e : at_ = N := by omega
      subst e
      show (if (upto T at_).length < at_ then _ else _) = _
      rw [upto_len, if_neg (by omega)]
theorem code_pv (L : List (Nat × Bool)) (tb : Nat → Nat) (h : ∀ j u, (codeOf L)[j]? = some u → tb j = u.toNat) : ∀ k, k ≤ (run rc0 L).n + 4 → pv tb k = (run rc0 L).low / 256 ^ ((run rc0 L).n + 4 - k) := by
  have hok := run_ok L rc0 rc0_ok
  have hfit := hok.fit
  have hlo := hok.lo
  have hv : (run rc0 L).low < 256 ^ ((run rc0 L).n + 4) := by
    rw [Nat.pow_add, Nat.mul_comm, show (256 : Nat) ^ 4 = 4294967296 from rfl]; omega
  refine pv_code tb _ _ hv (fun j hj => ?_)
  rw [h j _ (bytesOf_at _ _ j hj), UInt8.toNat_ofNat']
  omega
/-- What is squeezed comes back. -/
theorem unpack_back (T : Nat → UInt8) (N : Nat) (tb : Nat → Nat) (htb : ∀ j, tb j < 256) (h : ∀ j u, (codeOf (toksBits (parseL T N)))[j]? = some u → tb j = u.toNat) : unpackG tb N N (rc0, pv tb 4) [] = some (upto T N) :=
  unpack_step tb htb (toksBits (parseL T N)) (code_pv _ tb h) T N N 0 [] (rc0, pv tb 4) (Nat.zero_le _) (by omega) rfl ⟨rfl, by show 0 + pv tb 4 = pv tb (0 + 4); rw [Nat.zero_add, Nat.zero_add]⟩
/-- No token makes more than 66 bytes. -/
theorem unpackG_len (tb : Nat → Nat) (many : Nat) : ∀ k st b c, unpackG tb many k st b = some c → b.length ≤ many + 66 → b.length ≤ c.length ∧ c.length ≤ many + 66
  | 0, _, b, c, h, hb => by
    have e : b = c := Option.some.inj h
    subst e; exact ⟨Nat.le_refl _, hb⟩
  | k + 1, st, b, c, h, hb => by
    unfold unpackG at h
    split at h
    · rename_i hl
      split at h
      · split at h
        · cases h
        · have hn := (readG_node tb 300 6 (dnext tb st 0) 1).2
          have := unpackG_len tb many k _ _ c h (by rw [copyN_len]; have e : (1 + 1) * 2 ^ 6 = 128 := rfl; omega)
          rw [copyN_len] at this
          omega
      · have := unpackG_len tb many k _ _ c h (by rw [List.length_append]; show b.length + 1 ≤ _; omega)
        rw [List.length_append] at this
        have h2 : b.length + 1 ≤ c.length ∧ c.length ≤ many + 66 := this
        omega
    · have e : b = c := Option.some.inj h
      subst e; exact ⟨Nat.le_refl _, hb⟩
end Go.Proofs.YtconcnndghmdfaaGreatDoor
namespace Go.Proofs.YtconcnndghmdfaaGreatDoor
/-- The byte j of the n bytes of V. -/
def byN (n V j : Nat) : UInt8 := UInt8.ofNat (V / 256 ^ (n - 1 - j) % 256)
/-- V's bytes, the last k of them 0. -/
def cutZ (n V k j : Nat) : UInt8 := if n - k ≤ j then 0 else byN n V j
theorem bytesOf_byN (n V : Nat) : bytesOf n V = (List.range n).map (byN n V) := by
  apply List.ext_getElem?
  intro j
  by_cases hj : j < n
  · rw [bytesOf_at n V j hj, List.getElem?_map, List.getElem?_range hj]; rfl
  · rw [List.getElem?_eq_none (by rw [bytesOf_len]; omega), List.getElem?_eq_none (by simp; omega)]
theorem carry_num (V k : Nat) (h : V % 256 ^ k = 256 ^ k - 1) : (V + 1) = (V / 256 ^ k + 1) * 256 ^ k := by
  have hp : 0 < 256 ^ k := Nat.pow_pos (by decide)
  have h2 := Nat.div_add_mod V (256 ^ k)
  rw [Nat.add_mul, Nat.one_mul, Nat.mul_comm (V / 256 ^ k)]
  omega
/-- Where the last k bytes are 255 and the one ahead of them is not: the bytes of V + 1. -/
theorem carry_by (n V k j : Nat) (hk : k < n) (hj : j < n) (h : V % 256 ^ k = 256 ^ k - 1) (hb : V / 256 ^ k % 256 ≠ 255) :
    byN n (V + 1) j = if j = n - 1 - k then UInt8.ofNat (V / 256 ^ k % 256 + 1) else cutZ n V k j := by
  have hp : 0 < 256 ^ k := Nat.pow_pos (by decide)
  have hc := carry_num V k h
  obtain ⟨q, hq⟩ : ∃ q, q = V / 256 ^ k := ⟨_, rfl⟩
  rw [← hq] at hc hb ⊢
  unfold byN cutZ
  by_cases e : j = n - 1 - k
  · rw [if_pos e, show n - 1 - j = k by omega, hc, Nat.mul_div_cancel _ hp, show (q + 1) % 256 = q % 256 + 1 by omega]
  · rw [if_neg e]
    by_cases e2 : n - k ≤ j
    · rw [if_pos e2]
      have e3 : 256 ^ k = 256 ^ (k - 1 - (n - 1 - j)) * 256 * 256 ^ (n - 1 - j) := by
        rw [Nat.mul_assoc, Nat.mul_comm 256, ← Nat.mul_assoc, ← Nat.pow_add, ← Nat.pow_succ]; congr 1; omega
      rw [hc, e3, ← Nat.mul_assoc, Nat.mul_div_cancel _ (Nat.pow_pos (by decide)), ← Nat.mul_assoc, Nat.mul_mod_left]
      rfl
    · rw [if_neg e2]
      unfold byN
      have e3 : 256 ^ (n - 1 - j) = 256 ^ k * (256 * 256 ^ (n - 1 - j - k - 1)) := by
        rw [← Nat.pow_succ', ← Nat.pow_add]; congr 1; omega
      rw [e3, ← Nat.div_div_eq_div_mul, ← Nat.div_div_eq_div_mul, ← Nat.div_div_eq_div_mul, ← Nat.div_div_eq_div_mul, ← hq]
      rw [show (V + 1) / 256 ^ k = q + 1 by rw [hc, Nat.mul_div_cancel _ hp], show (q + 1) / 256 = q / 256 by omega]
theorem carry_more (V k : Nat) (h : V % 256 ^ k = 256 ^ k - 1) (hb : V / 256 ^ k % 256 = 255) : V % 256 ^ (k + 1) = 256 ^ (k + 1) - 1 := by
  have hp : 0 < 256 ^ k := Nat.pow_pos (by decide)
  rw [Nat.mod_pow_succ, h, hb, Nat.pow_succ]
  omega
theorem carry_never (n V : Nat) (hV : V + 1 < 256 ^ n) (h : V % 256 ^ n = 256 ^ n - 1) : False := by
  rw [Nat.mod_eq_of_lt (by omega)] at h
  omega
end Go.Proofs.YtconcnndghmdfaaGreatDoor
namespace Go.Proofs.YtconcnndghmdfaaGreatDoor
open Go Go.RowKit
theorem and64 (a : Nat) (ha : a < 18446744073709551616) : bits .and .u64 (a : Int) 4294967295 = ((a % 4294967296 : Nat) : Int) := by
  have hx : a &&& 4294967295 = a % 4294967296 := Nat.and_two_pow_sub_one_eq_mod a 32
  show IntKind.u64.wrap ((BitVec.ofInt 64 (a : Int) &&& BitVec.ofInt 64 ((4294967295 : Nat) : Int)).toNat : Int) = _
  rw [BitVec.toNat_and, BitVec.ofInt_natCast, BitVec.ofInt_natCast, BitVec.toNat_ofNat, BitVec.toNat_ofNat, Nat.mod_eq_of_lt ha, show 4294967295 % 2 ^ 64 = 4294967295 from rfl, hx, IntKind.wrap_u64]
  omega
theorem byN_snoc (n V : Nat) (b : UInt8) (j : Nat) (hj : j < n + 1) : byN (n + 1) (256 * V + b.toNat) j = if j = n then b else byN n V j := by
  have hb := b.toNat_lt
  unfold byN
  by_cases e : j = n
  · rw [if_pos e, e, show n + 1 - 1 - n = 0 by omega, Nat.pow_zero, Nat.div_one, show (256 * V + b.toNat) % 256 = b.toNat by omega, UInt8.ofNat_toNat]
  · rw [if_neg e, show n + 1 - 1 - j = (n - 1 - j) + 1 by omega, Nat.pow_succ, Nat.mul_comm (256 ^ (n - 1 - j)), ← Nat.div_div_eq_div_mul, show (256 * V + b.toNat) / 256 = V by omega]
theorem low_shift (L : Nat) : 256 * L / 4294967296 = 256 * (L / 4294967296) + L % 4294967296 / 16777216 ∧ 256 * L % 4294967296 = 256 * (L % 4294967296) % 4294967296 := by omega
end Go.Proofs.YtconcnndghmdfaaGreatDoor
namespace Go.Proofs.YtconcnndghmdfaaGreatDoor
open Go.RowKit
theorem norm_n_le (s : RC) : (norm s).n ≤ s.n + 1 := by unfold norm; split; exact Nat.le_refl _; exact Nat.le_succ _
theorem run_n_le : ∀ l s, (run s l).n ≤ s.n + l.length
  | [], _ => Nat.le_refl _
  | x :: l, s => by
    have h := run_n_le l (step s x.1 x.2)
    have h2 : (step s x.1 x.2).n ≤ s.n + 1 := by have := norm_n_le (part1 s x.1 x.2); rw [part1_n] at this; exact this
    show (run (step s x.1 x.2) l).n ≤ s.n + (l.length + 1)
    omega
/-- Bits in memory, behind the value v. -/
def BitsAt (w : World) (B : Nat) (v : Value) (l : List (Nat × Bool)) : Prop :=
  ∃ a cap, v = .slice a l.length cap ∧ l.length ≤ cap ∧ (l = [] ∨ ∃ r o, a = some ⟨r, o, none⟩ ∧ r < B ∧ ∀ j x, l[j]? = some x → w.cell? ⟨r, o + 2 * j, none⟩ = some (.int .i64 (x.1 : Int)) ∧ w.cell? ⟨r, o + 2 * j + 1, none⟩ = some (.bool x.2))
theorem take_step (L : List (Nat × Bool)) (k : Nat) (x : Nat × Bool) (h : L[k]? = some x) : run rc0 (L.take (k + 1)) = step (run rc0 (L.take k)) x.1 x.2 := by
  have hk : k < L.length := (List.getElem?_eq_some_iff.1 h).1
  rw [List.take_succ_eq_append_getElem hk, run_snoc]
  rw [List.getElem?_eq_getElem hk] at h
  rw [Option.some.inj h]
theorem code4 (n L : Nat) (b3 b2 b1 b0 : UInt8) (h3 : b3.toNat = L % 4294967296 / 16777216) (h2 : b2.toNat = L % 4294967296 / 65536 % 256) (h1 : b1.toNat = L % 4294967296 / 256 % 256) (h0 : b0.toNat = L % 4294967296 % 256) :
    bytesOf (n + 4) L = (List.range n).map (byN n (L / 4294967296)) ++ [b3, b2, b1, b0] := by
  have e : L = 256 * (256 * (256 * (256 * (L / 4294967296) + b3.toNat) + b2.toNat) + b1.toNat) + b0.toNat := by omega
  have g : bytesOf (n + 3 + 1) L = bytesOf n (L / 4294967296) ++ [b3] ++ [b2] ++ [b1] ++ [b0] := by
    rw [← bytesOf_snoc, ← bytesOf_snoc, ← bytesOf_snoc, ← bytesOf_snoc, ← e]
  rw [show n + 4 = n + 3 + 1 from rfl, g, bytesOf_byN]
  simp
theorem conv_own {P : Program} {w : World} {base e src dst g N cap : Nat} {l : List UInt8} (h : w.ownsRow base e 1 (.slice (some ⟨g, 0, none⟩) N cap) N (l.map byteV)) (hN : l.length = N) (hs : P.underlying src = some (.slice e)) (he : P.underlying e = some (.int .u8)) (hd : P.underlying dst = some .string) :
    (convert src dst (.slice (some ⟨g, 0, none⟩) N cap)).run P w = .ok (.string ⟨l.toArray⟩) w := by
  subst hN
  exact run_convert_bytes_back (P := P) w src dst e ⟨g, 0, none⟩ cap l hs he hd (fun j hj => by
    have e3 : (⟨g, 0, none⟩ : Addr).add j = ⟨g, j, none⟩ := by by_cases hz : j = 0 <;> simp [Addr.add, hz]
    rw [e3, h.cellAt j (by omega), List.getElem?_map, List.getElem?_eq_getElem hj]; rfl)
/-- Bits in memory, whatever their contexts. -/
def BitsI (w : World) (B : Nat) (v : Value) (l : List (Int × Bool)) : Prop :=
  ∃ a cap, v = .slice a l.length cap ∧ l.length ≤ cap ∧ (l = [] ∨ ∃ r o, a = some ⟨r, o, none⟩ ∧ r < B ∧ ∀ j x, l[j]? = some x → w.cell? ⟨r, o + 2 * j, none⟩ = some (.int .i64 x.1) ∧ w.cell? ⟨r, o + 2 * j + 1, none⟩ = some (.bool x.2))
def ctxOk (n : Int) : Bool := decide (0 ≤ n ∧ n < 1600)
def bitsN (l : List (Int × Bool)) : List (Nat × Bool) := l.map fun x => (x.1.toNat, x.2)
/-- RangeEncode. -/
def encS (l : List (Int × Bool)) : ByteArray := if l.length ≤ 400 ∧ ∀ x ∈ l, ctxOk x.1 = true then ⟨(codeOf (bitsN l)).toArray⟩ else ⟨#[]⟩
theorem BitsI.nat {w : World} {B : Nat} {v : Value} {l : List (Int × Bool)} (h : BitsI w B v l) (hc : ∀ x ∈ l, ctxOk x.1 = true) : BitsAt w B v (bitsN l) := by
  obtain ⟨a, cap, rfl, hcap, hb⟩ := h
  have hlen : (bitsN l).length = l.length := by simp [bitsN]
  refine ⟨a, cap, by rw [hlen], by rw [hlen]; exact hcap, ?_⟩
  rcases hb with rfl | ⟨r, o, rfl, hr, hcell⟩
  · exact .inl rfl
  · refine .inr ⟨r, o, rfl, hr, fun j x hx => ?_⟩
    unfold bitsN at hx
    rw [List.getElem?_map] at hx
    obtain ⟨y, hy, rfl⟩ := Option.map_eq_some_iff.1 hx
    have h := hcell j y hy
    have h2 := of_decide_eq_true (hc y (List.mem_of_getElem? hy))
    refine ⟨?_, h.2⟩
    show _ = some (Value.int .i64 ((y.1.toNat : Nat) : Int))
    rw [h.1, Int.toNat_of_nonneg h2.1]
theorem BitsI.below {w w' : World} {B : Nat} {v : Value} {l : List (Int × Bool)} (h : BitsI w B v l) (hb : Below B w w') : BitsI w' B v l := by
  obtain ⟨a, cap, e, hc, h⟩ := h
  refine ⟨a, cap, e, hc, ?_⟩
  rcases h with h | ⟨r, o, e2, hr, hcell⟩
  · exact .inl h
  · exact .inr ⟨r, o, e2, hr, fun j x hx => ⟨(hb.cell (p := ⟨r, o + 2 * j, none⟩) hr).trans (hcell j x hx).1, (hb.cell (p := ⟨r, o + 2 * j + 1, none⟩) hr).trans (hcell j x hx).2⟩⟩
theorem BitsI.wide {w : World} {B C : Nat} {v : Value} {l : List (Int × Bool)} (h : BitsI w B v l) (hb : B ≤ C) : BitsI w C v l := by
  obtain ⟨a, cap, e, hc, h⟩ := h
  refine ⟨a, cap, e, hc, ?_⟩
  rcases h with h | ⟨r, o, e2, hr, hcell⟩
  · exact .inl h
  · exact .inr ⟨r, o, e2, Nat.lt_of_lt_of_le hr hb, hcell⟩
end Go.Proofs.YtconcnndghmdfaaGreatDoor
namespace Go.Proofs.YtconcnndghmdfaaGreatDoor
open Go.RowKit
/-- The cells of bits. -/
def bitC (l : List (Int × Bool)) : List Value := l.flatMap fun x => [.int .i64 x.1, .bool x.2]
theorem bitC_len : ∀ l, (bitC l).length = l.length * 2
  | [] => rfl
  | x :: l => by
    show (bitC l).length + 2 = (l.length + 1) * 2
    rw [bitC_len l]; omega
theorem bitC_snoc (l : List (Int × Bool)) (x : Int × Bool) : bitC (l ++ [x]) = bitC l ++ [.int .i64 x.1, .bool x.2] := by simp [bitC]
theorem bitC_at : ∀ (l : List (Int × Bool)) (j : Nat) (x : Int × Bool), l[j]? = some x → (bitC l)[2 * j]? = some (.int .i64 x.1) ∧ (bitC l)[2 * j + 1]? = some (.bool x.2)
  | [], j, x, h => by simp at h
  | y :: l, 0, x, h => by
    have e : y = x := by simpa using h
    subst e
    exact ⟨rfl, rfl⟩
  | y :: l, j + 1, x, h => by
    have h2 := bitC_at l j x (by simpa using h)
    show (Value.int .i64 y.1 :: Value.bool y.2 :: bitC l)[2 * (j + 1)]? = _ ∧ (Value.int .i64 y.1 :: Value.bool y.2 :: bitC l)[2 * (j + 1) + 1]? = _
    rw [show 2 * (j + 1) = 2 * j + 1 + 1 by omega, List.getElem?_cons_succ, List.getElem?_cons_succ, List.getElem?_cons_succ, List.getElem?_cons_succ]
    exact h2
/-- Bits that a call has gathered are bits in memory. -/
theorem own_bits {w : World} {base e : Nat} {v : Value} {l : List (Int × Bool)} (h : w.ownsRow base e 2 v l.length (bitC l)) : BitsI w w.heap.size v l := by
  have h0 := h
  obtain ⟨_, ⟨rfl, hn⟩ | ⟨g, cap, cur, rfl, hg, hb, hc, _⟩⟩ := h
  · exact ⟨none, 0, by rw [hn], by omega, .inl (List.length_eq_zero_iff.1 hn)⟩
  · refine ⟨_, cap, rfl, hc, .inr ⟨g, 0, rfl, (h0.lt g rfl).2, fun j x hx => ?_⟩⟩
    have hj := (List.getElem?_eq_some_iff.1 hx).1
    rw [Nat.zero_add, h0.cellAt (2 * j) (by omega), h0.cellAt (2 * j + 1) (by omega)]
    exact bitC_at l j x hx
end Go.Proofs.YtconcnndghmdfaaGreatDoor
namespace Go.Proofs.YtconcnndghmdfaaGreatDoor
open Go.RowKit
/-- A token, as a value. -/
def tokV (t : Tok) : Value := .agg #[.int .i64 t.b, .int .i64 t.m, .int .i64 t.f]
/-- How many bytes a token makes. -/
def tokSize (m : Int) : Int := if m = 0 then 1 else m
/-- The cells of tokens. -/
def tokC (l : List Tok) : List Value := l.flatMap fun x => [.int .i64 x.b, .int .i64 x.m, .int .i64 x.f]
theorem tokC_len : ∀ l, (tokC l).length = l.length * 3
  | [] => rfl
  | x :: l => by
    show (tokC l).length + 3 = (l.length + 1) * 3
    rw [tokC_len l]; omega
theorem tokC_snoc (l : List Tok) (x : Tok) : tokC (l ++ [x]) = tokC l ++ [.int .i64 x.b, .int .i64 x.m, .int .i64 x.f] := by simp [tokC]
theorem tokC_at : ∀ (l : List Tok) (j : Nat) (x : Tok), l[j]? = some x → (tokC l)[3 * j]? = some (.int .i64 x.b) ∧ (tokC l)[3 * j + 1]? = some (.int .i64 x.m) ∧ (tokC l)[3 * j + 2]? = some (.int .i64 x.f)
  | [], j, x, h => by simp at h
  | y :: l, 0, x, h => by
    have e : y = x := by simpa using h
    subst e
    exact ⟨rfl, rfl, rfl⟩
  | y :: l, j + 1, x, h => by
    have h2 := tokC_at l j x (by simpa using h)
    show (Value.int .i64 y.b :: Value.int .i64 y.m :: Value.int .i64 y.f :: tokC l)[3 * (j + 1)]? = _ ∧ (Value.int .i64 y.b :: Value.int .i64 y.m :: Value.int .i64 y.f :: tokC l)[3 * (j + 1) + 1]? = _ ∧ (Value.int .i64 y.b :: Value.int .i64 y.m :: Value.int .i64 y.f :: tokC l)[3 * (j + 1) + 2]? = _
    rw [show 3 * (j + 1) = 3 * j + 1 + 1 + 1 by omega, show 3 * j + 1 + 1 + 1 + 1 = (3 * j + 1) + 1 + 1 + 1 by omega, show 3 * j + 1 + 1 + 1 + 2 = (3 * j + 2) + 1 + 1 + 1 by omega]
    simp only [List.getElem?_cons_succ]
    exact h2
/-- Tokens in memory. -/
def TokI (w : World) (B : Nat) (v : Value) (l : List Tok) : Prop :=
  ∃ a cap, v = .slice a l.length cap ∧ l.length ≤ cap ∧ (l = [] ∨ ∃ r o, a = some ⟨r, o, none⟩ ∧ r < B ∧ ∀ j x, l[j]? = some x → w.cell? ⟨r, o + 3 * j, none⟩ = some (.int .i64 x.b) ∧ w.cell? ⟨r, o + 3 * j + 1, none⟩ = some (.int .i64 x.m) ∧ w.cell? ⟨r, o + 3 * j + 2, none⟩ = some (.int .i64 x.f))
theorem own_toks {w : World} {base e : Nat} {v : Value} {l : List Tok} (h : w.ownsRow base e 3 v l.length (tokC l)) : TokI w w.heap.size v l := by
  have h0 := h
  obtain ⟨_, ⟨rfl, hn⟩ | ⟨g, cap, cur, rfl, hg, hb, hc, _⟩⟩ := h
  · exact ⟨none, 0, by rw [hn], by omega, .inl (List.length_eq_zero_iff.1 hn)⟩
  · refine ⟨_, cap, rfl, hc, .inr ⟨g, 0, rfl, (h0.lt g rfl).2, fun j x hx => ?_⟩⟩
    have hj := (List.getElem?_eq_some_iff.1 hx).1
    rw [Nat.zero_add, h0.cellAt (3 * j) (by omega), h0.cellAt (3 * j + 1) (by omega), h0.cellAt (3 * j + 2) (by omega)]
    exact tokC_at l j x hx
theorem TokI.below {w w' : World} {B : Nat} {v : Value} {l : List Tok} (h : TokI w B v l) (hb : Below B w w') : TokI w' B v l := by
  obtain ⟨a, cap, e, hc, h⟩ := h
  refine ⟨a, cap, e, hc, ?_⟩
  rcases h with h | ⟨r, o, e2, hr, hcell⟩
  · exact .inl h
  · exact .inr ⟨r, o, e2, hr, fun j x hx => ⟨(hb.cell (p := ⟨r, o + 3 * j, none⟩) hr).trans (hcell j x hx).1, (hb.cell (p := ⟨r, o + 3 * j + 1, none⟩) hr).trans (hcell j x hx).2.1, (hb.cell (p := ⟨r, o + 3 * j + 2, none⟩) hr).trans (hcell j x hx).2.2⟩⟩
theorem TokI.wide {w : World} {B C : Nat} {v : Value} {l : List Tok} (h : TokI w B v l) (hb : B ≤ C) : TokI w C v l := by
  obtain ⟨a, cap, e, hc, h⟩ := h
  refine ⟨a, cap, e, hc, ?_⟩
  rcases h with h | ⟨r, o, e2, hr, hcell⟩
  · exact .inl h
  · exact .inr ⟨r, o, e2, Nat.lt_of_lt_of_le hr hb, hcell⟩
theorem tri_cells (w : World) (x y z : Value) (t n : Nat) (hn : w.heap.size = n) : ∀ (j : Nat) (u : Value), [x, y, z][j]? = some u → (w.alloc (.cells #[x, y, z] t)).cell? ((⟨n, 0, none⟩ : Addr).add j) = some u := by
  subst hn; exact World.news_of_block (heap_alloc_new w (.cells #[x, y, z] t))
theorem tri_one (x y z : Int) : ∀ u ∈ [Value.int .i64 x, Value.int .i64 y, Value.int .i64 z], u.oneCell' = true := by intro u hu; simp at hu; rcases hu with rfl | rfl | rfl <;> rfl
theorem split_at {α : Type} (l : List α) (k : Nat) (x : α) (h : l[k]? = some x) : l = l.take k ++ x :: l.drop (k + 1) := by
  have hk := (List.getElem?_eq_some_iff.1 h).1
  rw [List.getElem?_eq_getElem hk] at h
  rw [← Option.some.inj h, List.getElem_cons_drop, List.take_append_drop]
theorem take_snoc {α : Type} (l : List α) (k : Nat) (x : α) (h : l[k]? = some x) : l.take (k + 1) = l.take k ++ [x] := by
  have hk := (List.getElem?_eq_some_iff.1 h).1
  rw [List.take_succ_eq_append_getElem hk]
  rw [List.getElem?_eq_getElem hk] at h
  rw [Option.some.inj h]
theorem tokOk_cases (x : Tok) (h : tokOk x = true) : (x.f = 0 ∧ x.m = 0 ∧ 0 ≤ x.b ∧ x.b ≤ 255) ∨ (x.f ≠ 0 ∧ 3 ≤ x.m ∧ x.m ≤ 66 ∧ 1 ≤ x.f ∧ x.f ≤ 1024) := by
  unfold tokOk at h
  split at h
  · rename_i h2
    have := of_decide_eq_true h
    exact .inl ⟨h2.2, h2.1, this.1, this.2⟩
  · have := of_decide_eq_true h
    exact .inr ⟨by omega, this.2⟩
end Go.Proofs.YtconcnndghmdfaaGreatDoor

/- A binary range coder on plain numbers: its steps, its code, its decoder; bits come back from their code. No program is named here. -/
import Derived.WalkKit
namespace Go.Proofs.YtconcnndghmdfaaGreatDoor
/-- The value of bytes, the highest first. -/
def val : List UInt8 → Nat := fun l => l.foldl (fun n b => 256 * n + b.toNat) 0
theorem val_snoc (l : List UInt8) (b : UInt8) : val (l ++ [b]) = 256 * val l + b.toNat := by simp [val, List.foldl_append]
/-- A number in k bytes, the highest first. -/
def bytesOf : Nat → Nat → List UInt8
  | 0, _ => []
  | k + 1, v => bytesOf k (v / 256) ++ [UInt8.ofNat (v % 256)]
theorem bytesOf_len : ∀ k v, (bytesOf k v).length = k
  | 0, _ => rfl
  | k + 1, v => by simp [bytesOf, bytesOf_len k]
theorem bytesOf_snoc (k v : Nat) (b : UInt8) : bytesOf (k + 1) (256 * v + b.toNat) = bytesOf k v ++ [b] := by
  have hb := b.toNat_lt
  show bytesOf k ((256 * v + b.toNat) / 256) ++ [UInt8.ofNat ((256 * v + b.toNat) % 256)] = _
  rw [show (256 * v + b.toNat) / 256 = v by omega, show (256 * v + b.toNat) % 256 = b.toNat by omega, UInt8.ofNat_toNat]
theorem bytesOf_at : ∀ k v j, j < k → (bytesOf k v)[j]? = some (UInt8.ofNat (v / 256 ^ (k - 1 - j) % 256))
  | 0, _, _, h => by omega
  | k + 1, v, j, h => by
    unfold bytesOf
    by_cases e : j < k
    · rw [List.getElem?_append_left (by rw [bytesOf_len]; exact e), bytesOf_at k (v / 256) j e, Nat.div_div_eq_div_mul, show k + 1 - 1 - j = (k - 1 - j) + 1 by omega, Nat.pow_succ, Nat.mul_comm 256]
    · rw [List.getElem?_append_right (by rw [bytesOf_len]; omega), bytesOf_len, show j - k = 0 by omega, show k + 1 - 1 - j = 0 by omega]
      simp
theorem val_bytesOf : ∀ k v, v < 256 ^ k → val (bytesOf k v) = v
  | 0, v, h => by simp [bytesOf, val] at h ⊢; omega
  | k + 1, v, h => by
    unfold bytesOf
    rw [val_snoc, val_bytesOf k (v / 256) (by rw [Nat.pow_succ] at h; omega), UInt8.toNat_ofNat']
    omega
/-- The coder's state: its range, its chances, its low with all that is out, and how many bytes are out. -/
structure RC where
  size : Nat
  ch : Nat → Nat
  low : Nat
  n : Nat
def bound (s : RC) (c : Nat) : Nat := s.size / 2048 * s.ch c
def chOne (p : Nat) : Nat := p - p / 32
def chNot (p : Nat) : Nat := p + (2048 - p) / 32
def setCh (ch : Nat → Nat) (c p : Nat) : Nat → Nat := fun j => if j = c then p else ch j
/-- A bit, ahead of the multiplications. -/
def part1 (s : RC) (c : Nat) (one : Bool) : RC := if one then ⟨s.size - bound s c, setCh s.ch c (chOne (s.ch c)), s.low + bound s c, s.n⟩ else ⟨bound s c, setCh s.ch c (chNot (s.ch c)), s.low, s.n⟩
/-- A multiplication by 256, where the range is too small. (One is enough.) -/
def norm (s : RC) : RC := if s.size < 16777216 then ⟨256 * s.size, s.ch, 256 * s.low, s.n + 1⟩ else s
def step (s : RC) (c : Nat) (one : Bool) : RC := norm (part1 s c one)
def rc0 : RC := ⟨4294967295, fun _ => 1024, 0, 0⟩
/-- What holds of a coder between bits. -/
structure RcOk (s : RC) : Prop where
  lo : 16777216 ≤ s.size
  hi : s.size ≤ 4294967295
  ch : ∀ c, 31 ≤ s.ch c ∧ s.ch c ≤ 2017
  fit : s.low + s.size ≤ 4294967296 * 256 ^ s.n
theorem rc0_ok : RcOk rc0 := ⟨by decide, by decide, fun _ => ⟨by show 31 ≤ 1024; omega, by show 1024 ≤ 2017; omega⟩, by decide⟩
theorem chOne_ok (p : Nat) (h : 31 ≤ p ∧ p ≤ 2017) : 31 ≤ chOne p ∧ chOne p ≤ 2017 := by unfold chOne; omega
theorem chNot_ok (p : Nat) (h : 31 ≤ p ∧ p ≤ 2017) : 31 ≤ chNot p ∧ chNot p ≤ 2017 := by unfold chNot; omega
/-- The bound lies well inside the range. -/
theorem bound_in (s : RC) (c : Nat) (h : RcOk s) : 131072 ≤ bound s c ∧ bound s c + 131072 ≤ s.size := by
  obtain ⟨h1, h2⟩ := h.ch c
  have h3 := h.lo
  unfold bound
  obtain ⟨q, hq⟩ : ∃ q, q = s.size / 2048 := ⟨_, rfl⟩
  rw [← hq]
  have hq1 : 8192 ≤ q := by omega
  have hq2 : 2048 * q ≤ s.size := by omega
  have a1 : 8192 * 31 ≤ q * s.ch c := Nat.mul_le_mul hq1 h1
  have a2 : q * s.ch c ≤ q * 2017 := Nat.mul_le_mul_left q h2
  omega
theorem part1_ok (s : RC) (c : Nat) (one : Bool) (h : RcOk s) : 131072 ≤ (part1 s c one).size ∧ (part1 s c one).size ≤ 4294967295 ∧ (∀ j, 31 ≤ (part1 s c one).ch j ∧ (part1 s c one).ch j ≤ 2017) ∧ (part1 s c one).low + (part1 s c one).size ≤ 4294967296 * 256 ^ s.n ∧ (part1 s c one).n = s.n := by
  obtain ⟨b1, b2⟩ := bound_in s c h
  have hh := h.hi
  have hf := h.fit
  unfold part1
  cases one
  · refine ⟨b1, by show bound s c ≤ _; omega, fun j => ?_, by show s.low + bound s c ≤ _; omega, rfl⟩
    show 31 ≤ (if j = c then chNot (s.ch c) else s.ch j) ∧ (if j = c then chNot (s.ch c) else s.ch j) ≤ 2017
    split
    · exact chNot_ok _ (h.ch c)
    · exact h.ch j
  · refine ⟨by show _ ≤ s.size - bound s c; omega, by show s.size - bound s c ≤ _; omega, fun j => ?_, by show s.low + bound s c + (s.size - bound s c) ≤ _; omega, rfl⟩
    show 31 ≤ (if j = c then chOne (s.ch c) else s.ch j) ∧ (if j = c then chOne (s.ch c) else s.ch j) ≤ 2017
    split
    · exact chOne_ok _ (h.ch c)
    · exact h.ch j
theorem norm_ok (s : RC) (h1 : 131072 ≤ s.size) (h2 : s.size ≤ 4294967295) (h3 : ∀ j, 31 ≤ s.ch j ∧ s.ch j ≤ 2017) (h4 : s.low + s.size ≤ 4294967296 * 256 ^ s.n) : RcOk (norm s) := by
  unfold norm
  by_cases e : s.size < 16777216
  · rw [if_pos e]
    exact ⟨by show _ ≤ 256 * s.size; omega, by show 256 * s.size ≤ _; omega, h3, by show 256 * s.low + 256 * s.size ≤ 4294967296 * 256 ^ (s.n + 1); rw [Nat.pow_succ]; omega⟩
  · rw [if_neg e]
    exact ⟨by omega, h2, h3, h4⟩
theorem step_ok (s : RC) (c : Nat) (one : Bool) (h : RcOk s) : RcOk (step s c one) := by
  obtain ⟨a, b, d, e, f⟩ := part1_ok s c one h
  exact norm_ok _ a b d (by rw [f]; exact e)
/-- The coder behind bits. -/
def run : RC → List (Nat × Bool) → RC
  | s, [] => s
  | s, x :: l => run (step s x.1 x.2) l
theorem run_ok : ∀ l s, RcOk s → RcOk (run s l)
  | [], _, h => h
  | x :: l, s, h => run_ok l _ (step_ok s x.1 x.2 h)
theorem run_snoc : ∀ l s x, run s (l ++ [x]) = step (run s l) x.1 x.2
  | [], _, _ => rfl
  | y :: l, s, x => run_snoc l (step s y.1 y.2) x
/-- The code of bits. -/
def codeOf (l : List (Nat × Bool)) : List UInt8 := bytesOf ((run rc0 l).n + 4) (run rc0 l).low
theorem part1_in (s : RC) (c : Nat) (one : Bool) (h : RcOk s) : s.low ≤ (part1 s c one).low ∧ (part1 s c one).low + (part1 s c one).size ≤ s.low + s.size := by
  obtain ⟨b1, b2⟩ := bound_in s c h
  unfold part1
  cases one
  · exact ⟨Nat.le_refl _, by show s.low + bound s c ≤ _; omega⟩
  · exact ⟨by show _ ≤ s.low + bound s c; omega, by show s.low + bound s c + (s.size - bound s c) ≤ _; omega⟩
theorem part1_n (s : RC) (c : Nat) (one : Bool) : (part1 s c one).n = s.n := by unfold part1; split <;> rfl
theorem norm_n (s : RC) : s.n ≤ (norm s).n := by
  unfold norm
  split
  · exact Nat.le_succ _
  · exact Nat.le_refl _
theorem step_n (s : RC) (c : Nat) (one : Bool) : s.n ≤ (step s c one).n := by
  have h := norm_n (part1 s c one)
  rw [part1_n] at h; exact h
theorem run_n : ∀ l s, s.n ≤ (run s l).n
  | [], _ => Nat.le_refl _
  | x :: l, s => Nat.le_trans (step_n s x.1 x.2) (run_n l (step s x.1 x.2))
theorem norm_scale (s : RC) (M : Nat) (h : (norm s).n ≤ M) : (norm s).low * 256 ^ (M - (norm s).n) = s.low * 256 ^ (M - s.n) ∧ ((norm s).low + (norm s).size) * 256 ^ (M - (norm s).n) = (s.low + s.size) * 256 ^ (M - s.n) := by
  unfold norm at h ⊢
  by_cases e : s.size < 16777216
  · rw [if_pos e] at h ⊢
    have h' : s.n + 1 ≤ M := h
    show 256 * s.low * 256 ^ (M - (s.n + 1)) = _ ∧ (256 * s.low + 256 * s.size) * 256 ^ (M - (s.n + 1)) = _
    rw [show M - s.n = (M - (s.n + 1)) + 1 by omega, Nat.pow_succ]
    generalize 256 ^ (M - (s.n + 1)) = Z
    rw [← Nat.mul_add, Nat.mul_comm Z 256, Nat.mul_comm 256 s.low, Nat.mul_comm 256 (s.low + s.size), Nat.mul_assoc, Nat.mul_assoc]
    exact ⟨rfl, rfl⟩
  · rw [if_neg e]; exact ⟨rfl, rfl⟩
/-- Behind bits low lies in the range that there was. -/
theorem run_in : ∀ l s, RcOk s → s.low * 256 ^ ((run s l).n - s.n) ≤ (run s l).low ∧ (run s l).low + (run s l).size ≤ (s.low + s.size) * 256 ^ ((run s l).n - s.n)
  | [], s, _ => by simp [run]
  | x :: l, s, h => by
    obtain ⟨i1, i2⟩ := run_in l (step s x.1 x.2) (step_ok s x.1 x.2 h)
    obtain ⟨p1, p2⟩ := part1_in s x.1 x.2 h
    have hn := run_n l (step s x.1 x.2)
    obtain ⟨q1, q2⟩ := norm_scale (part1 s x.1 x.2) _ hn
    rw [part1_n] at q1 q2
    exact ⟨Nat.le_trans (Nat.mul_le_mul_right _ p1) (q1 ▸ i1), Nat.le_trans i2 (Nat.le_trans (Nat.le_of_eq q2) (Nat.mul_le_mul_right _ p2))⟩
/-- Behind bits low lies in the part of the range that was taken for the first of them. -/
theorem run_part (l : List (Nat × Bool)) (s : RC) (c : Nat) (one : Bool) (h : RcOk s) : (part1 s c one).low * 256 ^ ((run (step s c one) l).n - s.n) ≤ (run (step s c one) l).low ∧ (run (step s c one) l).low < ((part1 s c one).low + (part1 s c one).size) * 256 ^ ((run (step s c one) l).n - s.n) := by
  have hok := step_ok s c one h
  obtain ⟨i1, i2⟩ := run_in l (step s c one) hok
  have hF := (run_ok l (step s c one) hok).lo
  obtain ⟨q1, q2⟩ := norm_scale (part1 s c one) _ (run_n l (step s c one))
  rw [part1_n] at q1 q2
  refine ⟨q1 ▸ i1, ?_⟩
  have i2' := i2
  have e : ((step s c one).low + (step s c one).size) * 256 ^ ((run (step s c one) l).n - (step s c one).n) = ((part1 s c one).low + (part1 s c one).size) * 256 ^ ((run (step s c one) l).n - s.n) := q2
  rw [e] at i2'
  omega
/-- The first k bytes, as a number. -/
def pv (tb : Nat → Nat) : Nat → Nat
  | 0 => 0
  | k + 1 => 256 * pv tb k + tb k
/-- The decoder: what is left, and the bit. -/
def dbit (s : RC) (x c : Nat) : Bool := decide (bound s c ≤ x)
def dx1 (s : RC) (x c : Nat) : Nat := if bound s c ≤ x then x - bound s c else x
def dx (tb : Nat → Nat) (s : RC) (x c : Nat) : Nat := if (part1 s c (dbit s x c)).size < 16777216 then (256 * dx1 s x c + tb (s.n + 4)) % 18446744073709551616 else dx1 s x c
/-- The decoder behind contexts: its range and chances (low: as the coder's of these bits), what is left; and its bits. -/
def drun (tb : Nat → Nat) : RC → Nat → List Nat → RC × Nat
  | s, x, [] => (s, x)
  | s, x, c :: l => drun tb (step s c (dbit s x c)) (dx tb s x c) l
def dbits (tb : Nat → Nat) : RC → Nat → List Nat → List Bool
  | _, _, [] => []
  | s, x, c :: l => dbit s x c :: dbits tb (step s c (dbit s x c)) (dx tb s x c) l
theorem dbits_len (tb : Nat → Nat) : ∀ l s x, (dbits tb s x l).length = l.length
  | [], _, _ => rfl
  | _ :: l, _, _ => congrArg Nat.succ (dbits_len tb l _ _)
theorem div_le_lt {F L S Z : Nat} (hZ : 0 < Z) (h1 : L * Z ≤ F) (h2 : F < (L + S) * Z) : L ≤ F / Z ∧ F / Z < L + S :=
  ⟨(Nat.le_div_iff_mul_le hZ).2 h1, (Nat.div_lt_iff_lt_mul hZ).2 h2⟩
/-- Bits come back from their code. -/
theorem bits_back (tb : Nat → Nat) (htb : ∀ j, tb j < 256) (M : Nat) : ∀ l s x, RcOk s → M = (run s l).n → (∀ k, k ≤ M + 4 → pv tb k = (run s l).low / 256 ^ (M + 4 - k)) → s.low + x = pv tb (s.n + 4) →
    dbits tb s x (l.map (·.1)) = l.map (·.2)
  | [], _, _, _, _, _, _ => rfl
  | (c, one) :: l, s, x, h, hM, hp, hx => by
    have hM' : M = (run (step s c one) l).n := hM
    have hp' : ∀ k, k ≤ M + 4 → pv tb k = (run (step s c one) l).low / 256 ^ (M + 4 - k) := hp
    have hns := step_n s c one
    have hn := run_n l (step s c one)
    rw [← hM'] at hn
    obtain ⟨r1, r2⟩ := run_part l s c one h
    rw [← hM'] at r1 r2
    have hq := hp' (s.n + 4) (by omega)
    rw [show M + 4 - (s.n + 4) = M - s.n by omega] at hq
    obtain ⟨k1, k2⟩ := div_le_lt (Nat.pow_pos (by decide)) r1 r2
    rw [← hq] at k1 k2
    obtain ⟨b1, b2⟩ := bound_in s c h
    have hkey : dbit s x c = one ∧ (part1 s c one).low + dx1 s x c = pv tb (s.n + 4) := by
      unfold part1 at k1 k2 ⊢
      unfold dbit dx1
      cases one
      · have k2' : pv tb (s.n + 4) < s.low + bound s c := k2
        have hlt : ¬ bound s c ≤ x := by omega
        refine ⟨decide_eq_false hlt, ?_⟩
        rw [if_neg hlt]; exact hx
      · have k1' : s.low + bound s c ≤ pv tb (s.n + 4) := k1
        have hle : bound s c ≤ x := by omega
        refine ⟨decide_eq_true hle, ?_⟩
        rw [if_pos hle]
        show s.low + bound s c + (x - bound s c) = _
        omega
    obtain ⟨hb, hd⟩ := hkey
    show dbit s x c :: dbits tb (step s c (dbit s x c)) (dx tb s x c) (l.map (·.1)) = one :: l.map (·.2)
    rw [hb, bits_back tb htb M l (step s c one) (dx tb s x c) (step_ok s c one h) hM' hp' ?_]
    unfold dx step norm
    rw [hb]
    by_cases e : (part1 s c one).size < 16777216
    · rw [if_pos e, if_pos e]
      show 256 * (part1 s c one).low + (256 * dx1 s x c + tb (s.n + 4)) % 18446744073709551616 = pv tb ((part1 s c one).n + 1 + 4)
      have ht := htb (s.n + 4)
      rw [part1_n, show s.n + 1 + 4 = (s.n + 4) + 1 by omega, Nat.mod_eq_of_lt (by omega)]
      show _ = 256 * pv tb (s.n + 4) + tb (s.n + 4)
      omega
    · rw [if_neg e, if_neg e, part1_n]; exact hd
/-- The first bytes of a code, as numbers. -/
theorem pv_code (tb : Nat → Nat) (m v : Nat) (hv : v < 256 ^ m) (ht : ∀ j, j < m → tb j = v / 256 ^ (m - 1 - j) % 256) : ∀ k, k ≤ m → pv tb k = v / 256 ^ (m - k)
  | 0, _ => by rw [Nat.sub_zero, Nat.div_eq_of_lt hv]; rfl
  | k + 1, hk => by
    show 256 * pv tb k + tb k = _
    rw [pv_code tb m v hv ht k (by omega), ht k (by omega), show m - k = (m - 1 - k) + 1 by omega, Nat.pow_succ, ← Nat.div_div_eq_div_mul, show m - (k + 1) = m - 1 - k by omega]
    omega
/-- What a decoder begins with. -/
theorem back_all (l : List (Nat × Bool)) (tb : Nat → Nat) (htb : ∀ j, tb j < 256) (h : ∀ j u, (codeOf l)[j]? = some u → tb j = u.toNat) : dbits tb rc0 (pv tb 4) (l.map (·.1)) = l.map (·.2) := by
  have hok := run_ok l rc0 rc0_ok
  have hfit := hok.fit
  have hlo := hok.lo
  have hv : (run rc0 l).low < 256 ^ ((run rc0 l).n + 4) := by
    rw [Nat.pow_add, Nat.mul_comm, show (256 : Nat) ^ 4 = 4294967296 from rfl]; omega
  refine bits_back tb htb (run rc0 l).n l rc0 (pv tb 4) rc0_ok rfl ?_ (by show 0 + pv tb 4 = pv tb (0 + 4); rw [Nat.zero_add, Nat.zero_add])
  refine pv_code tb _ _ hv (fun j hj => ?_)
  rw [h j _ (bytesOf_at _ _ j hj), UInt8.toNat_ofNat']
  omega
end Go.Proofs.YtconcnndghmdfaaGreatDoor

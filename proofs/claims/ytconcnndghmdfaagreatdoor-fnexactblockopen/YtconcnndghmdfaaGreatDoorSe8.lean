/- Put together: RangeF, MatchF. -/
import Derived.WalkKit
import Derived.Test.YtconcnndghmdfaaGreatDoorSe1
namespace Go.Proofs.YtconcnndghmdfaaGreatDoor
/-- The value of bytes, the highest first. -/
def val : List UInt8 → Nat := fun l => l.foldl (fun n b => 256 * n + b.toNat) 0
theorem val_snoc (l : List UInt8) (b : UInt8) : val (l ++ [b]) = 256 * val l + b.toNat := by simp [val, List.foldl_append]
/-- A number in k bytes, the highest first. -/
def bytesOf : Nat → Nat → List UInt8
  | 0, _ => []
  | k + 1, v => bytesOf k (v / 256) ++ [UInt8.ofNat (v % 256)]
theorem bytesOf_len : ∀ k v, (bytesOf k v).length = k
  | 0, _ => rfl
  | k + 1, v => by simp [bytesOf, bytesOf_len k]
theorem bytesOf_snoc (k v : Nat) (b : UInt8) : bytesOf (k + 1) (256 * v + b.toNat) = bytesOf k v ++ [b] := by
  have hb := b.toNat_lt
  show bytesOf k ((256 * v + b.toNat) / 256) ++ [UInt8.ofNat ((256 * v + b.toNat) % 256)] = _
  rw [show (256 * v + b.toNat) / 256 = v by omega, show (256 * v + b.toNat) % 256 = b.toNat by omega, UInt8.ofNat_toNat]
theorem bytesOf_at : ∀ k v j, j < k → (bytesOf k v)[j]? = some (UInt8.ofNat (v / 256 ^ (k - 1 - j) % 256))
  | 0, _, _, h => by omega
  | k + 1, v, j, h => by
    unfold bytesOf
    by_cases e : j < k
    · rw [List.getElem?_append_left (by rw [bytesOf_len]; exact e), bytesOf_at k (v / 256) j e, Nat.div_div_eq_div_mul, show k + 1 - 1 - j = (k - 1 - j) + 1 by omega, Nat.pow_succ, Nat.mul_comm 256]
    · rw [List.getElem?_append_right (by rw [bytesOf_len]; omega), bytesOf_len, show j - k = 0 by omega, show k + 1 - 1 - j = 0 by omega]
      simp
theorem val_bytesOf : ∀ k v, v < 256 ^ k → val (bytesOf k v) = v
  | 0, v, h => by simp [bytesOf, val] at h ⊢; omega
  | k + 1, v, h => by
    unfold bytesOf
    rw [val_snoc, val_bytesOf k (v / 256) (by rw [Nat.pow_succ] at h; omega), UInt8.toNat_ofNat']
    omega
/-- The coder's state: its range, its chances, its low with all that is out, and how many bytes are out. -/
structure RC where
  size : Nat
  ch : Nat → Nat
  low : Nat
  n : Nat
def bound (s : RC) (c : Nat) : Nat := s.size / 2048 * s.ch c
def chOne (p : Nat) : Nat := p - p / 32
def chNot (p : Nat) : Nat := p + (2048 - p) / 32
def setCh (ch : Nat → Nat) (c p : Nat) : Nat → Nat := fun j => if j = c then p else ch j
/-- A bit, ahead of the multiplications. -/
def part1 (s : RC) (c : Nat) (one : Bool) : RC := if one then ⟨s.size - bound s c, setCh s.ch c (chOne (s.ch c)), s.low + bound s c, s.n⟩ else ⟨bound s c, setCh s.ch c (chNot (s.ch c)), s.low, s.n⟩
/-- A multiplication by 256, where the range is too small. (One is enough.) -/
def norm (s : RC) : RC := if s.size < 16777216 then ⟨256 * s.size, s.ch, 256 * s.low, s.n + 1⟩ else s
def step (s : RC) (c : Nat) (one : Bool) : RC := norm (part1 s c one)
def rc0 : RC := ⟨4294967295, fun _ => 1024, 0, 0⟩
/-- What holds of a coder between bits. -/
structure RcOk (s : RC) : Prop where
  lo : 16777216 ≤ s.size
  hi : s.size ≤ 4294967295
  ch : ∀ c, 31 ≤ s.ch c ∧ s.ch c ≤ 2017
  fit : s.low + s.size ≤ 4294967296 * 256 ^ s.n
theorem rc0_ok : RcOk rc0 := ⟨by decide, by decide, fun _ => ⟨by show 31 ≤ 1024; omega, by show 1024 ≤ 2017; omega⟩, by decide⟩
theorem chOne_ok (p : Nat) (h : 31 ≤ p ∧ p ≤ 2017) : 31 ≤ chOne p ∧ chOne p ≤ 2017 := by unfold chOne; omega
theorem chNot_ok (p : Nat) (h : 31 ≤ p ∧ p ≤ 2017) : 31 ≤ chNot p ∧ chNot p ≤ 2017 := by unfold chNot; omega
/-- The bound lies well inside the range. -/
theorem bound_in (s : RC) (c : Nat) (h : RcOk s) : 131072 ≤ bound s c ∧ bound s c + 131072 ≤ s.size := by
  obtain ⟨h1, h2⟩ := h.ch c
  have h3 := h.lo
  unfold bound
  obtain ⟨q, hq⟩ : ∃ q, q = s.size / 2048 := ⟨_, rfl⟩
  rw [← hq]
  have hq1 : 8192 ≤ q := by omega
  have hq2 : 2048 * q ≤ s.size := by omega
  have a1 : 8192 * 31 ≤ q * s.ch c := Nat.mul_le_mul hq1 h1
  have a2 : q * s.ch c ≤ q * 2017 := Nat.mul_le_mul_left q h2
  omega
theorem part1_ok (s : RC) (c : Nat) (one : Bool) (h : RcOk s) : 131072 ≤ (part1 s c one).size ∧ (part1 s c one).size ≤ 4294967295 ∧ (∀ j, 31 ≤ (part1 s c one).ch j ∧ (part1 s c one).ch j ≤ 2017) ∧ (part1 s c one).low + (part1 s c one).size ≤ 4294967296 * 256 ^ s.n ∧ (part1 s c one).n = s.n := by
  obtain ⟨b1, b2⟩ := bound_in s c h
  have hh := h.hi
  have hf := h.fit
  unfold part1
  cases one
  · refine ⟨b1, by show bound s c ≤ _; omega, fun j => ?_, by show s.low + bound s c ≤ _; omega, rfl⟩
    show 31 ≤ (if j = c then chNot (s.ch c) else s.ch j) ∧ (if j = c then chNot (s.ch c) else s.ch j) ≤ 2017
    split
    · exact chNot_ok _ (h.ch c)
    · exact h.ch j
  · refine ⟨by show _ ≤ s.size - bound s c; omega, by show s.size - bound s c ≤ _; omega, fun j => ?_, by show s.low + bound s c + (s.size - bound s c) ≤ _; omega, rfl⟩
    show 31 ≤ (if j = c then chOne (s.ch c) else s.ch j) ∧ (if j = c then chOne (s.ch c) else s.ch j) ≤ 2017
    split
    · exact chOne_ok _ (h.ch c)
    · exact h.ch j
theorem norm_ok (s : RC) (h1 : 131072 ≤ s.size) (h2 : s.size ≤ 4294967295) (h3 : ∀ j, 31 ≤ s.ch j ∧ s.ch j ≤ 2017) (h4 : s.low + s.size ≤ 4294967296 * 256 ^ s.n) : RcOk (norm s) := by
  unfold norm
  by_cases e : s.size < 16777216
  · rw [if_pos e]
    exact ⟨by show _ ≤ 256 * s.size; omega, by show 256 * s.size ≤ _; omega, h3, by show 256 * s.low + 256 * s.size ≤ 4294967296 * 256 ^ (s.n + 1); rw [Nat.pow_succ]; omega⟩
  · rw [if_neg e]
    exact ⟨by omega, h2, h3, h4⟩
theorem step_ok (s : RC) (c : Nat) (one : Bool) (h : RcOk s) : RcOk (step s c one) := by
  obtain ⟨a, b, d, e, f⟩ := part1_ok s c one h
  exact norm_ok _ a b d (by rw [f]; exact e)
/-- The coder behind bits. -/
def run : RC → List (Nat × Bool) → RC
  | s, [] => s
  | s, x :: l => run (step s x.1 x.2) l
theorem run_ok : ∀ l s, RcOk s → RcOk (run s l)
  | [], _, h => h
  | x :: l, s, h => run_ok l _ (step_ok s x.1 x.2 h)
theorem run_snoc : ∀ l s x, run s (l ++ [x]) = step (run s l) x.1 x.2
  | [], _, _ => rfl
  | y :: l, s, x => run_snoc l (step s y.1 y.2) x
/-- The code of bits. -/
def codeOf (l : List (Nat × Bool)) : List UInt8 := bytesOf ((run rc0 l).n + 4) (run rc0 l).low
theorem part1_in (s : RC) (c : Nat) (one : Bool) (h : RcOk s) : s.low ≤ (part1 s c one).low ∧ (part1 s c one).low + (part1 s c one).size ≤ s.low + s.size := by
  obtain ⟨b1, b2⟩ := bound_in s c h
  unfold part1
  cases one
  · exact ⟨Nat.le_refl _, by show s.low + bound s c ≤ _; omega⟩
  · exact ⟨by show _ ≤ s.low + bound s c; omega, by show s.low + bound s c + (s.size - bound s c) ≤ _; omega⟩
theorem part1_n (s : RC) (c : Nat) (one : Bool) : (part1 s c one).n = s.n := by unfold part1; split <;> rfl
theorem norm_n (s : RC) : s.n ≤ (norm s).n := by
  unfold norm
  split
  · exact Nat.le_succ _
  · exact Nat.le_refl _
theorem step_n (s : RC) (c : Nat) (one : Bool) : s.n ≤ (step s c one).n := by
  have h := norm_n (part1 s c one)
  rw [part1_n] at h; exact h
theorem run_n : ∀ l s, s.n ≤ (run s l).n
  | [], _ => Nat.le_refl _
  | x :: l, s => Nat.le_trans (step_n s x.1 x.2) (run_n l (step s x.1 x.2))
theorem norm_scale (s : RC) (M : Nat) (h : (norm s).n ≤ M) : (norm s).low * 256 ^ (M - (norm s).n) = s.low * 256 ^ (M - s.n) ∧ ((norm s).low + (norm s).size) * 256 ^ (M - (norm s).n) = (s.low + s.size) * 256 ^ (M - s.n) := by
  unfold norm at h ⊢
  by_cases e : s.size < 16777216
  · rw [if_pos e] at h ⊢
    have h' : s.n + 1 ≤ M := h
    show 256 * s.low * 256 ^ (M - (s.n + 1)) = _ ∧ (256 * s.low + 256 * s.size) * 256 ^ (M - (s.n + 1)) = _
    rw [show M - s.n = (M - (s.n + 1)) + 1 by omega, Nat.pow_succ]
    generalize 256 ^ (M - (s.n + 1)) = Z
    rw [← Nat.mul_add, Nat.mul_comm Z 256, Nat.mul_comm 256 s.low, Nat.mul_comm 256 (s.low + s.size), Nat.mul_assoc, Nat.mul_assoc]
    exact ⟨rfl, rfl⟩
  · rw [if_neg e]; exact ⟨rfl, rfl⟩
/-- Behind bits low lies in the range that there was. -/
theorem run_in : ∀ l s, RcOk s → s.low * 256 ^ ((run s l).n - s.n) ≤ (run s l).low ∧ (run s l).low + (run s l).size ≤ (s.low + s.size) * 256 ^ ((run s l).n - s.n)
  | [], s, _ => by simp [run]
  | x :: l, s, h => by
    obtain ⟨i1, i2⟩ := run_in l (step s x.1 x.2) (step_ok s x.1 x.2 h)
    obtain ⟨p1, p2⟩ := part1_in s x.1 x.2 h
    have hn := run_n l (step s x.1 x.2)
    obtain ⟨q1, q2⟩ := norm_scale (part1 s x.1 x.2) _ hn
    rw [part1_n] at q1 q2
    exact ⟨Nat.le_trans (Nat.mul_le_mul_right _ p1) (q1 ▸ i1), Nat.le_trans i2 (Nat.le_trans (Nat.le_of_eq q2) (Nat.mul_le_mul_right _ p2))⟩
/-- Behind bits low lies in the part of the range that was taken for the first of them. -/
theorem run_part (l : List (Nat × Bool)) (s : RC) (c : Nat) (one : Bool) (h : RcOk s) : (part1 s c one).low * 256 ^ ((run (step s c one) l).n - s.n) ≤ (run (step s c one) l).low ∧ (run (step s c one) l).low < ((part1 s c one).low + (part1 s c one).size) * 256 ^ ((run (step s c one) l).n - s.n) := by
  have hok := step_ok s c one h
  obtain ⟨i1, i2⟩ := run_in l (step s c one) hok
  have hF := (run_ok l (step s c one) hok).lo
  obtain ⟨q1, q2⟩ := norm_scale (part1 s c one) _ (run_n l (step s c one))
  rw [part1_n] at q1 q2
  refine ⟨q1 ▸ i1, ?_⟩
  have i2' := i2
  have e : ((step s c one).low + (step s c one).size) * 256 ^ ((run (step s c one) l).n - (step s c one).n) = ((part1 s c one).low + (part1 s c one).size) * 256 ^ ((run (step s c one) l).n - s.n) := q2
  rw [e] at i2'
  omega
/-- The first k bytes, as a number. -/
def pv (tb : Nat → Nat) : Nat → Nat
  | 0 => 0
  | k + 1 => 256 * pv tb k + tb k
/-- The decoder: what is left, and the bit. -/
def dbit (s : RC) (x c : Nat) : Bool := decide (bound s c ≤ x)
def dx1 (s : RC) (x c : Nat) : Nat := if bound s c ≤ x then x - bound s c else x
def dx (tb : Nat → Nat) (s : RC) (x c : Nat) : Nat := if (part1 s c (dbit s x c)).size < 16777216 then (256 * dx1 s x c + tb (s.n + 4)) % 18446744073709551616 else dx1 s x c
/-- The decoder behind contexts: its range and chances (low: as the coder's of these bits), what is left; and its bits. -/
def drun (tb : Nat → Nat) : RC → Nat → List Nat → RC × Nat
  | s, x, [] => (s, x)
  | s, x, c :: l => drun tb (step s c (dbit s x c)) (dx tb s x c) l
def dbits (tb : Nat → Nat) : RC → Nat → List Nat → List Bool
  | _, _, [] => []
  | s, x, c :: l => dbit s x c :: dbits tb (step s c (dbit s x c)) (dx tb s x c) l
theorem dbits_len (tb : Nat → Nat) : ∀ l s x, (dbits tb s x l).length = l.length
  | [], _, _ => rfl
  | _ :: l, _, _ => congrArg Nat.succ (dbits_len tb l _ _)
theorem div_le_lt {F L S Z : Nat} (hZ : 0 < Z) (h1 : L * Z ≤ F) (h2 : F < (L + S) * Z) : L ≤ F / Z ∧ F / Z < L + S :=
  ⟨(Nat.le_div_iff_mul_le hZ).2 h1, (Nat.div_lt_iff_lt_mul hZ).2 h2⟩
/-- Bits come back from their code. -/
theorem bits_back (tb : Nat → Nat) (htb : ∀ j, tb j < 256) (M : Nat) : ∀ l s x, RcOk s → M = (run s l).n → (∀ k, k ≤ M + 4 → pv tb k = (run s l).low / 256 ^ (M + 4 - k)) → s.low + x = pv tb (s.n + 4) →
    dbits tb s x (l.map (·.1)) = l.map (·.2)
  | [], _, _, _, _, _, _ => rfl
  | (c, one) :: l, s, x, h, hM, hp, hx => by
    have hM' : M = (run (step s c one) l).n := hM
    have hp' : ∀ k, k ≤ M + 4 → pv tb k = (run (step s c one) l).low / 256 ^ (M + 4 - k) := hp
    have hns := step_n s c one
    have hn := run_n l (step s c one)
    rw [← hM'] at hn
    obtain ⟨r1, r2⟩ := run_part l s c one h
    rw [← hM'] at r1 r2
    have hq := hp' (s.n + 4) (by omega)
    rw [show M + 4 - (s.n + 4) = M - s.n by omega] at hq
    obtain ⟨k1, k2⟩ := div_le_lt (Nat.pow_pos (by decide)) r1 r2
    rw [← hq] at k1 k2
    obtain ⟨b1, b2⟩ := bound_in s c h
    have hkey : dbit s x c = one ∧ (part1 s c one).low + dx1 s x c = pv tb (s.n + 4) := by
      unfold part1 at k1 k2 ⊢
      unfold dbit dx1
      cases one
      · have k2' : pv tb (s.n + 4) < s.low + bound s c := k2
        have hlt : ¬ bound s c ≤ x := by omega
        refine ⟨decide_eq_false hlt, ?_⟩
        rw [if_neg hlt]; exact hx
      · have k1' : s.low + bound s c ≤ pv tb (s.n + 4) := k1
        have hle : bound s c ≤ x := by omega
        refine ⟨decide_eq_true hle, ?_⟩
        rw [if_pos hle]
        show s.low + bound s c + (x - bound s c) = _
        omega
    obtain ⟨hb, hd⟩ := hkey
    show dbit s x c :: dbits tb (step s c (dbit s x c)) (dx tb s x c) (l.map (·.1)) = one :: l.map (·.2)
    rw [hb, bits_back tb htb M l (step s c one) (dx tb s x c) (step_ok s c one h) hM' hp' ?_]
    unfold dx step norm
    rw [hb]
    by_cases e : (part1 s c one).size < 16777216
    · rw [if_pos e, if_pos e]
      show 256 * (part1 s c one).low + (256 * dx1 s x c + tb (s.n + 4)) % 18446744073709551616 = pv tb ((part1 s c one).n + 1 + 4)
      have ht := htb (s.n + 4)
      rw [part1_n, show s.n + 1 + 4 = (s.n + 4) + 1 by omega, Nat.mod_eq_of_lt (by omega)]
      show _ = 256 * pv tb (s.n + 4) + tb (s.n + 4)
      omega
    · rw [if_neg e, if_neg e, part1_n]; exact hd
/-- The first bytes of a code, as numbers. -/
theorem pv_code (tb : Nat → Nat) (m v : Nat) (hv : v < 256 ^ m) (ht : ∀ j, j < m → tb j = v / 256 ^ (m - 1 - j) % 256) : ∀ k, k ≤ m → pv tb k = v / 256 ^ (m - k)
  | 0, _ => by rw [Nat.sub_zero, Nat.div_eq_of_lt hv]; rfl
  | k + 1, hk => by
    show 256 * pv tb k + tb k = _
    rw [pv_code tb m v hv ht k (by omega), ht k (by omega), show m - k = (m - 1 - k) + 1 by omega, Nat.pow_succ, ← Nat.div_div_eq_div_mul, show m - (k + 1) = m - 1 - k by omega]
    omega
/-- What a decoder begins with. -/
theorem back_all (l : List (Nat × Bool)) (tb : Nat → Nat) (htb : ∀ j, tb j < 256) (h : ∀ j u, (codeOf l)[j]? = some u → tb j = u.toNat) : dbits tb rc0 (pv tb 4) (l.map (·.1)) = l.map (·.2) := by
  have hok := run_ok l rc0 rc0_ok
  have hfit := hok.fit
  have hlo := hok.lo
  have hv : (run rc0 l).low < 256 ^ ((run rc0 l).n + 4) := by
    rw [Nat.pow_add, Nat.mul_comm, show (256 : Nat) ^ 4 = 4294967296 from rfl]; omega
  refine bits_back tb htb (run rc0 l).n l rc0 (pv tb 4) rc0_ok rfl ?_ (by show 0 + pv tb 4 = pv tb (0 + 4); rw [Nat.zero_add, Nat.zero_add])
  refine pv_code tb _ _ hv (fun j hj => ?_)
  rw [h j _ (bytesOf_at _ _ j hj), UInt8.toNat_ofNat']
  omega
end Go.Proofs.YtconcnndghmdfaaGreatDoor
namespace Go.Proofs.YtconcnndghmdfaaGreatDoor
structure Tok where
  b : Int
  m : Int
  f : Int
/-- TokenRight. -/
def tokOk (t : Tok) : Bool := if t.m = 0 ∧ t.f = 0 then decide (0 ≤ t.b ∧ t.b ≤ 255) else decide (t.b = 0 ∧ 3 ≤ t.m ∧ t.m ≤ 66 ∧ 1 ≤ t.f ∧ t.f ≤ 1024)
/-- k bytes more, each the one that stands far ahead of the end. -/
def copyN (far : Nat) : Nat → List UInt8 → List UInt8
  | 0, b => b
  | k + 1, b => copyN far k (b ++ [b.getD (b.length - far) 0])
def exp1 (b : List UInt8) (t : Tok) : List UInt8 := if t.f = 0 then b ++ [UInt8.ofNat t.b.toNat] else copyN t.f.toNat t.m.toNat b
/-- Tokens, expanded onto what is there. -/
def expandG : List UInt8 → List Tok → Option (List UInt8)
  | b, [] => some b
  | b, t :: l => if tokOk t = true ∧ t.f ≤ b.length then expandG (exp1 b t) l else none
def expS (l : List Tok) : ByteArray := if l.length ≤ 20000 then (match expandG [] l with
  | some b => if b.length ≤ 20000 then ⟨b.toArray⟩ else ⟨#[]⟩
  | none => ⟨#[]⟩) else ⟨#[]⟩
theorem copyN_len (far : Nat) : ∀ k b, (copyN far k b).length = b.length + k
  | 0, _ => rfl
  | k + 1, b => by
    show (copyN far k (b ++ [b.getD (b.length - far) 0])).length = _
    rw [copyN_len far k, List.length_append]
    show b.length + 1 + k = _
    omega
theorem copyN_more (far : Nat) : ∀ k b, copyN far (k + 1) b = copyN far k b ++ [(copyN far k b).getD ((copyN far k b).length - far) 0]
  | 0, _ => rfl
  | k + 1, b => by
    show copyN far (k + 1) (b ++ [b.getD (b.length - far) 0]) = _
    rw [copyN_more far k]; rfl
theorem exp1_len (b : List UInt8) (t : Tok) : b.length ≤ (exp1 b t).length := by
  unfold exp1
  split
  · rw [List.length_append]; omega
  · rw [copyN_len]; omega
theorem expandG_len : ∀ l b c, expandG b l = some c → b.length ≤ c.length
  | [], b, c, h => by
    have e : b = c := Option.some.inj h
    rw [e]; exact Nat.le_refl _
  | t :: l, b, c, h => by
    unfold expandG at h
    split at h
    · exact Nat.le_trans (exp1_len b t) (expandG_len l _ c h)
    · cases h
theorem expandG_snoc : ∀ l b t, expandG b (l ++ [t]) = (match expandG b l with
  | some c => if tokOk t = true ∧ t.f ≤ c.length then some (exp1 c t) else none
  | none => none)
  | [], _, _ => rfl
  | u :: l, b, t => by
    show (if tokOk u = true ∧ u.f ≤ b.length then expandG (exp1 b u) (l ++ [t]) else none) = match (if tokOk u = true ∧ u.f ≤ b.length then expandG (exp1 b u) l else none) with
      | some c => if tokOk t = true ∧ t.f ≤ c.length then some (exp1 c t) else none
      | none => none
    split
    · exact expandG_snoc l _ t
    · rfl
theorem expandG_app : ∀ l b k, expandG b (l ++ k) = (match expandG b l with
  | some c => expandG c k
  | none => none)
  | [], _, _ => rfl
  | u :: l, b, k => by
    show (if tokOk u = true ∧ u.f ≤ b.length then expandG (exp1 b u) (l ++ k) else none) = match (if tokOk u = true ∧ u.f ≤ b.length then expandG (exp1 b u) l else none) with
      | some c => expandG c k
      | none => none
    split
    · exact expandG_app l _ k
    · rfl
/-- What is too long stays so, or is refused. -/
theorem expS_long {l k : List Tok} {b : List UInt8} (h : expandG [] l = some b) (hb : 20000 < b.length) : expS (l ++ k) = ⟨#[]⟩ := by
  unfold expS
  split
  · rw [expandG_app, h]
    show (match expandG b k with
      | some b => if b.length ≤ 20000 then (⟨b.toArray⟩ : ByteArray) else ⟨#[]⟩
      | none => ⟨#[]⟩) = _
    cases hc : expandG b k with
    | none => rfl
    | some c =>
      show (if c.length ≤ 20000 then (⟨c.toArray⟩ : ByteArray) else ⟨#[]⟩) = _
      rw [if_neg (by have := expandG_len k b c hc; omega)]
  · rfl
theorem expS_wrong {l k : List Tok} {b : List UInt8} {t : Tok} (h : expandG [] l = some b) (ht : ¬ (tokOk t = true ∧ t.f ≤ b.length)) : expS (l ++ t :: k) = ⟨#[]⟩ := by
  unfold expS
  split
  · rw [expandG_app, h]
    show (match (if tokOk t = true ∧ t.f ≤ b.length then expandG (exp1 b t) k else none) with
      | some b => if b.length ≤ 20000 then (⟨b.toArray⟩ : ByteArray) else ⟨#[]⟩
      | none => ⟨#[]⟩) = _
    rw [if_neg ht]
  · rfl
/-- How many bytes from 'at_' on, from the n-th on, are those that stand 'far' ahead of them, at most fuel more. -/
def longG (T : Nat → UInt8) (N at_ far : Nat) : Nat → Nat → Nat
  | 0, n => n
  | k + 1, n => if at_ + n < N ∧ T (at_ + n) = T (at_ + n - far) then longG T N at_ far k (n + 1) else n
def long (T : Nat → UInt8) (N at_ far : Nat) : Nat := longG T N at_ far 66 0
theorem longG_le (T : Nat → UInt8) (N at_ far : Nat) : ∀ k n, n ≤ longG T N at_ far k n ∧ longG T N at_ far k n ≤ n + k
  | 0, n => ⟨Nat.le_refl _, Nat.le_refl _⟩
  | k + 1, n => by
    unfold longG
    split
    · have := longG_le T N at_ far k (n + 1); omega
    · omega
theorem longG_eq (T : Nat → UInt8) (N at_ far : Nat) : ∀ k n j, n ≤ j → j < longG T N at_ far k n → at_ + j < N ∧ T (at_ + j) = T (at_ + j - far)
  | 0, n, j, h1, h2 => by unfold longG at h2; omega
  | k + 1, n, j, h1, h2 => by
    unfold longG at h2
    split at h2
    · rename_i h
      by_cases e : j = n
      · subst e; exact h
      · exact longG_eq T N at_ far k (n + 1) j (by omega) h2
    · omega
theorem longG_stop (T : Nat → UInt8) (N at_ far : Nat) : ∀ k n, longG T N at_ far k n = n + k ∨ ¬ (at_ + longG T N at_ far k n < N ∧ T (at_ + longG T N at_ far k n) = T (at_ + longG T N at_ far k n - far))
  | 0, n => .inl rfl
  | k + 1, n => by
    unfold longG
    split
    · rcases longG_stop T N at_ far k (n + 1) with h | h
      · exact .inl (by omega)
      · exact .inr h
    · rename_i h; exact .inr h
theorem long_le (T : Nat → UInt8) (N at_ far : Nat) : long T N at_ far ≤ 66 := by have := (longG_le T N at_ far 66 0).2; unfold long; omega
theorem long_eq (T : Nat → UInt8) (N at_ far j : Nat) (h : j < long T N at_ far) : at_ + j < N ∧ T (at_ + j) = T (at_ + j - far) := longG_eq T N at_ far 66 0 j (Nat.zero_le _) h
/-- Where bytes are the same from the first on, so many at least. -/
theorem long_ge (T : Nat → UInt8) (N at_ far n : Nat) (hn : n ≤ 66) (h : ∀ j, j < n → at_ + j < N ∧ T (at_ + j) = T (at_ + j - far)) : n ≤ long T N at_ far := by
  rcases Nat.lt_or_ge (long T N at_ far) n with hl | hl
  · rcases longG_stop T N at_ far 66 0 with hs | hs
    · have hs' : long T N at_ far = 0 + 66 := hs
      omega
    · exact absurd (h _ hl) hs
  · exact hl
/-- The best of the first k places back: the greatest many, the least far. -/
def best (T : Nat → UInt8) (N at_ : Nat) : Nat → Nat × Nat
  | 0 => (0, 0)
  | k + 1 => if (best T N at_ k).1 < long T N at_ (k + 1) then (long T N at_ (k + 1), k + 1) else best T N at_ k
theorem best_ge (T : Nat → UInt8) (N at_ : Nat) : ∀ k far, 1 ≤ far → far ≤ k → long T N at_ far ≤ (best T N at_ k).1
  | 0, far, h1, h2 => by omega
  | k + 1, far, h1, h2 => by
    unfold best
    by_cases e : far = k + 1
    · subst e
      split
      · exact Nat.le_refl _
      · omega
    · have := best_ge T N at_ k far h1 (by omega)
      split <;> omega
theorem best_is (T : Nat → UInt8) (N at_ : Nat) : ∀ k, (best T N at_ k = (0, 0)) ∨ (1 ≤ (best T N at_ k).2 ∧ (best T N at_ k).2 ≤ k ∧ 0 < (best T N at_ k).1 ∧ (best T N at_ k).1 = long T N at_ (best T N at_ k).2 ∧ ∀ far, 1 ≤ far → far < (best T N at_ k).2 → long T N at_ far < (best T N at_ k).1)
  | 0 => .inl rfl
  | k + 1 => by
    have ih := best_is T N at_ k
    unfold best
    split
    · rename_i h
      refine .inr ⟨by show 1 ≤ k + 1; omega, Nat.le_refl _, by show 0 < long T N at_ (k + 1); omega, rfl, fun far h1 h2 => ?_⟩
      have h3 := best_ge T N at_ k far h1 (by have : far < k + 1 := h2; omega)
      show long T N at_ far < long T N at_ (k + 1)
      omega
    · rcases ih with h | ⟨a, b, c, d, e⟩
      · exact .inl h
      · exact .inr ⟨a, by omega, c, d, e⟩
/-- The best is the only one with these properties. -/
theorem best_only (T : Nat → UInt8) (N at_ k m far : Nat) (h1 : 1 ≤ far) (h2 : far ≤ k) (hm : 0 < m) (h3 : m = long T N at_ far) (h4 : ∀ g, 1 ≤ g → g ≤ k → long T N at_ g ≤ m) (h5 : ∀ g, 1 ≤ g → g < far → long T N at_ g < m) : best T N at_ k = (m, far) := by
  have a := best_ge T N at_ k far h1 h2
  rcases best_is T N at_ k with h | ⟨b1, b2, b3, b4, b5⟩
  · rw [h] at a
    have a' : long T N at_ far ≤ 0 := a
    omega
  · have c1 := h4 (best T N at_ k).2 b1 b2
    have e1 : (best T N at_ k).1 = m := by omega
    have e2 : (best T N at_ k).2 = far := by
      rcases Nat.lt_trichotomy (best T N at_ k).2 far with h | h | h
      · have := h5 _ b1 h; omega
      · exact h
      · have := b5 far h1 h; omega
    exact Prod.ext e1 e2
def bestAt (T : Nat → UInt8) (N at_ : Nat) : Nat × Nat := best T N at_ (min 1024 at_)
/-- The tokens from 'at_' on. -/
def parseG (T : Nat → UInt8) (N : Nat) : Nat → Nat → List Tok
  | 0, _ => []
  | k + 1, at_ => if at_ < N then (if (bestAt T N at_).1 < 3 then ⟨((T at_).toNat : Int), 0, 0⟩ :: parseG T N k (at_ + 1) else ⟨0, (bestAt T N at_).1, (bestAt T N at_).2⟩ :: parseG T N k (at_ + (bestAt T N at_).1)) else []
def parseL (T : Nat → UInt8) (N : Nat) : List Tok := parseG T N N 0
/-- One token, and where the next begins. -/
def tokAt (T : Nat → UInt8) (N at_ : Nat) : Tok := if (bestAt T N at_).1 < 3 then ⟨((T at_).toNat : Int), 0, 0⟩ else ⟨0, (bestAt T N at_).1, (bestAt T N at_).2⟩
def stepAt (T : Nat → UInt8) (N at_ : Nat) : Nat := if (bestAt T N at_).1 < 3 then at_ + 1 else at_ + (bestAt T N at_).1
theorem parseG_step (T : Nat → UInt8) (N k at_ : Nat) (h : at_ < N) : parseG T N (k + 1) at_ = tokAt T N at_ :: parseG T N k (stepAt T N at_) := by
  show (if at_ < N then _ else _) = _
  rw [if_pos h]
  unfold tokAt stepAt
  split <;> rfl
theorem parseG_end (T : Nat → UInt8) (N k at_ : Nat) (h : ¬ at_ < N) : parseG T N k at_ = [] := by
  cases k with
  | zero => rfl
  | succ k =>
    show (if at_ < N then _ else _) = _
    rw [if_neg h]
theorem stepAt_gt (T : Nat → UInt8) (N at_ : Nat) : at_ < stepAt T N at_ := by unfold stepAt; split <;> omega
/-- More fuel than bytes turns nothing. -/
theorem parseG_fuel (T : Nat → UInt8) (N : Nat) : ∀ k j at_, N ≤ at_ + k → N ≤ at_ + j → parseG T N k at_ = parseG T N j at_
  | 0, j, at_, h1, h2 => by rw [parseG_end T N j at_ (by omega)]; rfl
  | k + 1, 0, at_, h1, h2 => by rw [parseG_end T N (k + 1) at_ (by omega)]; rfl
  | k + 1, j + 1, at_, h1, h2 => by
    by_cases h : at_ < N
    · have hs := stepAt_gt T N at_
      rw [parseG_step T N k at_ h, parseG_step T N j at_ h, parseG_fuel T N k j _ (by omega) (by omega)]
    · rw [parseG_end T N _ at_ h, parseG_end T N _ at_ h]
theorem bestAt_facts (T : Nat → UInt8) (N at_ : Nat) (h : ¬ (bestAt T N at_).1 < 3) : 1 ≤ (bestAt T N at_).2 ∧ (bestAt T N at_).2 ≤ 1024 ∧ (bestAt T N at_).2 ≤ at_ ∧ (bestAt T N at_).1 ≤ 66 ∧ at_ + (bestAt T N at_).1 ≤ N ∧ ∀ j, j < (bestAt T N at_).1 → T (at_ + j) = T (at_ + j - (bestAt T N at_).2) := by
  unfold bestAt at h ⊢
  rcases best_is T N at_ (min 1024 at_) with e | ⟨b1, b2, b3, b4, _⟩
  · rw [e] at h; exact absurd (show (0 : Nat) < 3 by omega) h
  · have hl := long_le T N at_ (best T N at_ (min 1024 at_)).2
    have hq := long_eq T N at_ (best T N at_ (min 1024 at_)).2
    rw [← b4] at hl hq
    refine ⟨b1, by omega, by omega, hl, ?_, fun j hj => (hq j hj).2⟩
    have := (hq ((best T N at_ (min 1024 at_)).1 - 1) (by omega)).1
    omega
theorem tokAt_ok (T : Nat → UInt8) (N at_ : Nat) : tokOk (tokAt T N at_) = true ∧ (tokAt T N at_).f ≤ at_ := by
  unfold tokAt
  by_cases h : (bestAt T N at_).1 < 3
  · rw [if_pos h]
    refine ⟨?_, by show (0 : Int) ≤ _; omega⟩
    unfold tokOk
    rw [if_pos ⟨rfl, rfl⟩]
    have := (T at_).toNat_lt
    exact decide_eq_true ⟨by show (0 : Int) ≤ ((T at_).toNat : Int); omega, by show ((T at_).toNat : Int) ≤ 255; omega⟩
  · rw [if_neg h]
    obtain ⟨h1, h2, h3, h4, _, _⟩ := bestAt_facts T N at_ h
    refine ⟨?_, by show ((bestAt T N at_).2 : Int) ≤ _; omega⟩
    unfold tokOk
    rw [if_neg (fun e => by have : ((bestAt T N at_).2 : Int) = 0 := e.2; omega)]
    exact decide_eq_true ⟨rfl, by show (3 : Int) ≤ ((bestAt T N at_).1 : Int); omega, by show ((bestAt T N at_).1 : Int) ≤ 66; omega, by show (1 : Int) ≤ ((bestAt T N at_).2 : Int); omega, by show ((bestAt T N at_).2 : Int) ≤ 1024; omega⟩
theorem parseG_ok (T : Nat → UInt8) (N : Nat) : ∀ k at_, ∀ t ∈ parseG T N k at_, tokOk t = true
  | 0, _, t, h => by cases h
  | k + 1, at_, t, h => by
    by_cases hl : at_ < N
    · rw [parseG_step T N k at_ hl] at h
      rcases List.mem_cons.1 h with rfl | h
      · exact (tokAt_ok T N at_).1
      · exact parseG_ok T N k _ t h
    · rw [parseG_end T N _ at_ hl] at h; cases h
theorem parseG_len (T : Nat → UInt8) (N : Nat) : ∀ k at_, (parseG T N k at_).length ≤ N - at_
  | 0, _ => Nat.zero_le _
  | k + 1, at_ => by
    by_cases hl : at_ < N
    · have hs := stepAt_gt T N at_
      have := parseG_len T N k (stepAt T N at_)
      rw [parseG_step T N k at_ hl, List.length_cons]; omega
    · rw [parseG_end T N _ at_ hl]; exact Nat.zero_le _
/-- The first n bytes. -/
def upto (T : Nat → UInt8) (n : Nat) : List UInt8 := (List.range n).map T
theorem upto_len (T : Nat → UInt8) (n : Nat) : (upto T n).length = n := by simp [upto]
theorem upto_succ (T : Nat → UInt8) (n : Nat) : upto T (n + 1) = upto T n ++ [T n] := by simp [upto, List.range_succ]
theorem upto_at (T : Nat → UInt8) (n j : Nat) (h : j < n) : (upto T n).getD j 0 = T j := by simp [upto, List.getD_eq_getElem?_getD, h]
theorem copy_upto (T : Nat → UInt8) (far at_ : Nat) (h1 : 1 ≤ far) (h2 : far ≤ at_) : ∀ m, (∀ j, j < m → T (at_ + j) = T (at_ + j - far)) → copyN far m (upto T at_) = upto T (at_ + m)
  | 0, _ => rfl
  | m + 1, h => by
    rw [copyN_more, copy_upto T far at_ h1 h2 m (fun j hj => h j (by omega)), upto_len, upto_at T _ _ (by omega), ← h m (by omega)]
    exact (upto_succ T (at_ + m)).symm
theorem exp1_at (T : Nat → UInt8) (N at_ : Nat) : exp1 (upto T at_) (tokAt T N at_) = upto T (stepAt T N at_) := by
  unfold exp1 tokAt stepAt
  by_cases h : (bestAt T N at_).1 < 3
  · rw [if_pos h, if_pos h, if_pos rfl, upto_succ]
    show _ ++ [UInt8.ofNat (((T at_).toNat : Int)).toNat] = _
    rw [Int.toNat_natCast, UInt8.ofNat_toNat]
  · rw [if_neg h, if_neg h]
    obtain ⟨h1, h2, h3, h4, _, h6⟩ := bestAt_facts T N at_ h
    rw [if_neg (by show ¬ ((bestAt T N at_).2 : Int) = 0; omega)]
    show copyN ((bestAt T N at_).2 : Int).toNat ((bestAt T N at_).1 : Int).toNat _ = _
    rw [Int.toNat_natCast, Int.toNat_natCast]
    exact copy_upto T _ at_ h1 h3 _ h6
theorem stepAt_le (T : Nat → UInt8) (N at_ : Nat) (h : at_ < N) : stepAt T N at_ ≤ N := by
  unfold stepAt
  split
  · omega
  · rename_i h2; exact (bestAt_facts T N at_ h2).2.2.2.2.1
/-- The tokens of a text make it again. -/
theorem parse_back (T : Nat → UInt8) (N : Nat) : ∀ k at_, at_ ≤ N → N ≤ at_ + k → expandG (upto T at_) (parseG T N k at_) = some (upto T N)
  | 0, at_, h1, h2 => by
    have e : at_ = N := by omega
    subst e; rfl
  | k + 1, at_, h1, h2 => by
    by_cases hl : at_ < N
    · have hs := stepAt_gt T N at_
      rw [parseG_step T N k at_ hl]
      show (if tokOk (tokAt T N at_) = true ∧ (tokAt T N at_).f ≤ (upto T at_).length then expandG (exp1 (upto T at_) (tokAt T N at_)) (parseG T N k (stepAt T N at_)) else none) = _
      rw [upto_len, if_pos (tokAt_ok T N at_), exp1_at]
      exact parse_back T N k _ (stepAt_le T N at_ hl) (by omega)
    · rw [parseG_end T N _ at_ hl]
      have e : at_ = N := by omega
      subst e; rfl
theorem parse_all (T : Nat → UInt8) (N : Nat) : expandG [] (parseL T N) = some (upto T N) := parse_back T N N 0 (Nat.zero_le _) (by omega)
end Go.Proofs.YtconcnndghmdfaaGreatDoor

/- The tokens that come out of a code, as a list; what they make. No program is named here. -/
import Derived.Test.YtdoodkabmeojmaaDoorPackF
import Derived.Test.YtdoodkabmeojmaaDoorPackR
import Derived.Test.YtdoodkabmeojmaaDoorTokC
namespace Go.Proofs.YtdoodkabmeojmaaDoor
/-- A token, read: it, and the decoder behind it. -/
def dtok (tb : Nat → Nat) (st : RC × Nat) : Tok × (RC × Nat) :=
  if dbit st.1 st.2 0 = true then (⟨0, (((readG tb 300 6 (dnext tb st 0) 1).2 - 64 + 3 : Nat) : Int), (((readG tb 400 10 (readG tb 300 6 (dnext tb st 0) 1).1 1).2 - 1024 + 1 : Nat) : Int)⟩, (readG tb 400 10 (readG tb 300 6 (dnext tb st 0) 1).1 1).1)
  else (⟨(((readG tb 16 8 (dnext tb st 0) 1).2 - 256 : Nat) : Int), 0, 0⟩, (readG tb 16 8 (dnext tb st 0) 1).1)
/-- How many bytes a token makes. -/
def tsz (x : Tok) : Nat := (tokSize x.m).toNat
/-- The tokens, till so many bytes are made. -/
def dtoks (tb : Nat → Nat) (size : Nat) : Nat → RC × Nat → Nat → List Tok
  | 0, _, _ => []
  | k + 1, st, made => if made < size then (dtok tb st).1 :: dtoks tb size k (dtok tb st).2 (made + tsz (dtok tb st).1) else []
/-- What a token makes, behind what is there. -/
def growT (x : Tok) (b : List UInt8) : Option (List UInt8) :=
  if x.m = 0 then some (b ++ [UInt8.ofNat x.b.toNat]) else if b.length < x.f.toNat then none else some (copyN x.f.toNat x.m.toNat b)
def growL : List Tok → List UInt8 → Option (List UInt8)
  | [], b => some b
  | x :: l, b => (growT x b).bind (growL l)
theorem growL_app : ∀ l k b, growL (l ++ k) b = (growL l b).bind (growL k)
  | [], _, _ => rfl
  | x :: l, k, b => by
    show (growT x b).bind (growL (l ++ k)) = ((growT x b).bind (growL l)).bind (growL k)
    cases growT x b with
    | none => rfl
    | some c => exact growL_app l k c
/-- A token that is read: a byte, or a match. -/
theorem dtok_two (tb : Nat → Nat) (st : RC × Nat) : (∃ y : Nat, y < 256 ∧ (dtok tb st).1 = ⟨(y : Int), 0, 0⟩) ∨ ∃ M F : Nat, 3 ≤ M ∧ M ≤ 66 ∧ 1 ≤ F ∧ F ≤ 1024 ∧ (dtok tb st).1 = ⟨0, (M : Int), (F : Int)⟩ := by
  unfold dtok
  split
  · have h1 := (readG_node tb 300 6 (dnext tb st 0) 1).2
    have h2 := (readG_node tb 400 10 (readG tb 300 6 (dnext tb st 0) 1).1 1).2
    have e1 : (1 + 1) * 2 ^ 6 = 128 := rfl
    have e2 : (1 + 1) * 2 ^ 10 = 2048 := rfl
    exact .inr ⟨_, _, by omega, by omega, by omega, by omega, rfl⟩
  · have h1 := (readG_node tb 16 8 (dnext tb st 0) 1).2
    have e1 : (1 + 1) * 2 ^ 8 = 512 := rfl
    exact .inl ⟨_, by omega, rfl⟩
theorem tsz_byte (y : Int) : tsz ⟨y, 0, 0⟩ = 1 := rfl
theorem tsz_match (M F : Nat) (h : 3 ≤ M) : tsz ⟨0, (M : Int), (F : Int)⟩ = M := by
  show (tokSize (M : Int)).toNat = M
  unfold tokSize
  rw [if_neg (by omega)]; omega
theorem growT_byte (y : Nat) (b : List UInt8) : growT ⟨(y : Int), 0, 0⟩ b = some (b ++ [UInt8.ofNat y]) := rfl
theorem growT_match (M F : Nat) (b : List UInt8) (h : 3 ≤ M) : growT ⟨0, (M : Int), (F : Int)⟩ b = if b.length < F then none else some (copyN F M b) := by
  show (if (M : Int) = 0 then _ else if b.length < ((F : Int)).toNat then none else some (copyN ((F : Int)).toNat ((M : Int)).toNat b)) = _
  rw [if_neg (by omega), Int.toNat_natCast, Int.toNat_natCast]
theorem tsz_pos (tb : Nat → Nat) (st : RC × Nat) : 1 ≤ tsz (dtok tb st).1 ∧ tsz (dtok tb st).1 ≤ 66 := by
  rcases dtok_two tb st with ⟨y, _, e⟩ | ⟨M, F, h1, h2, _, _, e⟩
  · rw [e, tsz_byte]; omega
  · rw [e, tsz_match M F h1]; omega
theorem growT_len (tb : Nat → Nat) (st : RC × Nat) (b c : List UInt8) (h : growT (dtok tb st).1 b = some c) : c.length = b.length + tsz (dtok tb st).1 := by
  rcases dtok_two tb st with ⟨y, _, e⟩ | ⟨M, F, h1, h2, _, _, e⟩
  · rw [e, growT_byte] at h
    rw [e, tsz_byte, ← Option.some.inj h, List.length_append]; rfl
  · rw [e, growT_match M F b h1] at h
    split at h
    · cases h
    · rw [e, tsz_match M F h1, ← Option.some.inj h, copyN_len]
/-- All that comes out is what the tokens make. -/
theorem unpack_toks (tb : Nat → Nat) (many : Nat) : ∀ k st b, unpackG tb many k st b = growL (dtoks tb many k st b.length) b
  | 0, _, _ => rfl
  | k + 1, st, b => by
    unfold unpackG dtoks
    by_cases hlt : b.length < many
    · rw [if_pos hlt, if_pos hlt]
      show _ = (growT (dtok tb st).1 b).bind (growL (dtoks tb many k (dtok tb st).2 (b.length + tsz (dtok tb st).1)))
      cases hg : growT (dtok tb st).1 b with
      | none =>
        show _ = none
        by_cases hd : dbit st.1 st.2 0 = true
        · rw [if_pos hd]
          unfold dtok at hg
          rw [if_pos hd] at hg
          rw [growT_match _ _ b (by omega)] at hg
          split at hg
          · rename_i h; rw [if_pos h]
          · cases hg
        · unfold dtok at hg
          rw [if_neg hd] at hg
          rw [growT_byte] at hg; cases hg
      | some c =>
        show _ = growL (dtoks tb many k (dtok tb st).2 (b.length + tsz (dtok tb st).1)) c
        rw [← growT_len tb st b c hg, ← unpack_toks tb many k (dtok tb st).2 c]
        by_cases hd : dbit st.1 st.2 0 = true
        · rw [if_pos hd]
          unfold dtok at hg ⊢
          rw [if_pos hd] at hg ⊢
          rw [growT_match _ _ b (by omega)] at hg
          split at hg
          · cases hg
          · rename_i h
            rw [if_neg h, Option.some.inj hg]
        · rw [if_neg hd]
          unfold dtok at hg ⊢
          rw [if_neg hd] at hg ⊢
          rw [growT_byte] at hg
          rw [Option.some.inj hg]
    · rw [if_neg hlt, if_neg hlt]; rfl
theorem dtok_ok (tb : Nat → Nat) (st : RC × Nat) (m : Nat) (h : DecOk st m) : DecOk (dtok tb st).2 (m + 17) := by
  have h1 := DecOk.next tb st 0 m h
  unfold dtok
  split
  · have h2 := readG_ok tb 300 6 (dnext tb st 0) 1 _ h1
    exact readG_ok tb 400 10 _ 1 _ h2
  · have h2 := readG_ok tb 16 8 (dnext tb st 0) 1 _ h1
    exact ⟨h2.ok, h2.x, Nat.le_trans h2.n (by omega)⟩
end Go.Proofs.YtdoodkabmeojmaaDoor

/- The digest's block, as functions on plain numbers. No program is named here. -/
import Derived.Test.YtconcnndghmdfaaDoorSha
namespace Go.Proofs.YtconcnndghmdfaaDoor

def shaKeys : List Nat := [
  1116352408, 1899447441, 3049323471, 3921009573, 961987163, 1508970993, 2453635748, 2870763221,
  3624381080, 310598401, 607225278, 1426881987, 1925078388, 2162078206, 2614888103, 3248222580,
  3835390401, 4022224774, 264347078, 604807628, 770255983, 1249150122, 1555081692, 1996064986,
  2554220882, 2821834349, 2952996808, 3210313671, 3336571891, 3584528711, 113926993, 338241895,
  666307205, 773529912, 1294757372, 1396182291, 1695183700, 1986661051, 2177026350, 2456956037,
  2730485921, 2820302411, 3259730800, 3345764771, 3516065817, 3600352804, 4094571909, 275423344,
  430227734, 506948616, 659060556, 883997877, 958139571, 1322822218, 1537002063, 1747873779,
  1955562222, 2024104815, 2227730452, 2361852424, 2428436474, 2756734187, 3204031479, 3329325298]
def shaStart : List Nat := [1779033703, 3144134277, 1013904242, 2773480762, 1359893119, 2600822924, 528734635, 1541459225]
def shaKey (i : Nat) : Nat := shaKeys.getD i 0
def shaStart1 (i : Nat) : Nat := shaStart.getD i 0

/-- The i-th word of a block of bytes. -/
def word (B : Nat → Nat) (i : Nat) : Nat := or32 (or32 (or32 (shl32 (B (4 * i)) 24) (shl32 (B (4 * i + 1)) 16)) (shl32 (B (4 * i + 2)) 8)) (B (4 * i + 3))
def sig0 (x : Nat) : Nat := xor32 (xor32 (turn32 x 7) (turn32 x 18)) (shr32 x 3)
def sig1 (y : Nat) : Nat := xor32 (xor32 (turn32 y 17) (turn32 y 19)) (shr32 y 10)
/-- The n-th word of the schedule. -/
def wd (B : Nat → Nat) (n : Nat) : Nat :=
  if _h : n < 16 then word B n
  else add32 (add32 (add32 (wd B (n - 16)) (sig0 (wd B (n - 15)))) (wd B (n - 7))) (sig1 (wd B (n - 2)))

structure R8 where
  (a b c d e f g h : Nat)
def R8.get (s : R8) (i : Nat) : Nat := [s.a, s.b, s.c, s.d, s.e, s.f, s.g, s.h].getD i 0
def big1 (e : Nat) : Nat := xor32 (xor32 (turn32 e 6) (turn32 e 11)) (turn32 e 25)
def big0 (a : Nat) : Nat := xor32 (xor32 (turn32 a 2) (turn32 a 13)) (turn32 a 22)
def chs (e f g : Nat) : Nat := xor32 (and32 e f) (and32 (not32 e) g)
def maj (a b c : Nat) : Nat := xor32 (xor32 (and32 a b) (and32 a c)) (and32 b c)
def tt1 (s : R8) (k w : Nat) : Nat := add32 (add32 (add32 (add32 s.h (big1 s.e)) (chs s.e s.f s.g)) k) w
def tt2 (s : R8) : Nat := add32 (big0 s.a) (maj s.a s.b s.c)
def rnd (s : R8) (k w : Nat) : R8 := ⟨add32 (tt1 s k w) (tt2 s), s.a, s.b, s.c, add32 s.d (tt1 s k w), s.e, s.f, s.g⟩
def rounds (B : Nat → Nat) (s : R8) : Nat → R8
  | 0 => s
  | n + 1 => rnd (rounds B s n) (shaKey n) (wd B n)
def R8.of (f : Nat → Nat) : R8 := ⟨f 0, f 1, f 2, f 3, f 4, f 5, f 6, f 7⟩
/-- A block's bytes B taken into a state. -/
def blockF (B : Nat → Nat) (st : Nat → Nat) (i : Nat) : Nat := add32 (st i) ((rounds B (R8.of st) 64).get i)

theorem key_lt : ∀ i, shaKey i < 4294967296 := by
  intro i
  by_cases h : i < 64
  · have : ∀ j : Fin 64, shaKey j.1 < 4294967296 := by decide
    exact this ⟨i, h⟩
  · unfold shaKey; rw [List.getD_eq_getElem?_getD, List.getElem?_eq_none (by simp [shaKeys]; omega)]; decide
theorem start_lt : ∀ i, shaStart1 i < 4294967296 := by
  intro i
  by_cases h : i < 8
  · have : ∀ j : Fin 8, shaStart1 j.1 < 4294967296 := by decide
    exact this ⟨i, h⟩
  · unfold shaStart1; rw [List.getD_eq_getElem?_getD, List.getElem?_eq_none (by simp [shaStart]; omega)]; decide
theorem lt_turn (x k : Nat) : turn32 x k < 4294967296 := lt_or _ _
theorem lt_word (B : Nat → Nat) (i : Nat) : word B i < 4294967296 := lt_or _ _
theorem wd_lo (B : Nat → Nat) (n : Nat) (h : n < 16) : wd B n = word B n := by rw [wd, dif_pos h]
theorem wd_hi (B : Nat → Nat) (n : Nat) (h : ¬ n < 16) : wd B n = add32 (add32 (add32 (wd B (n - 16)) (sig0 (wd B (n - 15)))) (wd B (n - 7))) (sig1 (wd B (n - 2))) := by rw [wd, dif_neg h]
theorem lt_wd (B : Nat → Nat) (n : Nat) : wd B n < 4294967296 := by
  by_cases h : n < 16
  · rw [wd_lo B n h]; exact lt_word B n
  · rw [wd_hi B n h]; exact lt_add _ _
def R8.small (s : R8) : Prop := s.a < 4294967296 ∧ s.b < 4294967296 ∧ s.c < 4294967296 ∧ s.d < 4294967296 ∧ s.e < 4294967296 ∧ s.f < 4294967296 ∧ s.g < 4294967296 ∧ s.h < 4294967296
theorem rnd_small (s : R8) (k w : Nat) (h : s.small) : (rnd s k w).small := by
  obtain ⟨h1, h2, h3, h4, h5, h6, h7, h8⟩ := h
  exact ⟨lt_add _ _, h1, h2, h3, lt_add _ _, h5, h6, h7⟩
theorem rounds_small (B : Nat → Nat) (s : R8) (h : s.small) : ∀ n, (rounds B s n).small
  | 0 => h
  | n + 1 => rnd_small _ _ _ (rounds_small B s h n)
theorem lt_block (B st : Nat → Nat) (i : Nat) : blockF B st i < 4294967296 := lt_add _ _
end Go.Proofs.YtconcnndghmdfaaDoor

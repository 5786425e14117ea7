/- Put together: Sha, Own, ShaT, ShaF, ShaK. -/
import Derived.Laws.BitsLemmas
import Derived.WalkKit
import Derived.Laws.IdiomStrings
import Derived.Test.YtconcnndghmdfaaGreatDoorRows
import Derived.Deep.OwnRows
import Derived.Below
namespace Go.Proofs.YtconcnndghmdfaaGreatDoor
open Go Go.RowKit

def add32 (a b : Nat) : Nat := (a + b) % 4294967296
def xor32 (a b : Nat) : Nat := (a % 4294967296) ^^^ (b % 4294967296)
def and32 (a b : Nat) : Nat := (a % 4294967296) &&& (b % 4294967296)
def or32 (a b : Nat) : Nat := (a % 4294967296) ||| (b % 4294967296)
def not32 (a : Nat) : Nat := 4294967295 - a % 4294967296
def shr32 (a k : Nat) : Nat := a / 2 ^ k
def shl32 (a k : Nat) : Nat := a * 2 ^ k % 4294967296

theorem ofInt32 (a : Nat) : (BitVec.ofInt 32 (a : Int)).toNat = a % 4294967296 := by rw [BitVec.ofInt_natCast, BitVec.toNat_ofNat]
theorem r_add (a b : Nat) : IntKind.u32.wrap ((a : Int) + (b : Int)) = ((add32 a b : Nat) : Int) := by rw [IntKind.wrap_u32]; unfold add32; omega
theorem r_xor (a b : Nat) : bits .xor .u32 (a : Int) (b : Int) = ((xor32 a b : Nat) : Int) := by
  have hx : (a % 4294967296) ^^^ (b % 4294967296) < 2 ^ 32 := Nat.xor_lt_two_pow (by omega) (by omega)
  show IntKind.u32.wrap ((BitVec.ofInt 32 (a : Int) ^^^ BitVec.ofInt 32 (b : Int)).toNat : Int) = _
  rw [BitVec.toNat_xor, ofInt32, ofInt32, IntKind.wrap_u32]; unfold xor32; omega
theorem r_and (a b : Nat) : bits .and .u32 (a : Int) (b : Int) = ((and32 a b : Nat) : Int) := by
  have hx : (a % 4294967296) &&& (b % 4294967296) < 2 ^ 32 := Nat.and_lt_two_pow _ (by omega)
  show IntKind.u32.wrap ((BitVec.ofInt 32 (a : Int) &&& BitVec.ofInt 32 (b : Int)).toNat : Int) = _
  rw [BitVec.toNat_and, ofInt32, ofInt32, IntKind.wrap_u32]; unfold and32; omega
theorem r_or (a b : Nat) : bits .or .u32 (a : Int) (b : Int) = ((or32 a b : Nat) : Int) := by
  have hx : (a % 4294967296) ||| (b % 4294967296) < 2 ^ 32 := Nat.or_lt_two_pow (by omega) (by omega)
  show IntKind.u32.wrap ((BitVec.ofInt 32 (a : Int) ||| BitVec.ofInt 32 (b : Int)).toNat : Int) = _
  rw [BitVec.toNat_or, ofInt32, ofInt32, IntKind.wrap_u32]; unfold or32; omega
theorem r_not (a : Nat) : bits .xor .u32 IntKind.u32.max (a : Int) = ((not32 a : Nat) : Int) := by
  have e : IntKind.u32.max = ((4294967295 : Nat) : Int) := by decide
  rw [e, r_xor]
  unfold xor32 not32
  have h1 : (BitVec.ofNat 32 a ^^^ BitVec.allOnes 32).toNat = (~~~ (BitVec.ofNat 32 a)).toNat := by rw [BitVec.xor_allOnes]
  rw [BitVec.toNat_xor, BitVec.toNat_not, BitVec.toNat_ofNat, BitVec.toNat_allOnes] at h1
  have e2 : (2 : Nat) ^ 32 = 4294967296 := by decide
  rw [e2] at h1
  have e3 : (4294967295 : Nat) % 4294967296 = 4294967295 := by decide
  rw [e3, Nat.xor_comm]
  have e4 : (4294967296 : Nat) - 1 = 4294967295 := by decide
  rw [e4] at h1
  rw [h1]
theorem r_shr (a k : Nat) : ((a : Int) / 2 ^ k) = ((shr32 a k : Nat) : Int) := by unfold shr32; simp
theorem r_shl (a k : Nat) : IntKind.u32.wrap ((a : Int) * 2 ^ k) = ((shl32 a k : Nat) : Int) := by
  rw [IntKind.wrap_u32]; unfold shl32
  rw [Int.natCast_emod, Int.natCast_mul, Int.natCast_pow]; rfl
/-- x turned right by k bits. -/
def turn32 (x k : Nat) : Nat := or32 (shr32 x k) (shl32 x (32 - k))
theorem lt_add (a b : Nat) : add32 a b < 4294967296 := by unfold add32; omega
theorem lt_xor (a b : Nat) : xor32 a b < 4294967296 := Nat.xor_lt_two_pow (n := 32) (by omega) (by omega)
theorem lt_or (a b : Nat) : or32 a b < 4294967296 := Nat.or_lt_two_pow (n := 32) (by omega) (by omega)
end Go.Proofs.YtconcnndghmdfaaGreatDoor
namespace Go.Proofs.YtconcnndghmdfaaGreatDoor
open Go.RowKit

theorem hide {p : Prop} (h : p) : Hid p := h
theorem unhide {p : Prop} (h : Hid p) : p := h

theorem ret_int {k : IntKind} {a b : Int} (h : a = b) : Ending.returned (.int k a) = .returned (.int k b) := by rw [h]
theorem ret_bool {a b : Bool} (h : a = b) : Ending.returned (.bool a) = .returned (.bool b) := by rw [h]
theorem ret_str {a b : ByteArray} (h : a = b) : Ending.returned (.string a) = .returned (.string b) := by rw [h]

theorem i64_of {n : Int} (h : (Lit.int .i64 n).wf = true) : -9223372036854775808 ≤ n ∧ n ≤ 9223372036854775807 := by
  simp [Lit.wf] at h; exact ⟨Int.le_trans (by decide) h.1, h.2⟩

/-- A byte as a cell. -/
def byteV (b : UInt8) : Value := .int .u8 b.toNat

theorem own_push {w : World} {base e : Nat} {v : Value} {l : List UInt8} {X : Int} (b : UInt8) (h : w.ownsRow base e 1 v (l.length + 1) (l.map byteV ++ [.int .u8 X])) (hX : X = (b.toNat : Int)) :
    w.ownsRow base e 1 v (l ++ [b]).length ((l ++ [b]).map byteV) := by
  subst hX; simpa [byteV] using h

theorem own_bytes {w : World} {base e : Nat} {v : Value} {l : List UInt8} (h : w.ownsRow base e 1 v l.length (l.map byteV)) (hne : l ≠ []) :
    ∃ g cap, v = .slice (some ⟨g, 0, none⟩) l.length cap ∧ base ≤ g ∧ ∀ j (hj : j < l.length), w.cell? ((⟨g, 0, none⟩ : Addr).add j) = some (.int .u8 (l[j].toNat : Int)) := by
  have h0 := h
  obtain ⟨_, ⟨_, hn⟩ | ⟨g, cap, cur, rfl, hg, _⟩⟩ := h
  · exact absurd (List.length_eq_zero_iff.1 hn) hne
  · refine ⟨g, cap, rfl, hg, fun j hj => ?_⟩
    have := h0.cellAt j (by omega)
    have e : (⟨g, 0, none⟩ : Addr).add j = ⟨g, j, none⟩ := by by_cases hz : j = 0 <;> simp [Addr.add, hz]
    rw [e, this]
    simp [hj, byteV]

theorem str_ne {a b : ByteArray} (h : a ≠ b) : (a.toList == b.toList) = false := by
  rw [beq_eq_false_iff_ne]
  intro e
  rw [ByteArray.toList_eq, ByteArray.toList_eq] at e
  exact h (ByteArray.ext (Array.toList_inj.1 e))
theorem str_eq {a b : ByteArray} (h : a = b) : (a.toList == b.toList) = true := by rw [h]; simp
theorem bcell {n : Nat} {W w1 : World} (hb : Below n W w1) : (∀ b o, b < n → w1.cell? ⟨b, o, none⟩ = W.cell? ⟨b, o, none⟩) ∧ (∀ b o, b < n → w1.frozen? ⟨b, o, none⟩ = W.frozen? ⟨b, o, none⟩) :=
  ⟨fun b o h => hb.cell (p := ⟨b, o, none⟩) h, fun b o h => hb.frozen (p := ⟨b, o, none⟩) h⟩
theorem out_read {w1 : World} {g : Nat} {x0 x1 x2 : Value} (a b c : Value) (h0 : w1.cell? ⟨g, 0, none⟩ = some x0) (h1 : w1.cell? ⟨g, 1, none⟩ = some x1) (h2 : w1.cell? ⟨g, 2, none⟩ = some x2) :
    (w1.setCell ⟨g, 0, none⟩ a).cell? ⟨g, 0, none⟩ = some a ∧ ((w1.setCell ⟨g, 0, none⟩ a).setCell ⟨g, 1, none⟩ b).cell? ⟨g, 1, none⟩ = some b ∧
    (((w1.setCell ⟨g, 0, none⟩ a).setCell ⟨g, 1, none⟩ b).setCell ⟨g, 2, none⟩ c).cell? ⟨g, 2, none⟩ = some c := by
  refine ⟨World.cell?_setCell_same _ _ _ h0, World.cell?_setCell_same _ _ _ (u := x1) ?_, World.cell?_setCell_same _ _ _ (u := x2) ?_⟩
  · rw [World.cell?_setCell_other _ _ _ _ (by simp)]; exact h1
  · rw [World.cell?_setCell_other _ _ _ _ (by simp), World.cell?_setCell_other _ _ _ _ (by simp)]; exact h2
theorem out_cells {n g T : Nat} {W w1 : World} {x0 x1 x2 : Value} (hb : Below n W w1) (hg : g < n) (hW : W.heap[g]? = some (.cells #[x0, x1, x2] T (0, 0))) :
    (w1.cell? ⟨g, 0, none⟩ = some x0 ∧ w1.cell? ⟨g, 1, none⟩ = some x1 ∧ w1.cell? ⟨g, 2, none⟩ = some x2) ∧ (∀ o, w1.frozen? ⟨g, o, none⟩ = false) := by
  have h := (hb.block g hg).trans hW
  refine ⟨⟨?_, ?_, ?_⟩, fun o => ?_⟩
  · simp [World.cell?, h]
  · simp [World.cell?, h]
  · simp [World.cell?, h]
  · simp [World.frozen?, h]
theorem size_mk (l : List UInt8) : (⟨l.toArray⟩ : ByteArray).size = l.length := by show l.toArray.size = l.length; simp

theorem ofNat_byte (n : Nat) (h : n < 256) : ((UInt8.ofNat n).toNat : Int) = (n : Int) := by
  simp [UInt8.toNat_ofNat']; omega

theorem one_cell (w : World) (x : Value) (t : Nat) : ∀ (j : Nat) (u : Value), [x][j]? = some u → (w.alloc (.cells #[x] t)).cell? ((⟨w.heap.size, 0, none⟩ : Addr).add j) = some u := by
  intro j u hj
  match j, hj with
  | 0, hj => simp at hj; subst hj; simp [Addr.add]
theorem one_oneCell (k : IntKind) (x : Int) : ∀ u ∈ [Value.int k x], u.oneCell' = true := by intro u hu; simp at hu; subst hu; rfl
theorem below_out {w w1 : World} {o : Obj} {a b c : Value} (hb : Below (w.heap.size + 1) (w.alloc o).drew w1) :
    Below w.heap.size w (((w1.setCell ⟨w.heap.size, 0, none⟩ a).setCell ⟨w.heap.size, 1, none⟩ b).setCell ⟨w.heap.size, 2, none⟩ c) :=
  ((((((Below.refl _ _).alloc (Nat.le_refl _) o).drew).trans (hb.mono (Nat.le_succ _))).setCell (Nat.le_refl _) _).setCell (Nat.le_refl _) _).setCell (Nat.le_refl _) _
theorem below_out' {w w1 : World} {o : Obj} {a b c : Value} (hb : Below (w.heap.size + 1) (w.alloc o) w1) :
    Below w.heap.size w (((w1.setCell ⟨w.heap.size, 0, none⟩ a).setCell ⟨w.heap.size, 1, none⟩ b).setCell ⟨w.heap.size, 2, none⟩ c) :=
  (((((Below.refl _ _).alloc (Nat.le_refl _) o).trans (hb.mono (Nat.le_succ _))).setCell (Nat.le_refl _) _).setCell (Nat.le_refl _) _).setCell (Nat.le_refl _) _
theorem law_below {w w1 w2 w3 : World} {o o2 : Obj} (hb1 : Below w.heap.size w w1) (hb2 : Below (w1.heap.size + 1) (w1.alloc o) w2) (hb3 : Below (w2.heap.size + 1) (w2.alloc o2) w3) : Below w.heap.size w w3 := by
  have s1 := hb1.size
  have s2 := hb2.size
  simp at s2
  exact ((hb1.alloc hb1.size o).trans ((hb2.mono (by omega)).alloc (by omega) o2)).trans (hb3.mono (by omega))
end Go.Proofs.YtconcnndghmdfaaGreatDoor
namespace Go.Proofs.YtconcnndghmdfaaGreatDoor
open Go.RowKit
theorem turn_eq (x k : Nat) : bits .or .u32 ((x : Int) / 2 ^ k) ((x : Int) * 2 ^ (32 - k) % 4294967296) = ((turn32 x k : Nat) : Int) := by
  have e : ((x : Int) * 2 ^ (32 - k) % 4294967296) = ((shl32 x (32 - k) : Nat) : Int) := by rw [← r_shl, IntKind.wrap_u32]
  rw [r_shr, e, r_or]; rfl
set_option maxRecDepth 100000 in
set_option maxHeartbeats 400000 in
theorem spec_turn (x k : Nat) (w : World) (hk0 : 1 ≤ k) (hk : k ≤ 31) :
    Calls Tryz.prog 128 #[.int .u32 x, .int .u64 k] w fun e w' => e = .returned (.int .u32 (turn32 x k)) ∧ w = w' := by
  go_enter Tryz.func128, Tryz.ntmps128
  go_wp2_with fail
  have ht := turn_eq x k
  simp only [ht]
  go_ret
  exact ⟨rfl, rfl⟩
theorem spec_turnI (x k : Nat) (K : Int) (hK : K = (k : Int)) (w : World) (hk0 : 1 ≤ k) (hk : k ≤ 31) :
    Calls Tryz.prog 128 #[.int .u32 x, .int .u64 K] w fun e w' => e = .returned (.int .u32 (turn32 x k)) ∧ w = w' := by
  subst hK; exact spec_turn x k w hk0 hk
theorem spec_turnK (x : Nat) (K : Int) (w : World) (h0 : 1 ≤ K) (h : K ≤ 31) :
    Calls Tryz.prog 128 #[.int .u32 x, .int .u64 K] w fun e w' => e = .returned (.int .u32 (turn32 x K.toNat)) ∧ w = w' :=
  spec_turnI x K.toNat K (by omega) w (by omega) (by omega)
end Go.Proofs.YtconcnndghmdfaaGreatDoor
namespace Go.Proofs.YtconcnndghmdfaaGreatDoor

def shaKeys : List Nat := [
  1116352408, 1899447441, 3049323471, 3921009573, 961987163, 1508970993, 2453635748, 2870763221,
  3624381080, 310598401, 607225278, 1426881987, 1925078388, 2162078206, 2614888103, 3248222580,
  3835390401, 4022224774, 264347078, 604807628, 770255983, 1249150122, 1555081692, 1996064986,
  2554220882, 2821834349, 2952996808, 3210313671, 3336571891, 3584528711, 113926993, 338241895,
  666307205, 773529912, 1294757372, 1396182291, 1695183700, 1986661051, 2177026350, 2456956037,
  2730485921, 2820302411, 3259730800, 3345764771, 3516065817, 3600352804, 4094571909, 275423344,
  430227734, 506948616, 659060556, 883997877, 958139571, 1322822218, 1537002063, 1747873779,
  1955562222, 2024104815, 2227730452, 2361852424, 2428436474, 2756734187, 3204031479, 3329325298]
def shaStart : List Nat := [1779033703, 3144134277, 1013904242, 2773480762, 1359893119, 2600822924, 528734635, 1541459225]
def shaKey (i : Nat) : Nat := shaKeys.getD i 0
def shaStart1 (i : Nat) : Nat := shaStart.getD i 0

/-- The i-th word of a block of bytes. -/
def word (B : Nat → Nat) (i : Nat) : Nat := or32 (or32 (or32 (shl32 (B (4 * i)) 24) (shl32 (B (4 * i + 1)) 16)) (shl32 (B (4 * i + 2)) 8)) (B (4 * i + 3))
def sig0 (x : Nat) : Nat := xor32 (xor32 (turn32 x 7) (turn32 x 18)) (shr32 x 3)
def sig1 (y : Nat) : Nat := xor32 (xor32 (turn32 y 17) (turn32 y 19)) (shr32 y 10)
/-- The n-th word of the schedule. -/
def wd (B : Nat → Nat) (n : Nat) : Nat :=
  if _h : n < 16 then word B n
  else add32 (add32 (add32 (wd B (n - 16)) (sig0 (wd B (n - 15)))) (wd B (n - 7))) (sig1 (wd B (n - 2)))

structure R8 where
  (a b c d e f g h : Nat)
def R8.get (s : R8) (i : Nat) : Nat := [s.a, s.b, s.c, s.d, s.e, s.f, s.g, s.h].getD i 0
def big1 (e : Nat) : Nat := xor32 (xor32 (turn32 e 6) (turn32 e 11)) (turn32 e 25)
def big0 (a : Nat) : Nat := xor32 (xor32 (turn32 a 2) (turn32 a 13)) (turn32 a 22)
def chs (e f g : Nat) : Nat := xor32 (and32 e f) (and32 (not32 e) g)
def maj (a b c : Nat) : Nat := xor32 (xor32 (and32 a b) (and32 a c)) (and32 b c)
def tt1 (s : R8) (k w : Nat) : Nat := add32 (add32 (add32 (add32 s.h (big1 s.e)) (chs s.e s.f s.g)) k) w
def tt2 (s : R8) : Nat := add32 (big0 s.a) (maj s.a s.b s.c)
def rnd (s : R8) (k w : Nat) : R8 := ⟨add32 (tt1 s k w) (tt2 s), s.a, s.b, s.c, add32 s.d (tt1 s k w), s.e, s.f, s.g⟩
def rounds (B : Nat → Nat) (s : R8) : Nat → R8
  | 0 => s
  | n + 1 => rnd (rounds B s n) (shaKey n) (wd B n)
def R8.of (f : Nat → Nat) : R8 := ⟨f 0, f 1, f 2, f 3, f 4, f 5, f 6, f 7⟩
/-- A block's bytes B taken into a state. -/
def blockF (B : Nat → Nat) (st : Nat → Nat) (i : Nat) : Nat := add32 (st i) ((rounds B (R8.of st) 64).get i)

theorem key_lt : ∀ i, shaKey i < 4294967296 := by
  intro i
  by_cases h : i < 64
  · have : ∀ j : Fin 64, shaKey j.1 < 4294967296 := by decide
    exact this ⟨i, h⟩
  · unfold shaKey; rw [List.getD_eq_getElem?_getD, List.getElem?_eq_none (by simp [shaKeys]; omega)]; decide
theorem start_lt : ∀ i, shaStart1 i < 4294967296 := by
  intro i
  by_cases h : i < 8
  · have : ∀ j : Fin 8, shaStart1 j.1 < 4294967296 := by decide
    exact this ⟨i, h⟩
  · unfold shaStart1; rw [List.getD_eq_getElem?_getD, List.getElem?_eq_none (by simp [shaStart]; omega)]; decide
theorem lt_turn (x k : Nat) : turn32 x k < 4294967296 := lt_or _ _
theorem lt_word (B : Nat → Nat) (i : Nat) : word B i < 4294967296 := lt_or _ _
theorem wd_lo (B : Nat → Nat) (n : Nat) (h : n < 16) : wd B n = word B n := by rw [wd, dif_pos h]
theorem wd_hi (B : Nat → Nat) (n : Nat) (h : ¬ n < 16) : wd B n = add32 (add32 (add32 (wd B (n - 16)) (sig0 (wd B (n - 15)))) (wd B (n - 7))) (sig1 (wd B (n - 2))) := by rw [wd, dif_neg h]
theorem lt_wd (B : Nat → Nat) (n : Nat) : wd B n < 4294967296 := by
  by_cases h : n < 16
  · rw [wd_lo B n h]; exact lt_word B n
  · rw [wd_hi B n h]; exact lt_add _ _
def R8.small (s : R8) : Prop := s.a < 4294967296 ∧ s.b < 4294967296 ∧ s.c < 4294967296 ∧ s.d < 4294967296 ∧ s.e < 4294967296 ∧ s.f < 4294967296 ∧ s.g < 4294967296 ∧ s.h < 4294967296
theorem rnd_small (s : R8) (k w : Nat) (h : s.small) : (rnd s k w).small := by
  obtain ⟨h1, h2, h3, h4, h5, h6, h7, h8⟩ := h
  exact ⟨lt_add _ _, h1, h2, h3, lt_add _ _, h5, h6, h7⟩
theorem rounds_small (B : Nat → Nat) (s : R8) (h : s.small) : ∀ n, (rounds B s n).small
  | 0 => h
  | n + 1 => rnd_small _ _ _ (rounds_small B s h n)
theorem lt_block (B st : Nat → Nat) (i : Nat) : blockF B st i < 4294967296 := lt_add _ _
end Go.Proofs.YtconcnndghmdfaaGreatDoor
namespace Go.Proofs.YtconcnndghmdfaaGreatDoor
open Go.RowKit
theorem row_at (k : IntKind) (l : List Nat) (i : Nat) (h : i < l.length) : (l.map fun n => Value.int k (n : Nat)).toArray[i]? = some (.int k (l.getD i 0 : Nat)) := by
  simp [h]
def keyV (j : Nat) : Value := .int .u32 (shaKey j : Nat)
def startV (j : Nat) : Value := .int .i64 (shaStart1 j : Nat)
set_option maxRecDepth 100000 in
set_option maxHeartbeats 1600000 in
theorem spec_keys (w : World) :
    Calls Tryz.prog 129 #[] w fun e w' => e = .returned (.slice (some ⟨w.heap.size, 0, none⟩) 64 64) ∧ w'.rowIs w.heap.size 176 64 keyV ∧ Below w.heap.size w w' := by
  go_enter Tryz.func129, Tryz.ntmps129
  go_wp2_with fail
  go_ret
  refine ⟨rfl, ?_, (Below.refl _ _).alloc (Nat.le_refl _) _⟩
  refine (World.rowIs_alloc w _ _ keyV ?_)
  intro i hi
  exact row_at .u32 shaKeys i hi
set_option maxRecDepth 100000 in
set_option maxHeartbeats 1600000 in
theorem spec_start (w : World) :
    Calls Tryz.prog 96 #[] w fun e w' => e = .returned (.slice (some ⟨w.heap.size, 0, none⟩) 8 8) ∧ w'.rowIs w.heap.size 2 8 startV ∧ Below w.heap.size w w' := by
  go_enter Tryz.func96, Tryz.ntmps96
  go_wp2_with fail
  go_ret
  refine ⟨rfl, ?_, (Below.refl _ _).alloc (Nat.le_refl _) _⟩
  refine (World.rowIs_alloc w _ _ startV ?_)
  intro i hi
  exact row_at .i64 shaStart i hi
end Go.Proofs.YtconcnndghmdfaaGreatDoor

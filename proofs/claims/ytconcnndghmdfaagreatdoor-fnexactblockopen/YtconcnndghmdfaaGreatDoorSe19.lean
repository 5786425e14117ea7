/- Put together: KeyO, KeyF, SealF, UnpZ, NumMath, SealO, OpW, DifU. -/
import Derived.Test.YtconcnndghmdfaaGreatDoorRows
import Derived.Test.YtconcnndghmdfaaGreatDoorSe1
import Derived.WalkKit
import Derived.Test.YtconcnndghmdfaaGreatDoorSe4
import Derived.Test.YtconcnndghmdfaaGreatDoorSe7
import Derived.Test.YtconcnndghmdfaaGreatDoorSe14
import Derived.Test.YtconcnndghmdfaaGreatDoorSe15
import Derived.Test.YtconcnndghmdfaaGreatDoorSe10
import Derived.Test.YtconcnndghmdfaaGreatDoorSe18
import Derived.Test.YtconcnndghmdfaaGreatDoorSe17
namespace Go.Proofs.YtconcnndghmdfaaGreatDoor
open Go.RowKit
def keysV (k : ByteArray × ByteArray) : Value := .agg #[.string k.1, .string k.2]
def keysOk (k : ByteArray × ByteArray) : Bool := decide (k.1.size = 16) && decide (k.2.size = 32)
def idOk (id : Int) : Bool := decide (0 ≤ id) && decide (id ≤ 2000000)
theorem keys_cells {n g T : Nat} {W w1 : World} {x0 x1 : Value} (hb : Below n W w1) (hg : g < n) (hW : W.heap[g]? = some (.cells #[x0, x1] T (0, 0))) :
    w1.cell? ⟨g, 0, none⟩ = some x0 ∧ w1.cell? ⟨g, 1, none⟩ = some x1 ∧ (∀ o, w1.frozen? ⟨g, o, none⟩ = false) ∧ w1.heap[g]? = some (.cells #[x0, x1] T (0, 0)) := by
  have h := (hb.block g hg).trans hW
  refine ⟨by simp [World.cell?, h], by simp [World.cell?, h], fun o => by simp [World.frozen?, h], h⟩
theorem keys_set {w1 : World} {g T : Nat} {x0 x1 a b : Value} (h : w1.heap[g]? = some (.cells #[x0, x1] T (0, 0))) :
    ((w1.setCell ⟨g, 0, none⟩ a).setCell ⟨g, 1, none⟩ b).heap[g]? = some (.cells #[a, b] T (0, 0)) := by simp [World.setCell, Array.getElem?_modify, h]
theorem keys_below {w w1 : World} {o : Obj} {a b : Value} (hb : Below (w.heap.size + 1) (w.alloc o) w1) :
    Below w.heap.size w ((w1.setCell ⟨w.heap.size, 0, none⟩ a).setCell ⟨w.heap.size, 1, none⟩ b) :=
  ((((Below.refl _ _).alloc (Nat.le_refl _) o).trans (hb.mono (Nat.le_succ _))).setCell (Nat.le_refl _) _).setCell (Nat.le_refl _) _
/-- The first bytes of a text. -/
theorem run_front {P : Program} (w : World) (t : TypeId) (s : ByteArray) (A : Nat) (h : P.underlying t = some .string) (hS : A ≤ s.size) :
    (Instr.slice t (.string s) none (some (.int .i64 (A : Int))) none).run P w = .ok (.string (s.extract 0 A)) w := by
  rw [run_slice_string_to_if w t s .i64 _ h, if_pos (by omega), Int.toNat_natCast]
theorem run_back {P : Program} (w : World) (t : TypeId) (s : ByteArray) (A : Nat) (h : P.underlying t = some .string) (hS : A ≤ s.size) :
    (Instr.slice t (.string s) (some (.int .i64 (A : Int))) none none).run P w = .ok (.string (s.extract A s.size)) w := by
  rw [run_slice_string_from_if w t s .i64 _ h, if_pos (by omega), Int.toNat_natCast]
end Go.Proofs.YtconcnndghmdfaaGreatDoor
namespace Go.Proofs.YtconcnndghmdfaaGreatDoor
open Go.RowKit
/-- The words that a key and a mark are made with. -/
def hideW : ByteArray := ⟨#[104, 105, 100, 101]⟩
def markW : ByteArray := ⟨#[109, 97, 114, 107]⟩
/-- The first 16 bytes. -/
def take16 (t : ByteArray) : ByteArray := t.extract 0 16
theorem take16_size (t : ByteArray) (h : 16 ≤ t.size) : (take16 t).size = 16 := by
  unfold take16; rw [ByteArray.size_extract]; omega
/-- The keys of a pass. -/
def keysT (pass : ByteArray) : ByteArray × ByteArray := (take16 (macT (stretchS pass 3) hideW), macT (stretchS pass 3) markW)
def keysS (pass : ByteArray) : ByteArray × ByteArray := if pass.size ≤ 20000 then keysT pass else (⟨#[]⟩, ⟨#[]⟩)
theorem stretchS_size (pass : ByteArray) (n : Int) : (stretchS pass n).size ≤ 32 := by
  unfold stretchS
  split
  · exact stretchT_size _ _
  · exact Nat.zero_le _
theorem keysT_ok (pass : ByteArray) : keysOk (keysT pass) = true := by
  have h1 : (keysT pass).1.size = 16 := take16_size _ (by rw [macT_size]; decide)
  have h2 : (keysT pass).2.size = 32 := macT_size _ _
  unfold keysOk
  rw [h1, h2]
  rfl
end Go.Proofs.YtconcnndghmdfaaGreatDoor
namespace Go.Proofs.YtconcnndghmdfaaGreatDoor
open Go.RowKit
/-- A number, and a text in cipher. -/
def numB (n : Int) : ByteArray := ⟨(encNum (foldNum n)).toArray⟩
def hidB (key : ByteArray) (n : Nat) (t : ByteArray) : ByteArray := ⟨(ctrL (kB (keyF key)) n (bF t) t.size).toArray⟩
theorem hidB_size (key : ByteArray) (n : Nat) (t : ByteArray) : (hidB key n t).size = t.size := by
  unfold hidB; rw [size_mk]; simp [ctrL]
/-- What is packed: the text, or its Differ. -/
def difB (t : ByteArray) (far : Int) : ByteArray := if 0 < far then ⟨((List.range t.size).map (difF (bF t) far.toNat)).toArray⟩ else t
theorem difB_size (t : ByteArray) (far : Int) : (difB t far).size = t.size := by
  unfold difB
  split
  · rw [size_mk]; simp
  · rfl
/-- A pack of at most 4000 bytes has at most 17006. -/
theorem packB_few (t : ByteArray) (h : t.size ≤ 4000) : (packB t).size ≤ 17006 := by
  have h1 := codeToks_len (bF t) t.size h
  have h4 := encNum_le 1 (foldNum t.size) (by unfold foldNum; rw [if_neg (by omega)]; show (2 * (t.size : Int)).toNat < 16384; omega)
  have e1 : (⟨(encNum (foldNum (t.size : Int))).toArray⟩ : ByteArray).size = (encNum (foldNum (t.size : Int))).length := size_mk _
  have e2 : (⟨(codeOf (toksBits (parseL (bF t) t.size))).toArray⟩ : ByteArray).size = (codeOf (toksBits (parseL (bF t) t.size))).length := size_mk _
  have e3 : (packB t).size = _ + _ := ByteArray.size_append
  rw [e3, e1, e2]
  omega
/-- What stands ahead of a sealed block's last 16 bytes, and the block. -/
def sealT (k : ByteArray × ByteArray) (id far : Int) (t : ByteArray) : ByteArray := numB id ++ numB far ++ hidB k.1 id.toNat (packB (difB t far))
def sealB (k : ByteArray × ByteArray) (id far : Int) (t : ByteArray) : ByteArray := sealT k id far t ++ take16 (macT k.2 (sealT k id far t))
def sealOk (k : ByteArray × ByteArray) (id far : Int) (t : ByteArray) : Prop := keysOk k = true ∧ idOk id = true ∧ 0 ≤ far ∧ far ≤ 256 ∧ t.size ≤ 4000
instance (k : ByteArray × ByteArray) (id far : Int) (t : ByteArray) : Decidable (sealOk k id far t) := by unfold sealOk; infer_instance
def sealS (k : ByteArray × ByteArray) (id far : Int) (t : ByteArray) : ByteArray := if sealOk k id far t then sealB k id far t else ⟨#[]⟩
theorem numB_size (n : Int) (h0 : 0 ≤ n) (h1 : n ≤ 2000000) : (numB n).size ≤ 4 := by
  have := encNum_le 3 (foldNum n) (by unfold foldNum; rw [if_neg (by omega)]; show (2 * n).toNat < 128 ^ 4; omega)
  unfold numB
  rw [size_mk]
  exact this
theorem sealT_size (k : ByteArray × ByteArray) (id far : Int) (t : ByteArray) (h0 : 0 ≤ id) (h1 : id ≤ 2000000) (h2 : 0 ≤ far) (h3 : far ≤ 256) (ht : t.size ≤ 4000) : (sealT k id far t).size ≤ 17014 := by
  have a := numB_size id h0 h1
  have b := numB_size far h2 (by omega)
  have c := packB_few (difB t far) (by rw [difB_size]; exact ht)
  unfold sealT
  rw [ByteArray.size_append, ByteArray.size_append, hidB_size]
  omega
end Go.Proofs.YtconcnndghmdfaaGreatDoor
namespace Go.Proofs.YtconcnndghmdfaaGreatDoor
open Go.RowKit
theorem unpackS_size (s : ByteArray) : (unpackS s).1.size ≤ 4000 := by
  unfold unpackS
  split
  · exact Nat.zero_le _
  · split
    · split
      · exact Nat.zero_le _
      · unfold unpN
        split
        · rename_i h4
          have hz := unpO_size _ _ h4
          split
          · show (unpO _ _).1.size ≤ 4000
            rw [hz]; omega
          · exact Nat.zero_le _
        · exact Nat.zero_le _
    · exact Nat.zero_le _
theorem unpackS_code (s : ByteArray) : (unpackS s).2 = 0 ∨ (unpackS s).2 = 2 ∨ (unpackS s).2 = 3 ∨ (unpackS s).2 = 5 := by
  unfold unpackS
  split
  · exact .inr (.inl rfl)
  · split
    · split
      · exact .inr (.inr (.inl rfl))
      · unfold unpN
        split
        · split
          · exact .inl rfl
          · exact .inr (.inr (.inl rfl))
        · exact .inr (.inr (.inr rfl))
    · exact .inr (.inr (.inl rfl))
end Go.Proofs.YtconcnndghmdfaaGreatDoor
namespace Go.Proofs.YtconcnndghmdfaaGreatDoor
open Go.RowKit

theorem unfold_fold (n : Int) : unfold (foldNum n) = n := by
  unfold unfold foldNum
  by_cases h : n < 0
  · rw [if_pos h, if_pos (by omega)]; omega
  · rw [if_neg h, if_neg (by omega)]; omega
theorem byte_nat (n : Nat) (h : n < 256) : (UInt8.ofNat n).toNat = n := by
  have := ofNat_byte n h; omega
theorem encNum_ne (V : Nat) : encNum V ≠ [] := by
  by_cases h : V < 128
  · rw [encNum_last V h]; simp
  · rw [encNum_more V h]; simp

theorem k_of {V k : Nat} (h : V * 2 ^ (7 * k) < 18446744073709551616) (hV : 128 ≤ V) : k ≤ 8 := by
  rcases Nat.lt_or_ge k 9 with h9 | h9
  · omega
  · have h1 : 2 ^ 63 ≤ 2 ^ (7 * k) := Nat.pow_le_pow_right (by decide) (by omega)
    have h2 := Nat.mul_le_mul hV h1
    have h3 : (128 : Nat) * 2 ^ 63 = 1180591620717411303424 := by decide
    omega
theorem v_of {V : Nat} (h : V * 2 ^ (7 * 9) < 18446744073709551616) : V ≤ 1 := by
  have h3 : (2 : Nat) ^ (7 * 9) = 9223372036854775808 := by decide
  rw [h3] at h; omega
theorem next_of {V k : Nat} (h : V * 2 ^ (7 * k) < 18446744073709551616) : V / 128 * 2 ^ (7 * (k + 1)) < 18446744073709551616 := by
  have e : 2 ^ (7 * (k + 1)) = 128 * 2 ^ (7 * k) := by rw [show 7 * (k + 1) = 7 * k + 7 from by omega, Nat.pow_add, Nat.mul_comm]
  rw [e, ← Nat.mul_assoc]
  exact Nat.lt_of_le_of_lt (Nat.mul_le_mul_right _ (by omega)) h

theorem dec_enc (n : Nat) : ∀ V, V ≤ n → ∀ k u rest, k ≤ 9 → V * 2 ^ (7 * k) < 18446744073709551616 → (0 < k → 0 < V) → dec k u (encNum V ++ rest) = (0, u + V * 2 ^ (7 * k), k + (encNum V).length) := by
  induction n with
  | zero =>
    intro V hV k u rest hk hb h0
    obtain rfl : V = 0 := by omega
    have hk0 : k = 0 := by rcases Nat.eq_zero_or_pos k with h | h; exact h; exact absurd (h0 h) (by omega)
    subst hk0
    rw [encNum_last 0 (by omega)]
    simp [dec]
  | succ n ih =>
    intro V hV k u rest hk hb h0
    by_cases hlt : V < 128
    · rw [encNum_last V hlt]
      have hn := byte_nat V (by omega)
      have h9 : ¬ (k = 9 ∧ 1 < (UInt8.ofNat V).toNat) := by
        rintro ⟨rfl, h⟩
        have := v_of hb; omega
      have hz : ¬ ((UInt8.ofNat V).toNat = 0 ∧ 0 < k) := by rintro ⟨h1, h2⟩; have := h0 h2; omega
      rw [List.singleton_append, dec, if_neg h9, if_pos (by omega), if_neg hz, hn, Nat.mod_eq_of_lt hlt]
      rfl
    · rw [encNum_more V hlt]
      have hn := byte_nat (V % 128 + 128) (by omega)
      have hk8 := k_of hb (by omega)
      rw [List.cons_append, dec, if_neg (by omega), if_neg (by omega), hn]
      have e2 : (V % 128 + 128) % 128 = V % 128 := by omega
      rw [e2, ih (V / 128) (by omega) (k + 1) _ rest (by omega) (next_of hb) (by omega)]
      have e : 2 ^ (7 * (k + 1)) = 128 * 2 ^ (7 * k) := by rw [show 7 * (k + 1) = 7 * k + 7 from by omega, Nat.pow_add, Nat.mul_comm]
      have e3 : V % 128 * 2 ^ (7 * k) + V / 128 * (128 * 2 ^ (7 * k)) = V * 2 ^ (7 * k) := by
        rw [← Nat.mul_assoc, ← Nat.add_mul]
        have : V % 128 + V / 128 * 128 = V := by omega
        rw [this]
      rw [e, Nat.add_assoc, e3, List.length_cons]
      have e4 : k + 1 + (encNum (V / 128)).length = k + ((encNum (V / 128)).length + 1) := by omega
      rw [e4]

theorem dec_cut (n : Nat) : ∀ V, V ≤ n → ∀ k u, k ≤ 9 → V * 2 ^ (7 * k) < 18446744073709551616 → dec k u (encNum V).dropLast = (4, 0, 0) := by
  induction n with
  | zero =>
    intro V hV k u hk hb
    obtain rfl : V = 0 := by omega
    rw [encNum_last 0 (by omega)]; rfl
  | succ n ih =>
    intro V hV k u hk hb
    by_cases hlt : V < 128
    · rw [encNum_last V hlt]; rfl
    · rw [encNum_more V hlt, List.dropLast_cons_of_ne_nil (encNum_ne _)]
      have hn := byte_nat (V % 128 + 128) (by omega)
      have hk8 := k_of hb (by omega)
      rw [dec, if_neg (by omega), if_neg (by omega)]
      exact ih (V / 128) (by omega) (k + 1) _ (by omega) (next_of hb)

theorem dec_whole (V : Nat) (rest : List UInt8) (h : V < 18446744073709551616) : dec 0 0 (encNum V ++ rest) = (0, V, (encNum V).length) := by
  have := dec_enc V V (Nat.le_refl _) 0 0 rest (by omega) (by simpa using h) (by omega)
  simpa using this
theorem dec_cut0 (V : Nat) (h : V < 18446744073709551616) : dec 0 0 (encNum V).dropLast = (4, 0, 0) :=
  dec_cut V V (Nat.le_refl _) 0 0 (by omega) (by simpa using h)
end Go.Proofs.YtconcnndghmdfaaGreatDoor
namespace Go.Proofs.YtconcnndghmdfaaGreatDoor
open Go.RowKit
/-- A text, or its Sum. -/
def sumB (t : ByteArray) (far : Int) : ByteArray := if 0 < far then ⟨((List.range t.size).map (sumF (bF t) far.toNat)).toArray⟩ else t
theorem sumB_size (t : ByteArray) (far : Int) : (sumB t far).size = t.size := by
  unfold sumB
  split
  · rw [size_mk]; simp
  · rfl
/-- A block's body, and its last 16 bytes. -/
def bodyX (b : ByteArray) : ByteArray := b.extract 0 (b.size - 16)
def tailX (b : ByteArray) : ByteArray := b.extract (b.size - 16) b.size
/-- The two numbers in front of a body. -/
def num1 (t : ByteArray) : Nat × Nat × Nat := decAt t 0
def num2 (t : ByteArray) : Nat × Nat × Nat := decAt t (num1 t).2.2
def headOk (t : ByteArray) (id : Int) : Prop := (num1 t).1 = 0 ∧ (num2 t).1 = 0 ∧ unfold (num1 t).2.1 = id ∧ 0 ≤ unfold (num2 t).2.1 ∧ unfold (num2 t).2.1 ≤ 256
instance (t : ByteArray) (id : Int) : Decidable (headOk t id) := by unfold headOk; infer_instance
def farX (t : ByteArray) : Int := unfold (num2 t).2.1
def fromX (t : ByteArray) : Nat := (num1 t).2.2 + (num2 t).2.2
def restX (t : ByteArray) : ByteArray := t.extract (fromX t) t.size
def shownX (k : ByteArray × ByteArray) (id : Int) (t : ByteArray) : ByteArray × Int := unpackS (hidB k.1 id.toNat (restX t))
def openT (k : ByteArray × ByteArray) (id : Int) (b : ByteArray) : ByteArray × Int :=
  if b.size < 18 then (⟨#[]⟩, 4)
  else if ¬ take16 (macT k.2 (bodyX b)) = tailX b then (⟨#[]⟩, 10)
  else if ¬ headOk (bodyX b) id then (⟨#[]⟩, 5)
  else if ¬ (shownX k id (bodyX b)).2 = 0 then (⟨#[]⟩, (shownX k id (bodyX b)).2)
  else (sumB (shownX k id (bodyX b)).1 (farX (bodyX b)), 0)
def openS (k : ByteArray × ByteArray) (id : Int) (b : ByteArray) : ByteArray × Int :=
  if 20000 < b.size then (⟨#[]⟩, 2)
  else if ¬ (keysOk k = true ∧ idOk id = true) then (⟨#[]⟩, 1)
  else openT k id b
theorem bodyX_size (b : ByteArray) : (bodyX b).size = b.size - 16 := by
  unfold bodyX; rw [ByteArray.size_extract]; omega
theorem tailX_size (b : ByteArray) (h : 16 ≤ b.size) : (tailX b).size = 16 := by
  unfold tailX; rw [ByteArray.size_extract]; omega
theorem num1_le (t : ByteArray) : (num1 t).2.2 ≤ t.size := by
  rcases decAt_form t 0 with ⟨U, m, h, hm⟩ | h | h <;> unfold num1 <;> rw [h]
  · simpa using hm
  · exact Nat.zero_le _
  · exact Nat.zero_le _
theorem num1_bad (t : ByteArray) (h : ¬ (num1 t).1 = 0) : (num1 t).2.2 = 0 ∧ (num1 t).2.1 = 0 := by
  unfold num1 at *
  rcases decAt_form t 0 with ⟨U, m, e, hm⟩ | e | e
  · rw [e] at h; exact absurd rfl h
  · rw [e]; exact ⟨rfl, rfl⟩
  · rw [e]; exact ⟨rfl, rfl⟩
theorem fromX_le (t : ByteArray) : fromX t ≤ t.size := by
  have h1 := num1_le t
  unfold fromX num2
  rcases decAt_form t (num1 t).2.2 with ⟨U, m, h, hm⟩ | h | h <;> rw [h]
  · show (num1 t).2.2 + m ≤ t.size; omega
  · show (num1 t).2.2 + 0 ≤ t.size; omega
  · show (num1 t).2.2 + 0 ≤ t.size; omega
theorem restX_size (t : ByteArray) : (restX t).size ≤ t.size := by
  unfold restX; rw [ByteArray.size_extract]; omega
end Go.Proofs.YtconcnndghmdfaaGreatDoor
namespace Go.Proofs.YtconcnndghmdfaaGreatDoor
open Go.RowKit Go
structure OpW (w : World) (H M : ByteArray) (w2 : World) : Prop where
  b : Below (w.heap.size + 2) ((w.alloc (.cells #[.string H, .string M] 24)).alloc (.cells #[.string ⟨#[]⟩, .int .i64 0, .int .i64 0] 31)) w2
namespace OpW
variable {w w1 w2 : World} {H M : ByteArray}
theorem one (h : Below ((w.alloc (.cells #[.string H, .string M] 24)).alloc (.cells #[.string ⟨#[]⟩, .int .i64 0, .int .i64 0] 31)).heap.size ((w.alloc (.cells #[.string H, .string M] 24)).alloc (.cells #[.string ⟨#[]⟩, .int .i64 0, .int .i64 0] 31)) w2) : OpW w H M w2 := ⟨by simpa using h⟩
theorem start : OpW w H M ((w.alloc (.cells #[.string H, .string M] 24)).alloc (.cells #[.string ⟨#[]⟩, .int .i64 0, .int .i64 0] 31)) := ⟨Below.refl _ _⟩
theorem size (h : OpW w H M w2) : w.heap.size + 2 ≤ w2.heap.size := by have := h.b.size; simpa using this
theorem call (h : OpW w H M w1) (hb : Below w1.heap.size w1 w2) : OpW w H M w2 := ⟨h.b.trans (hb.mono h.size)⟩
theorem call' (h : OpW w H M w1) (hb : Below w1.drew.heap.size w1.drew w2) : OpW w H M w2 := ⟨h.b.drew.trans (hb.mono h.size)⟩
theorem alloc (h : OpW w H M w1) (o : Obj) : OpW w H M (w1.alloc o) := ⟨h.b.alloc h.size o⟩
theorem drew (h : OpW w H M w1) : OpW w H M w1.drew := ⟨h.b.drew⟩
theorem keys (h : OpW w H M w2) : w2.heap[w.heap.size]? = some (.cells #[.string H, .string M] 24 (0, 0)) := by
  refine (h.b.block w.heap.size (by omega)).trans ?_
  exact (((Below.refl (w.alloc (.cells #[.string H, .string M] 24)).heap.size _).alloc (Nat.le_refl _) _).block w.heap.size (by simp)).trans (heap_alloc_new w _)
theorem row (h : OpW w H M w2) : w2.heap[w.heap.size + 1]? = some (.cells #[.string ⟨#[]⟩, .int .i64 0, .int .i64 0] 31 (0, 0)) := by
  refine (h.b.block (w.heap.size + 1) (by omega)).trans ?_
  have := heap_alloc_new (w.alloc (.cells #[.string H, .string M] 24)) (.cells #[.string ⟨#[]⟩, .int .i64 0, .int .i64 0] 31)
  simpa using this
theorem c0 (h : OpW w H M w2) : w2.cell? ⟨w.heap.size, 0, none⟩ = some (.string H) := by simp [World.cell?, h.keys]
theorem c1 (h : OpW w H M w2) : w2.cell? ⟨w.heap.size, 1, none⟩ = some (.string M) := by simp [World.cell?, h.keys]
theorem r0 (h : OpW w H M w2) : w2.cell? ⟨w.heap.size + 1, 0, none⟩ = some (.string ⟨#[]⟩) := by simp [World.cell?, h.row]
theorem r1 (h : OpW w H M w2) : w2.cell? ⟨w.heap.size + 1, 1, none⟩ = some (.int .i64 0) := by simp [World.cell?, h.row]
theorem r2 (h : OpW w H M w2) : w2.cell? ⟨w.heap.size + 1, 2, none⟩ = some (.int .i64 0) := by simp [World.cell?, h.row]
theorem fz (h : OpW w H M w2) (o : Nat) : w2.frozen? ⟨w.heap.size + 1, o, none⟩ = false := by simp [World.frozen?, h.row]
theorem low (h : OpW w H M w2) : Below w.heap.size w w2 := (((Below.refl _ _).alloc (Nat.le_refl _) _).alloc (by simp) _).trans (h.b.mono (by omega))
theorem code (h : OpW w H M w2) (c : Int) : (w2.setCell ⟨w.heap.size + 1, 2, none⟩ (.int .i64 c)).heap[w.heap.size + 1]? = some (.cells #[.string ⟨#[]⟩, .int .i64 0, .int .i64 c] 31 (0, 0)) := by simp [World.setCell, Array.getElem?_modify, h.row]
theorem text (h : OpW w H M w2) (t : ByteArray) : (w2.setCell ⟨w.heap.size + 1, 0, none⟩ (.string t)).heap[w.heap.size + 1]? = some (.cells #[.string t, .int .i64 0, .int .i64 0] 31 (0, 0)) := by simp [World.setCell, Array.getElem?_modify, h.row]
theorem all (h : OpW w H M w2) (t : ByteArray) (a c : Int) : (((w2.setCell ⟨w.heap.size + 1, 0, none⟩ (.string t)).setCell ⟨w.heap.size + 1, 1, none⟩ (.int .i64 a)).setCell ⟨w.heap.size + 1, 2, none⟩ (.int .i64 c)).heap[w.heap.size + 1]? = some (.cells #[.string t, .int .i64 a, .int .i64 c] 31 (0, 0)) := by simp [World.setCell, Array.getElem?_modify, h.row]
theorem set (h : OpW w H M w2) (o : Nat) (v : Value) : Below w.heap.size w (w2.setCell ⟨w.heap.size + 1, o, none⟩ v) := h.low.setCell (Nat.le_succ _) _
theorem set3 (h : OpW w H M w2) (a b c : Value) : Below w.heap.size w (((w2.setCell ⟨w.heap.size + 1, 0, none⟩ a).setCell ⟨w.heap.size + 1, 1, none⟩ b).setCell ⟨w.heap.size + 1, 2, none⟩ c) := ((h.low.setCell (Nat.le_succ _) _).setCell (Nat.le_succ _) _).setCell (Nat.le_succ _) _
end OpW
/-- .. and a block y of three numbers. -/
structure OpY (w : World) (H M : ByteArray) (y : Nat) (n a c : Int) (w2 : World) : Prop where
  o : OpW w H M w2
  r : w2.heap[y]? = some (.cells #[.int .i64 n, .int .i64 a, .int .i64 c] 91 (0, 0))
namespace OpY
variable {w w1 w2 : World} {H M : ByteArray} {y : Nat} {n a c : Int}
theorem one (h : OpW w H M w1) : OpY w H M w1.heap.size n a c (w1.alloc (.cells #[.int .i64 n, .int .i64 a, .int .i64 c] 91)) := ⟨h.alloc _, heap_alloc_new w1 _⟩
theorem lt (h : OpY w H M y n a c w2) : y < w2.heap.size := (Array.getElem?_eq_some_iff.1 h.r).1
theorem call (h : OpY w H M y n a c w1) (hb : Below w1.heap.size w1 w2) : OpY w H M y n a c w2 := ⟨h.o.call hb, (hb.block y h.lt).trans h.r⟩
theorem call' (h : OpY w H M y n a c w1) (hb : Below w1.drew.heap.size w1.drew w2) : OpY w H M y n a c w2 := ⟨h.o.call' hb, (hb.block y h.lt).trans h.r⟩
theorem drew (h : OpY w H M y n a c w1) : OpY w H M y n a c w1.drew := ⟨h.o.drew, h.r⟩
theorem alloc (h : OpY w H M y n a c w1) (o : Obj) : OpY w H M y n a c (w1.alloc o) := ⟨h.o.alloc o, (((Below.refl w1.heap.size w1).alloc (Nat.le_refl _) o).block y h.lt).trans h.r⟩
theorem y0 (h : OpY w H M y n a c w2) : w2.cell? ⟨y, 0, none⟩ = some (.int .i64 n) := by simp [World.cell?, h.r]
theorem y1 (h : OpY w H M y n a c w2) : w2.cell? ⟨y, 1, none⟩ = some (.int .i64 a) := by simp [World.cell?, h.r]
theorem y2 (h : OpY w H M y n a c w2) : w2.cell? ⟨y, 2, none⟩ = some (.int .i64 c) := by simp [World.cell?, h.r]
end OpY
/-- .. and a block z of an answer. -/
structure OpZ (w : World) (H M : ByteArray) (y : Nat) (n a c : Int) (z : Nat) (w2 : World) : Prop where
  oy : OpY w H M y n a c w2
  g : w.heap.size + 2 ≤ z
  ne : y ≠ z
  r : w2.heap[z]? = some (.cells #[.string ⟨#[]⟩, .int .i64 0, .int .i64 0] 31 (0, 0))
namespace OpZ
variable {w w1 w2 : World} {H M : ByteArray} {y z : Nat} {n a c : Int}
theorem one (h : OpY w H M y n a c w1) : OpZ w H M y n a c w1.heap.size (w1.alloc (.cells #[.string ⟨#[]⟩, .int .i64 0, .int .i64 0] 31)) := ⟨h.alloc _, h.o.size, Nat.ne_of_lt h.lt, heap_alloc_new w1 _⟩
theorem here (h : OpY w H M y n a c w1) (hz : w1.heap.size = z) : OpZ w H M y n a c z (w1.alloc (.cells #[.string ⟨#[]⟩, .int .i64 0, .int .i64 0] 31)) := by subst hz; exact one h
theorem lt (h : OpZ w H M y n a c z w2) : z < w2.heap.size := (Array.getElem?_eq_some_iff.1 h.r).1
theorem call (h : OpZ w H M y n a c z w1) (hb : Below w1.heap.size w1 w2) : OpZ w H M y n a c z w2 := ⟨h.oy.call hb, h.g, h.ne, (hb.block z h.lt).trans h.r⟩
theorem z0 (h : OpZ w H M y n a c z w2) : w2.cell? ⟨z, 0, none⟩ = some (.string ⟨#[]⟩) := by simp [World.cell?, h.r]
theorem z1 (h : OpZ w H M y n a c z w2) : w2.cell? ⟨z, 1, none⟩ = some (.int .i64 0) := by simp [World.cell?, h.r]
theorem z2 (h : OpZ w H M y n a c z w2) : w2.cell? ⟨z, 2, none⟩ = some (.int .i64 0) := by simp [World.cell?, h.r]
theorem fz (h : OpZ w H M y n a c z w2) (o : Nat) : w2.frozen? ⟨z, o, none⟩ = false := by simp [World.frozen?, h.r]
theorem set (h : OpZ w H M y n a c z w2) (u v x : Value) : OpY w H M y n a c (((w2.setCell ⟨z, 0, none⟩ u).setCell ⟨z, 1, none⟩ v).setCell ⟨z, 2, none⟩ x) :=
  ⟨⟨((h.oy.o.b.setCell (p := ⟨z, 0, none⟩) h.g u).setCell (p := ⟨z, 1, none⟩) h.g v).setCell (p := ⟨z, 2, none⟩) h.g x⟩, by
    have hn : z ≠ y := fun e => h.ne e.symm
    simp [World.setCell, Array.getElem?_modify, hn, h.oy.r]⟩
theorem fin (h : OpZ w H M y n a c z w2) (u v x : Value) : (((w2.setCell ⟨z, 0, none⟩ u).setCell ⟨z, 1, none⟩ v).setCell ⟨z, 2, none⟩ x).heap[z]? = some (.cells #[u, v, x] 31 (0, 0)) := by simp [World.setCell, Array.getElem?_modify, h.r]
end OpZ
theorem num1_agg (t : ByteArray) : ∃ n c : Int, numAns 0 (num1 t) = .agg #[.int .i64 n, .int .i64 ((num1 t).2.2 : Int), .int .i64 c] ∧ (c = 0 ↔ (num1 t).1 = 0) ∧ (c = 0 → n = unfold (num1 t).2.1) := by
  rcases decAt_form t 0 with ⟨U, m, h, hm⟩ | h | h <;> unfold num1 <;> rw [h]
  · refine ⟨unfold U, 0, ?_, by simp, fun _ => rfl⟩
    rw [numAns_good]; unfold numOut; simp
  · exact ⟨0, 3, by rw [numAns_bad 0 3 (by omega)]; rfl, by simp, by simp⟩
  · exact ⟨0, 4, by rw [numAns_bad 0 4 (by omega)]; rfl, by simp, by simp⟩
theorem num2_agg (t : ByteArray) : ∃ n a c : Int, numAns (num1 t).2.2 (num2 t) = .agg #[.int .i64 n, .int .i64 a, .int .i64 c] ∧ (c = 0 ↔ (num2 t).1 = 0) ∧ (c = 0 → n = unfold (num2 t).2.1 ∧ a = (fromX t : Int)) := by
  unfold fromX num2
  rcases decAt_form t (num1 t).2.2 with ⟨U, m, h, hm⟩ | h | h <;> rw [h]
  · refine ⟨unfold U, ((num1 t).2.2 : Int) + m, 0, ?_, by simp, fun _ => ⟨rfl, by show _ = (((num1 t).2.2 + m : Nat) : Int); omega⟩⟩
    rw [numAns_good]; rfl
  · exact ⟨0, 0, 3, by rw [numAns_bad _ 3 (by omega)]; rfl, by simp, by simp⟩
  · exact ⟨0, 0, 4, by rw [numAns_bad _ 4 (by omega)]; rfl, by simp, by simp⟩
end Go.Proofs.YtconcnndghmdfaaGreatDoor
namespace Go.Proofs.YtconcnndghmdfaaGreatDoor
open Go.RowKit
set_option maxRecDepth 100000 in
set_option maxHeartbeats 800000 in
theorem spec_sumA (text : ByteArray) (far : Nat) (w : World) (ht : text.size ≤ 20000) (hf1 : 1 ≤ far) (hf2 : far ≤ 256) :
    Calls Tryz.prog 70 #[.string text, .int .i64 far] w fun e w' => e = .returned (.string ⟨((List.range text.size).map (sumF (bF text) far)).toArray⟩) ∧ Below w.heap.size w w' := by
  have hcv := fun (w : World) => run_bytes_of_string (P := Tryz.prog) w 9 22 5 text Tryz.underlying9 Tryz.underlying22 Tryz.underlying5
  have hcap := grownCap_ge w text.size 0 5
  have hrow0 := hasRow.of_text w.drew w.heap.size 5 (grownCap w text.size 0 5) text hcap (Nat.le_refl _)
  have hbl0 := hide ((Below.refl w.heap.size w).drew.alloc (Nat.le_refl _) (.cells (bytesRow text (grownCap w text.size 0 5)) 5 ((bytesRow text (grownCap w text.size 0 5)).size, (bytesRow text (grownCap w text.size 0 5)).size + 1)))
  have HR0 := hide (rowC.of_text hrow0 (bF_at text text.size rfl))
  obtain ⟨T, hT⟩ : ∃ T, T = bF text := ⟨_, rfl⟩
  rw [← hT] at HR0 ⊢
  clear hrow0 hT
  go_enter Tryz.func70, Tryz.ntmps70
  go_wp2_with fail
  clear hcv hcap
  go_loopw [6] (fun i wx => ∃ (k : Nat) (h : Nat → UInt8), far ≤ k ∧ i = .int .i64 k ∧ Hid (∀ j, j < text.size → h j = if j < k then sumF T far j else T j) ∧ rowC wx w.heap.size text.size h ∧ Below w.heap.size w wx) (fun i _ => text.size - (intOf i).toNat)
  case atStart => exact ⟨far, T, Nat.le_refl _, rfl, fun j _ => by by_cases e : j < far; rw [if_pos e, sumF, dif_neg (by omega)]; rw [if_neg e], HR0.out, hbl0.out⟩
  case round =>
    clear HR0 hbl0
    obtain ⟨k, h, hk, rfl, hh, hr, hbl⟩ := hrel
    by_cases hlt : k < text.size
    · have hlt' : (k : Int) < (text.size : Int) := by omega
      obtain ⟨d, ed⟩ : ∃ d, d = k - far := ⟨_, rfl⟩
      have wd : IntKind.i64.wrap ((k : Int) - (far : Int)) = (d : Int) := by simp only [IntKind.wrap_i64]; omega
      have hd : d < text.size := by omega
      have hd' : (d : Int) < (text.size : Int) := by omega
      have ck := (hr.2 k hlt).1
      have fk := (hr.2 k hlt).2
      have cd := (hr.2 d hd).1
      have ha8 := add8 (h k) (h d)
      have HV := hide (show h k + h d = sumF T far k by rw [hh.out k hlt, if_neg (by omega), hh.out d hd, if_pos (by omega), ed]; exact (by rw [sumF, dif_pos ⟨by omega, by omega⟩] : sumF T far k = T k + sumF T far (k - far)).symm)
      obtain ⟨Y, hY⟩ : ∃ Y, Y = h k + h d := ⟨_, rfl⟩
      rw [← hY] at ha8 HV
      obtain ⟨A, hA⟩ : ∃ A, A = h k := ⟨_, rfl⟩
      obtain ⟨B, hB⟩ : ∃ B, B = h d := ⟨_, rfl⟩
      rw [← hA] at ck ha8
      rw [← hB] at cd ha8
      clear ed hY hA hB
      go_wp2_with fail
      go_region
      clear wd ck fk cd
      go_wp2_with fail
      go_roundw
      case rel =>
        refine ⟨k + 1, fun j => if j = k then Y else h j, by omega, by go_num, fun j hj => ?_, (hr.set hlt rfl).drew, (hbl.setCell (Nat.le_refl _) _).drew⟩
        show (if j = k then Y else h j) = _
        by_cases e : j = k
        · rw [if_pos e, if_pos (by omega), e, HV.out]
        · rw [if_neg e, hh.out j hj]
          by_cases e2 : j < k
          · rw [if_pos e2, if_pos (by omega)]
          · rw [if_neg e2, if_neg (by omega)]
      case measure => simp [intOf]; omega
    · have hlt' : ¬ (k : Int) < (text.size : Int) := by omega
      have hcv := conv_rowC (P := Tryz.prog) (cap := grownCap w text.size 0 5) (l := (List.range text.size).map (sumF T far)) hr (fun j hj => by rw [List.getElem?_map, List.getElem?_range hj, hh.out j hj, if_pos (by omega)]; rfl) (by simp) Tryz.underlying22 Tryz.underlying5 Tryz.underlying9
      go_wp2_with fail
      go_ret
      exact ⟨rfl, hbl⟩
end Go.Proofs.YtconcnndghmdfaaGreatDoor

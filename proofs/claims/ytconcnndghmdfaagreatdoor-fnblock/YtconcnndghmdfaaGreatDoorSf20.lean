/- Put together: KeyO, KeyF, SealF, UnpZ, SealO, OpW, DifU, SealPs, SealOs. -/
import Derived.Test.YtconcnndghmdfaaGreatDoorSf19
import Derived.WalkSmall
import Derived.Stop.Asserts
namespace Go.Proofs.YtconcnndghmdfaaGreatDoor
open Go.RowKit
def keysV (k : ByteArray × ByteArray) : Value := .agg #[.string k.1, .string k.2]
def keysOk (k : ByteArray × ByteArray) : Bool := decide (k.1.size = 16) && decide (k.2.size = 32)
def idOk (id : Int) : Bool := decide (0 ≤ id) && decide (id ≤ 2000000)
theorem keys_cells {n g T : Nat} {W w1 : World} {x0 x1 : Value} (hb : Below n W w1) (hg : g < n) (hW : W.heap[g]? = some (.cells #[x0, x1] T (0, 0))) :
 w1.cell? ⟨g, 0, none⟩ = some x0 ∧ w1.cell? ⟨g, 1, none⟩ = some x1 ∧ (∀ o, w1.frozen? ⟨g, o, none⟩ = false) ∧ w1.heap[g]? = some (.cells #[x0, x1] T (0, 0)) := by
 have h := (hb.block g hg).trans hW
 refine ⟨by simp [World.cell?, h], by simp [World.cell?, h], fun o => by simp [World.frozen?, h], h⟩
theorem keys_set {w1 : World} {g T : Nat} {x0 x1 a b : Value} (h : w1.heap[g]? = some (.cells #[x0, x1] T (0, 0))) :
 ((w1.setCell ⟨g, 0, none⟩ a).setCell ⟨g, 1, none⟩ b).heap[g]? = some (.cells #[a, b] T (0, 0)) := by simp [World.setCell, Array.getElem?_modify, h]
theorem keys_below {w w1 : World} {o : Obj} {a b : Value} (hb : Below (w.heap.size + 1) (w.alloc o) w1) :
 Below w.heap.size w ((w1.setCell ⟨w.heap.size, 0, none⟩ a).setCell ⟨w.heap.size, 1, none⟩ b) :=
 ((((Below.refl _ _).alloc (Nat.le_refl _) o).trans (hb.mono (Nat.le_succ _))).setCell (Nat.le_refl _) _).setCell (Nat.le_refl _) _
theorem run_front {P : Program} (w : World) (t : TypeId) (s : ByteArray) (A : Nat) (h : P.underlying t = some .string) (hS : A ≤ s.size) :
 (Instr.slice t (.string s) none (some (.int .i64 (A : Int))) none).run P w = .ok (.string (s.extract 0 A)) w := by
 rw [run_slice_string_to_if w t s .i64 _ h, if_pos (by omega), Int.toNat_natCast]
theorem run_back {P : Program} (w : World) (t : TypeId) (s : ByteArray) (A : Nat) (h : P.underlying t = some .string) (hS : A ≤ s.size) :
 (Instr.slice t (.string s) (some (.int .i64 (A : Int))) none none).run P w = .ok (.string (s.extract A s.size)) w := by
 rw [run_slice_string_from_if w t s .i64 _ h, if_pos (by omega), Int.toNat_natCast]
def hideW : ByteArray := ⟨#[104, 105, 100, 101]⟩
def markW : ByteArray := ⟨#[109, 97, 114, 107]⟩
def take16 (t : ByteArray) : ByteArray := t.extract 0 16
theorem take16_size (t : ByteArray) (h : 16 ≤ t.size) : (take16 t).size = 16 := by
 unfold take16; rw [ByteArray.size_extract]; omega
def keysT (pass : ByteArray) : ByteArray × ByteArray := (take16 (macT (stretchS pass 3) hideW), macT (stretchS pass 3) markW)
def keysS (pass : ByteArray) : ByteArray × ByteArray := if pass.size ≤ 20000 then keysT pass else (⟨#[]⟩, ⟨#[]⟩)
theorem stretchS_size (pass : ByteArray) (n : Int) : (stretchS pass n).size ≤ 32 := by
 unfold stretchS
 split
 · exact stretchT_size _ _
 · exact Nat.zero_le _
theorem keysT_ok (pass : ByteArray) : keysOk (keysT pass) = true := by
 have h1 : (keysT pass).1.size = 16 := take16_size _ (by rw [macT_size]; decide)
 have h2 : (keysT pass).2.size = 32 := macT_size _ _
 unfold keysOk
 rw [h1, h2]
 rfl
def numB (n : Int) : ByteArray := ⟨(encNum (foldNum n)).toArray⟩
def hidB (key : ByteArray) (n : Nat) (t : ByteArray) : ByteArray := ⟨(ctrL (kB (keyF key)) n (bF t) t.size).toArray⟩
theorem hidB_size (key : ByteArray) (n : Nat) (t : ByteArray) : (hidB key n t).size = t.size := by
 unfold hidB; rw [size_mk]; simp [ctrL]
def difB (t : ByteArray) (far : Int) : ByteArray := if 0 < far then ⟨((List.range t.size).map (difF (bF t) far.toNat)).toArray⟩ else t
theorem difB_size (t : ByteArray) (far : Int) : (difB t far).size = t.size := by
 unfold difB
 split
 · rw [size_mk]; simp
 · rfl
theorem packB_few (t : ByteArray) (h : t.size ≤ 4000) : (packB t).size ≤ 17006 := by
 have h1 := codeToks_len (bF t) t.size h
 have h4 := encNum_le 1 (foldNum t.size) (by unfold foldNum; rw [if_neg (by omega)]; show (2 * (t.size : Int)).toNat < 16384; omega)
 have e1 : (⟨(encNum (foldNum (t.size : Int))).toArray⟩ : ByteArray).size = (encNum (foldNum (t.size : Int))).length := size_mk _
 have e2 : (⟨(codeOf (toksBits (parseL (bF t) t.size))).toArray⟩ : ByteArray).size = (codeOf (toksBits (parseL (bF t) t.size))).length := size_mk _
 have e3 : (packB t).size = _ + _ := ByteArray.size_append
 rw [e3, e1, e2]
 omega
def sealT (k : ByteArray × ByteArray) (id far : Int) (t : ByteArray) : ByteArray := numB id ++ numB far ++ hidB k.1 id.toNat (packB (difB t far))
def sealB (k : ByteArray × ByteArray) (id far : Int) (t : ByteArray) : ByteArray := sealT k id far t ++ take16 (macT k.2 (sealT k id far t))
def sealOk (k : ByteArray × ByteArray) (id far : Int) (t : ByteArray) : Prop := keysOk k = true ∧ idOk id = true ∧ 0 ≤ far ∧ far ≤ 256 ∧ t.size ≤ 4000
instance (k : ByteArray × ByteArray) (id far : Int) (t : ByteArray) : Decidable (sealOk k id far t) := by unfold sealOk; infer_instance
def sealS (k : ByteArray × ByteArray) (id far : Int) (t : ByteArray) : ByteArray := if sealOk k id far t then sealB k id far t else ⟨#[]⟩
theorem numB_size (n : Int) (h0 : 0 ≤ n) (h1 : n ≤ 2000000) : (numB n).size ≤ 4 := by
 have := encNum_le 3 (foldNum n) (by unfold foldNum; rw [if_neg (by omega)]; show (2 * n).toNat < 128 ^ 4; omega)
 unfold numB
 rw [size_mk]
 exact this
theorem sealT_size (k : ByteArray × ByteArray) (id far : Int) (t : ByteArray) (h0 : 0 ≤ id) (h1 : id ≤ 2000000) (h2 : 0 ≤ far) (h3 : far ≤ 256) (ht : t.size ≤ 4000) : (sealT k id far t).size ≤ 17014 := by
 have a := numB_size id h0 h1
 have b := numB_size far h2 (by omega)
 have c := packB_few (difB t far) (by rw [difB_size]; exact ht)
 unfold sealT
 rw [ByteArray.size_append, ByteArray.size_append, hidB_size]
 omega
theorem unpackS_size (s : ByteArray) : (unpackS s).1.size ≤ 4000 := by
 unfold unpackS
 split
 · exact Nat.zero_le _
 · split
   · split
     · exact Nat.zero_le _
     · unfold unpN
       split
       · rename_i h4
         have hz := unpO_size _ _ h4
         split
         · show (unpO _ _).1.size ≤ 4000
           rw [hz]; omega
         · exact Nat.zero_le _
       · exact Nat.zero_le _
   · exact Nat.zero_le _
def sumB (t : ByteArray) (far : Int) : ByteArray := if 0 < far then ⟨((List.range t.size).map (sumF (bF t) far.toNat)).toArray⟩ else t
def bodyX (b : ByteArray) : ByteArray := b.extract 0 (b.size - 16)
def tailX (b : ByteArray) : ByteArray := b.extract (b.size - 16) b.size
def num1 (t : ByteArray) : Nat × Nat × Nat := decAt t 0
def num2 (t : ByteArray) : Nat × Nat × Nat := decAt t (num1 t).2.2
def headOk (t : ByteArray) (id : Int) : Prop := (num1 t).1 = 0 ∧ (num2 t).1 = 0 ∧ unfold (num1 t).2.1 = id ∧ 0 ≤ unfold (num2 t).2.1 ∧ unfold (num2 t).2.1 ≤ 256
instance (t : ByteArray) (id : Int) : Decidable (headOk t id) := by unfold headOk; infer_instance
def farX (t : ByteArray) : Int := unfold (num2 t).2.1
def fromX (t : ByteArray) : Nat := (num1 t).2.2 + (num2 t).2.2
def restX (t : ByteArray) : ByteArray := t.extract (fromX t) t.size
def shownX (k : ByteArray × ByteArray) (id : Int) (t : ByteArray) : ByteArray × Int := unpackS (hidB k.1 id.toNat (restX t))
def openT (k : ByteArray × ByteArray) (id : Int) (b : ByteArray) : ByteArray × Int :=
 if b.size < 18 then (⟨#[]⟩, 4)
 else if ¬ take16 (macT k.2 (bodyX b)) = tailX b then (⟨#[]⟩, 10)
 else if ¬ headOk (bodyX b) id then (⟨#[]⟩, 5)
 else if ¬ (shownX k id (bodyX b)).2 = 0 then (⟨#[]⟩, (shownX k id (bodyX b)).2)
 else (sumB (shownX k id (bodyX b)).1 (farX (bodyX b)), 0)
def openS (k : ByteArray × ByteArray) (id : Int) (b : ByteArray) : ByteArray × Int :=
 if 20000 < b.size then (⟨#[]⟩, 2)
 else if ¬ (keysOk k = true ∧ idOk id = true) then (⟨#[]⟩, 1)
 else openT k id b
theorem bodyX_size (b : ByteArray) : (bodyX b).size = b.size - 16 := by
 unfold bodyX; rw [ByteArray.size_extract]; omega
theorem num1_le (t : ByteArray) : (num1 t).2.2 ≤ t.size := by
 rcases decAt_form t 0 with ⟨U, m, h, hm⟩ | h | h <;> unfold num1 <;> rw [h]
 · simpa using hm
 · exact Nat.zero_le _
 · exact Nat.zero_le _
theorem fromX_le (t : ByteArray) : fromX t ≤ t.size := by
 have h1 := num1_le t
 unfold fromX num2
 rcases decAt_form t (num1 t).2.2 with ⟨U, m, h, hm⟩ | h | h <;> rw [h]
 · show (num1 t).2.2 + m ≤ t.size; omega
 · show (num1 t).2.2 + 0 ≤ t.size; omega
 · show (num1 t).2.2 + 0 ≤ t.size; omega
theorem restX_size (t : ByteArray) : (restX t).size ≤ t.size := by
 unfold restX; rw [ByteArray.size_extract]; omega
end Go.Proofs.YtconcnndghmdfaaGreatDoor
namespace Go.Proofs.YtconcnndghmdfaaGreatDoor
open Go.RowKit Go
structure OpW (w : World) (H M : ByteArray) (w2 : World) : Prop where
 b : Below (w.heap.size + 2) ((w.alloc (.cells #[.string H, .string M] 24)).alloc (.cells #[.string ⟨#[]⟩, .int .i64 0, .int .i64 0] 31)) w2
namespace OpW
variable {w w1 w2 : World} {H M : ByteArray}
theorem one (h : Below ((w.alloc (.cells #[.string H, .string M] 24)).alloc (.cells #[.string ⟨#[]⟩, .int .i64 0, .int .i64 0] 31)).heap.size ((w.alloc (.cells #[.string H, .string M] 24)).alloc (.cells #[.string ⟨#[]⟩, .int .i64 0, .int .i64 0] 31)) w2) : OpW w H M w2 := ⟨by simpa using h⟩
theorem start : OpW w H M ((w.alloc (.cells #[.string H, .string M] 24)).alloc (.cells #[.string ⟨#[]⟩, .int .i64 0, .int .i64 0] 31)) := ⟨Below.refl _ _⟩
theorem size (h : OpW w H M w2) : w.heap.size + 2 ≤ w2.heap.size := by have := h.b.size; simpa using this
theorem call (h : OpW w H M w1) (hb : Below w1.heap.size w1 w2) : OpW w H M w2 := ⟨h.b.trans (hb.mono h.size)⟩
theorem call' (h : OpW w H M w1) (hb : Below w1.drew.heap.size w1.drew w2) : OpW w H M w2 := ⟨h.b.drew.trans (hb.mono h.size)⟩
theorem alloc (h : OpW w H M w1) (o : Obj) : OpW w H M (w1.alloc o) := ⟨h.b.alloc h.size o⟩
theorem drew (h : OpW w H M w1) : OpW w H M w1.drew := ⟨h.b.drew⟩
theorem keys (h : OpW w H M w2) : w2.heap[w.heap.size]? = some (.cells #[.string H, .string M] 24 (0, 0)) := by
 refine (h.b.block w.heap.size (by omega)).trans ?_
 exact (((Below.refl (w.alloc (.cells #[.string H, .string M] 24)).heap.size _).alloc (Nat.le_refl _) _).block w.heap.size (by simp)).trans (heap_alloc_new w _)
theorem row (h : OpW w H M w2) : w2.heap[w.heap.size + 1]? = some (.cells #[.string ⟨#[]⟩, .int .i64 0, .int .i64 0] 31 (0, 0)) := by
 refine (h.b.block (w.heap.size + 1) (by omega)).trans ?_
 have := heap_alloc_new (w.alloc (.cells #[.string H, .string M] 24)) (.cells #[.string ⟨#[]⟩, .int .i64 0, .int .i64 0] 31)
 simpa using this
theorem c0 (h : OpW w H M w2) : w2.cell? ⟨w.heap.size, 0, none⟩ = some (.string H) := by simp [World.cell?, h.keys]
theorem c1 (h : OpW w H M w2) : w2.cell? ⟨w.heap.size, 1, none⟩ = some (.string M) := by simp [World.cell?, h.keys]
theorem r0 (h : OpW w H M w2) : w2.cell? ⟨w.heap.size + 1, 0, none⟩ = some (.string ⟨#[]⟩) := by simp [World.cell?, h.row]
theorem r1 (h : OpW w H M w2) : w2.cell? ⟨w.heap.size + 1, 1, none⟩ = some (.int .i64 0) := by simp [World.cell?, h.row]
theorem r2 (h : OpW w H M w2) : w2.cell? ⟨w.heap.size + 1, 2, none⟩ = some (.int .i64 0) := by simp [World.cell?, h.row]
theorem fz (h : OpW w H M w2) (o : Nat) : w2.frozen? ⟨w.heap.size + 1, o, none⟩ = false := by simp [World.frozen?, h.row]
theorem low (h : OpW w H M w2) : Below w.heap.size w w2 := (((Below.refl _ _).alloc (Nat.le_refl _) _).alloc (by simp) _).trans (h.b.mono (by omega))
theorem code (h : OpW w H M w2) (c : Int) : (w2.setCell ⟨w.heap.size + 1, 2, none⟩ (.int .i64 c)).heap[w.heap.size + 1]? = some (.cells #[.string ⟨#[]⟩, .int .i64 0, .int .i64 c] 31 (0, 0)) := by simp [World.setCell, Array.getElem?_modify, h.row]
theorem text (h : OpW w H M w2) (t : ByteArray) : (w2.setCell ⟨w.heap.size + 1, 0, none⟩ (.string t)).heap[w.heap.size + 1]? = some (.cells #[.string t, .int .i64 0, .int .i64 0] 31 (0, 0)) := by simp [World.setCell, Array.getElem?_modify, h.row]
theorem all (h : OpW w H M w2) (t : ByteArray) (a c : Int) : (((w2.setCell ⟨w.heap.size + 1, 0, none⟩ (.string t)).setCell ⟨w.heap.size + 1, 1, none⟩ (.int .i64 a)).setCell ⟨w.heap.size + 1, 2, none⟩ (.int .i64 c)).heap[w.heap.size + 1]? = some (.cells #[.string t, .int .i64 a, .int .i64 c] 31 (0, 0)) := by simp [World.setCell, Array.getElem?_modify, h.row]
theorem set (h : OpW w H M w2) (o : Nat) (v : Value) : Below w.heap.size w (w2.setCell ⟨w.heap.size + 1, o, none⟩ v) := h.low.setCell (Nat.le_succ _) _
theorem set3 (h : OpW w H M w2) (a b c : Value) : Below w.heap.size w (((w2.setCell ⟨w.heap.size + 1, 0, none⟩ a).setCell ⟨w.heap.size + 1, 1, none⟩ b).setCell ⟨w.heap.size + 1, 2, none⟩ c) := ((h.low.setCell (Nat.le_succ _) _).setCell (Nat.le_succ _) _).setCell (Nat.le_succ _) _
end OpW
structure OpY (w : World) (H M : ByteArray) (y : Nat) (n a c : Int) (w2 : World) : Prop where
 o : OpW w H M w2
 r : w2.heap[y]? = some (.cells #[.int .i64 n, .int .i64 a, .int .i64 c] 91 (0, 0))
namespace OpY
variable {w w1 w2 : World} {H M : ByteArray} {y : Nat} {n a c : Int}
theorem one (h : OpW w H M w1) : OpY w H M w1.heap.size n a c (w1.alloc (.cells #[.int .i64 n, .int .i64 a, .int .i64 c] 91)) := ⟨h.alloc _, heap_alloc_new w1 _⟩
theorem lt (h : OpY w H M y n a c w2) : y < w2.heap.size := (Array.getElem?_eq_some_iff.1 h.r).1
theorem call (h : OpY w H M y n a c w1) (hb : Below w1.heap.size w1 w2) : OpY w H M y n a c w2 := ⟨h.o.call hb, (hb.block y h.lt).trans h.r⟩
theorem call' (h : OpY w H M y n a c w1) (hb : Below w1.drew.heap.size w1.drew w2) : OpY w H M y n a c w2 := ⟨h.o.call' hb, (hb.block y h.lt).trans h.r⟩
theorem drew (h : OpY w H M y n a c w1) : OpY w H M y n a c w1.drew := ⟨h.o.drew, h.r⟩
theorem alloc (h : OpY w H M y n a c w1) (o : Obj) : OpY w H M y n a c (w1.alloc o) := ⟨h.o.alloc o, (((Below.refl w1.heap.size w1).alloc (Nat.le_refl _) o).block y h.lt).trans h.r⟩
theorem y0 (h : OpY w H M y n a c w2) : w2.cell? ⟨y, 0, none⟩ = some (.int .i64 n) := by simp [World.cell?, h.r]
theorem y1 (h : OpY w H M y n a c w2) : w2.cell? ⟨y, 1, none⟩ = some (.int .i64 a) := by simp [World.cell?, h.r]
theorem y2 (h : OpY w H M y n a c w2) : w2.cell? ⟨y, 2, none⟩ = some (.int .i64 c) := by simp [World.cell?, h.r]
end OpY
structure OpZ (w : World) (H M : ByteArray) (y : Nat) (n a c : Int) (z : Nat) (w2 : World) : Prop where
 oy : OpY w H M y n a c w2
 g : w.heap.size + 2 ≤ z
 ne : y ≠ z
 r : w2.heap[z]? = some (.cells #[.string ⟨#[]⟩, .int .i64 0, .int .i64 0] 31 (0, 0))
namespace OpZ
variable {w w1 w2 : World} {H M : ByteArray} {y z : Nat} {n a c : Int}
theorem one (h : OpY w H M y n a c w1) : OpZ w H M y n a c w1.heap.size (w1.alloc (.cells #[.string ⟨#[]⟩, .int .i64 0, .int .i64 0] 31)) := ⟨h.alloc _, h.o.size, Nat.ne_of_lt h.lt, heap_alloc_new w1 _⟩
theorem here (h : OpY w H M y n a c w1) (hz : w1.heap.size = z) : OpZ w H M y n a c z (w1.alloc (.cells #[.string ⟨#[]⟩, .int .i64 0, .int .i64 0] 31)) := by subst hz; exact one h
theorem lt (h : OpZ w H M y n a c z w2) : z < w2.heap.size := (Array.getElem?_eq_some_iff.1 h.r).1
theorem call (h : OpZ w H M y n a c z w1) (hb : Below w1.heap.size w1 w2) : OpZ w H M y n a c z w2 := ⟨h.oy.call hb, h.g, h.ne, (hb.block z h.lt).trans h.r⟩
theorem z0 (h : OpZ w H M y n a c z w2) : w2.cell? ⟨z, 0, none⟩ = some (.string ⟨#[]⟩) := by simp [World.cell?, h.r]
theorem z1 (h : OpZ w H M y n a c z w2) : w2.cell? ⟨z, 1, none⟩ = some (.int .i64 0) := by simp [World.cell?, h.r]
theorem z2 (h : OpZ w H M y n a c z w2) : w2.cell? ⟨z, 2, none⟩ = some (.int .i64 0) := by simp [World.cell?, h.r]
theorem fz (h : OpZ w H M y n a c z w2) (o : Nat) : w2.frozen? ⟨z, o, none⟩ = false := by simp [World.frozen?, h.r]
theorem set (h : OpZ w H M y n a c z w2) (u v x : Value) : OpY w H M y n a c (((w2.setCell ⟨z, 0, none⟩ u).setCell ⟨z, 1, none⟩ v).setCell ⟨z, 2, none⟩ x) :=
 ⟨⟨((h.oy.o.b.setCell (p := ⟨z, 0, none⟩) h.g u).setCell (p := ⟨z, 1, none⟩) h.g v).setCell (p := ⟨z, 2, none⟩) h.g x⟩, by
   have hn : z ≠ y := fun e => h.ne e.symm
   simp [World.setCell, Array.getElem?_modify, hn, h.oy.r]⟩
theorem fin (h : OpZ w H M y n a c z w2) (u v x : Value) : (((w2.setCell ⟨z, 0, none⟩ u).setCell ⟨z, 1, none⟩ v).setCell ⟨z, 2, none⟩ x).heap[z]? = some (.cells #[u, v, x] 31 (0, 0)) := by simp [World.setCell, Array.getElem?_modify, h.r]
end OpZ
theorem num1_agg (t : ByteArray) : ∃ n c : Int, numAns 0 (num1 t) = .agg #[.int .i64 n, .int .i64 ((num1 t).2.2 : Int), .int .i64 c] ∧ (c = 0 ↔ (num1 t).1 = 0) ∧ (c = 0 → n = unfold (num1 t).2.1) := by
 rcases decAt_form t 0 with ⟨U, m, h, hm⟩ | h | h <;> unfold num1 <;> rw [h]
 · refine ⟨unfold U, 0, ?_, by simp, fun _ => rfl⟩
   rw [numAns_good]; unfold numOut; simp
 · exact ⟨0, 3, by rw [numAns_bad 0 3 (by omega)]; rfl, by simp, by simp⟩
 · exact ⟨0, 4, by rw [numAns_bad 0 4 (by omega)]; rfl, by simp, by simp⟩
theorem num2_agg (t : ByteArray) : ∃ n a c : Int, numAns (num1 t).2.2 (num2 t) = .agg #[.int .i64 n, .int .i64 a, .int .i64 c] ∧ (c = 0 ↔ (num2 t).1 = 0) ∧ (c = 0 → n = unfold (num2 t).2.1 ∧ a = (fromX t : Int)) := by
 unfold fromX num2
 rcases decAt_form t (num1 t).2.2 with ⟨U, m, h, hm⟩ | h | h <;> rw [h]
 · refine ⟨unfold U, ((num1 t).2.2 : Int) + m, 0, ?_, by simp, fun _ => ⟨rfl, by show _ = (((num1 t).2.2 + m : Nat) : Int); omega⟩⟩
   rw [numAns_good]; rfl
 · exact ⟨0, 0, 3, by rw [numAns_bad _ 3 (by omega)]; rfl, by simp, by simp⟩
 · exact ⟨0, 0, 4, by rw [numAns_bad _ 4 (by omega)]; rfl, by simp, by simp⟩
end Go.Proofs.YtconcnndghmdfaaGreatDoor
namespace Go.Proofs.YtconcnndghmdfaaGreatDoor
open Go.RowKit
set_option maxRecDepth 100000 in
set_option maxHeartbeats 800000 in
theorem spec_sumA (text : ByteArray) (far : Nat) (w : World) (ht : text.size ≤ 20000) (hf1 : 1 ≤ far) (hf2 : far ≤ 256) :
 Calls Tryz.prog 70 #[.string text, .int .i64 far] w fun e w' => e = .returned (.string ⟨((List.range text.size).map (sumF (bF text) far)).toArray⟩) ∧ Below w.heap.size w w' := by
 have hcv := fun (w : World) => run_bytes_of_string (P := Tryz.prog) w 9 22 5 text Tryz.underlying9 Tryz.underlying22 Tryz.underlying5
 have hcap := grownCap_ge w text.size 0 5
 have hrow0 := hasRow.of_text w.drew w.heap.size 5 (grownCap w text.size 0 5) text hcap (Nat.le_refl _)
 have hbl0 := hide ((Below.refl w.heap.size w).drew.alloc (Nat.le_refl _) (.cells (bytesRow text (grownCap w text.size 0 5)) 5 ((bytesRow text (grownCap w text.size 0 5)).size, (bytesRow text (grownCap w text.size 0 5)).size + 1)))
 have HR0 := hide (rowC.of_text hrow0 (bF_at text text.size rfl))
 obtain ⟨T, hT⟩ : ∃ T, T = bF text := ⟨_, rfl⟩
 rw [← hT] at HR0 ⊢
 clear hrow0 hT
 go_enter Tryz.func70, Tryz.ntmps70
 go_wp2_with fail
 clear hcv hcap
 go_loopw [6] (fun i wx => ∃ (k : Nat) (h : Nat → UInt8), far ≤ k ∧ i = .int .i64 k ∧ Hid (∀ j, j < text.size → h j = if j < k then sumF T far j else T j) ∧ rowC wx w.heap.size text.size h ∧ Below w.heap.size w wx) (fun i _ => text.size - (intOf i).toNat)
 case atStart => exact ⟨far, T, Nat.le_refl _, rfl, fun j _ => by by_cases e : j < far; rw [if_pos e, sumF, dif_neg (by omega)]; rw [if_neg e], HR0.out, hbl0.out⟩
 case round =>
  clear HR0 hbl0
  obtain ⟨k, h, hk, rfl, hh, hr, hbl⟩ := hrel
  by_cases hlt : k < text.size
  · have hlt' : (k : Int) < (text.size : Int) := by omega
    obtain ⟨d, ed⟩ : ∃ d, d = k - far := ⟨_, rfl⟩
    have wd : IntKind.i64.wrap ((k : Int) - (far : Int)) = (d : Int) := by simp only [IntKind.wrap_i64]; omega
    have hd : d < text.size := by omega
    have hd' : (d : Int) < (text.size : Int) := by omega
    have ck := (hr.2 k hlt).1
    have fk := (hr.2 k hlt).2
    have cd := (hr.2 d hd).1
    have ha8 := add8 (h k) (h d)
    have HV := hide (show h k + h d = sumF T far k by rw [hh.out k hlt, if_neg (by omega), hh.out d hd, if_pos (by omega), ed]; exact (by rw [sumF, dif_pos ⟨by omega, by omega⟩] : sumF T far k = T k + sumF T far (k - far)).symm)
    obtain ⟨Y, hY⟩ : ∃ Y, Y = h k + h d := ⟨_, rfl⟩
    rw [← hY] at ha8 HV
    obtain ⟨A, hA⟩ : ∃ A, A = h k := ⟨_, rfl⟩
    obtain ⟨B, hB⟩ : ∃ B, B = h d := ⟨_, rfl⟩
    rw [← hA] at ck ha8
    rw [← hB] at cd ha8
    clear ed hY hA hB
    go_wp2_with fail
    go_region
    clear wd ck fk cd
    go_wp2_with fail
    go_roundw
    case rel =>
     refine ⟨k + 1, fun j => if j = k then Y else h j, by omega, by go_num, fun j hj => ?_, (hr.set hlt rfl).drew, (hbl.setCell (Nat.le_refl _) _).drew⟩
     show (if j = k then Y else h j) = _
     by_cases e : j = k
     · rw [if_pos e, if_pos (by omega), e, HV.out]
     · rw [if_neg e, hh.out j hj]
       by_cases e2 : j < k
       · rw [if_pos e2, if_pos (by omega)]
       · rw [if_neg e2, if_neg (by omega)]
    case measure => simp [intOf]; omega
  · have hlt' : ¬ (k : Int) < (text.size : Int) := by omega
    have hcv := conv_rowC (P := Tryz.prog) (cap := grownCap w text.size 0 5) (l := (List.range text.size).map (sumF T far)) hr (fun j hj => by rw [List.getElem?_map, List.getElem?_range hj, hh.out j hj, if_pos (by omega)]; rfl) (by simp) Tryz.underlying22 Tryz.underlying5 Tryz.underlying9
    go_wp2_with fail
    go_ret
    exact ⟨rfl, hbl⟩
def farOk10 (n : Int) : Bool := decide (0 ≤ n) && decide (n ≤ 256)
def faultP (c : Int) : Value := .iface 84 (.agg #[.int .i64 c])
set_option maxRecDepth 100000 in
theorem imp_idRight (id : Int) (w : World) :
 Calls Tryz.prog 24 #[.int .i64 id] w fun e w' => e = .returned (.bool (idOk id)) ∧ Below w.heap.size w w' := by
 have R := hide (show idOk id = (decide (0 ≤ id) && decide (id ≤ 2000000)) from rfl)
 by_cases h1 : 0 ≤ id
 · have h1' : decide (0 ≤ id) = true := decide_eq_true h1
   by_cases h2 : id ≤ 2000000
   · have h2' : decide (id ≤ 2000000) = true := decide_eq_true h2
     have R2 := hide (show idOk id = true by rw [R.out, h1', h2', Bool.and_self])
     go_enter Tryz.func24, Tryz.ntmps24
     go_wp2_with fail
     go_ret
     exact ⟨by rw [R2.out]; rfl, Below.refl _ _⟩
   · have h2' : decide (id ≤ 2000000) = false := decide_eq_false h2
     have R2 := hide (show idOk id = false by rw [R.out, h1', h2', Bool.true_and])
     go_enter Tryz.func24, Tryz.ntmps24
     go_wp2_with fail
     go_ret
     exact ⟨by rw [R2.out]; rfl, Below.refl _ _⟩
 · have h1' : decide (0 ≤ id) = false := decide_eq_false h1
   have R2 := hide (show idOk id = false by rw [R.out, h1', Bool.false_and])
   go_enter Tryz.func24, Tryz.ntmps24
   go_wp2_with fail
   go_ret
   exact ⟨by rw [R2.out]; rfl, Below.refl _ _⟩
set_option maxRecDepth 100000 in
theorem imp_farRight (id : Int) (w : World) :
 Calls Tryz.prog 25 #[.int .i64 id] w fun e w' => e = .returned (.bool (farOk10 id)) ∧ Below w.heap.size w w' := by
 have R := hide (show farOk10 id = (decide (0 ≤ id) && decide (id ≤ 256)) from rfl)
 by_cases h1 : 0 ≤ id
 · have h1' : decide (0 ≤ id) = true := decide_eq_true h1
   by_cases h2 : id ≤ 256
   · have h2' : decide (id ≤ 256) = true := decide_eq_true h2
     have R2 := hide (show farOk10 id = true by rw [R.out, h1', h2', Bool.and_self])
     go_enter Tryz.func25, Tryz.ntmps25
     go_wp2_with fail
     go_ret
     exact ⟨by rw [R2.out]; rfl, Below.refl _ _⟩
   · have h2' : decide (id ≤ 256) = false := decide_eq_false h2
     have R2 := hide (show farOk10 id = false by rw [R.out, h1', h2', Bool.true_and])
     go_enter Tryz.func25, Tryz.ntmps25
     go_wp2_with fail
     go_ret
     exact ⟨by rw [R2.out]; rfl, Below.refl _ _⟩
 · have h1' : decide (0 ≤ id) = false := decide_eq_false h1
   have R2 := hide (show farOk10 id = false by rw [R.out, h1', Bool.false_and])
   go_enter Tryz.func25, Tryz.ntmps25
   go_wp2_with fail
   go_ret
   exact ⟨by rw [R2.out]; rfl, Below.refl _ _⟩
theorem imp_demand_yes (c : Int) (w : World) : Calls Tryz.prog 62 #[.bool true, .int .i64 c] w fun e w' => e = .returned (.tuple #[]) ∧ w' = w := by
 go_enter Tryz.func62, Tryz.ntmps62
 go_wp2_with fail
 go_end0
 exact ⟨rfl, rfl⟩
theorem imp_demand_no (c : Int) (w : World) : Calls Tryz.prog 62 #[.bool false, .int .i64 c] w fun e w' => e = .panicked [{ v := faultP c, recovered := false }] ∧ w' = w := by
 go_enter Tryz.func62, Tryz.ntmps62
 go_wp2_with fail
 exact ⟨rfl, rfl, rfl⟩
theorem run_fault (v : Value) (x : TypeId) (W : World) : (Instr.typeAssert (.iface 84 v) x 84 false).run Tryz.prog W = .ok v W := by
 simp [Instr.typeAssert, run_underlying Tryz.underlying84]
set_option maxRecDepth 100000 in
theorem imp_faultCode (c : Int) (w : World) : Calls Tryz.prog 36 #[faultP c] w fun e w' => e = .returned (.int .i64 c) ∧ w' = w := by
 have hta := run_fault
 have hfi : ∀ W : World, (Instr.field 84 (.agg #[.int .i64 c]) 0).run Tryz.prog W = .ok (.int .i64 c) W := fun W => by kernel_rfl
 unfold faultP
 go_enter Tryz.func36, Tryz.ntmps36
 go_wp2_with fail
 go_ret
 exact ⟨rfl, rfl⟩
def inFront (s p : ByteArray) : Prop := p.size ≤ s.size ∧ s.extract 0 p.size = p
instance (s p : ByteArray) : Decidable (inFront s p) := by unfold inFront; infer_instance
def cutT (s p : ByteArray) : ByteArray := if inFront s p then s.extract p.size s.size else s
theorem list_beq (a b : ByteArray) : (a.toList == b.toList) = decide (a = b) := by
 by_cases h : a = b
 · subst h; simp
 · rw [decide_eq_false h]
   exact beq_eq_false_iff_ne.2 (fun e => h (by rw [ByteArray.toList_eq, ByteArray.toList_eq] at e; exact ByteArray.ext (Array.toList_inj.1 e)))
set_option maxRecDepth 100000 in
theorem imp_hasPrefix (s p : ByteArray) (w : World) :
 Calls Tryz.prog 144 #[.string s, .string p] w fun e w' => e = .returned (.bool (decide (inFront s p))) ∧ w' = w := by
 by_cases h1 : p.size ≤ s.size
 · have h1' : (p.size : Int) ≤ (s.size : Int) := by omega
   have hsl : ∀ W : World, (Instr.slice 9 (.string s) none (some (.int .i64 (p.size : Int))) none).run Tryz.prog W = .ok (.string (s.extract 0 p.size)) W := fun W => run_front (P := Tryz.prog) W 9 s p.size Tryz.underlying9 h1
   have E := hide (show decide (inFront s p) = decide (s.extract 0 p.size = p) from decide_eq_decide.2 ⟨fun h => h.2, fun h => ⟨h1, h⟩⟩)
   go_enter Tryz.func144, Tryz.ntmps144
   go_wp2_with fail
   go_ret
   exact ⟨by rw [E.out, ← list_beq]; rfl, rfl⟩
 · have h1' : (s.size : Int) < (p.size : Int) := by omega
   have E := hide (show decide (inFront s p) = false from decide_eq_false fun h => h1 h.1)
   go_enter Tryz.func144, Tryz.ntmps144
   go_wp2_with fail
   go_ret
   exact ⟨by rw [E.out]; rfl, rfl⟩
set_option maxRecDepth 100000 in
theorem imp_cutLite (s p : ByteArray) (w : World) :
 Calls Tryz.prog 130 #[.string s, .string p] w fun e w' => e = .returned (.tuple #[.string (cutT s p), .bool (decide (inFront s p))]) ∧ w' = w := by
 have S := fun W => imp_hasPrefix s p W
 by_cases h : inFront s p
 · have E := hide (show cutT s p = s.extract p.size s.size from if_pos h)
   have D := hide (show decide (inFront s p) = true from decide_eq_true h)
   rw [D.out] at S
   have h1 : (p.size : Int) ≤ (s.size : Int) := by have := h.1; omega
   have S := hide S
   clear h
   go_enter Tryz.func130, Tryz.ntmps130
   go_wp2_with fail
   refine (S.out _).mono ?_
   rintro e w1 ⟨rfl, rfl⟩
   clear S
   go_wp2_with fail
   go_ret2
   exact ⟨by rw [E.out, D.out]; first | done | rfl, rfl⟩
 · have E := hide (show cutT s p = s from if_neg h)
   have D := hide (show decide (inFront s p) = false from decide_eq_false h)
   rw [D.out] at S
   have S := hide S
   clear h
   go_enter Tryz.func130, Tryz.ntmps130
   go_wp2_with fail
   refine (S.out _).mono ?_
   rintro e w1 ⟨rfl, rfl⟩
   clear S
   go_wp2_with fail
   go_ret2
   exact ⟨by rw [E.out, D.out]; first | done | rfl, rfl⟩
set_option maxRecDepth 100000 in
theorem imp_cutPre (s p : ByteArray) (w : World) :
 Calls Tryz.prog 98 #[.string s, .string p] w fun e w' => e = .returned (.tuple #[.string (cutT s p), .bool (decide (inFront s p))]) ∧ w' = w := by
 have S := hide (fun W => imp_cutLite s p W)
 go_enter Tryz.func98, Tryz.ntmps98
 go_wp2_with fail
 refine (S.out _).mono ?_
 rintro e w1 ⟨rfl, rfl⟩
 clear S
 go_wp2_with fail
 go_ret2
 exact ⟨rfl, rfl⟩
end Go.Proofs.YtconcnndghmdfaaGreatDoor
namespace Go.Proofs.YtconcnndghmdfaaGreatDoor
open Go.RowKit Go
theorem cell_row3 {W : World} {z T : Nat} {x0 x1 x2 : Value} (h : W.heap[z]? = some (.cells #[x0, x1, x2] T (0, 0))) (o : Nat) (v : Value) (hv : #[x0, x1, x2][o]? = some v) : W.cell? ⟨z, o, none⟩ = some v := by simp [World.cell?, h, hv]
set_option maxRecDepth 100000 in
set_option maxHeartbeats 1600000 in
theorem spec_open_short (H M b : ByteArray) (N : Nat) (w : World) (hs : b.size < 18) :
 Calls Tryz.prog 41 #[.agg #[.string H, .string M], .int .i64 (N : Int), .string b] w fun e w' => e = .returned (textO ⟨#[]⟩ 4) ∧ Below w.heap.size w w' := by
 have h' : (b.size : Int) < 18 := by omega
 have HB : OpW w H M _ := OpW.start (w := w) (H := H) (M := M)
 have r0 := HB.r0
 have r1 := HB.r1
 have r2 := HB.r2
 have fz := HB.fz
 have HB := hide HB
 unfold textO
 go_enter Tryz.func41, Tryz.ntmps41
 go_wp2_with fail
 go_returns
 exact ⟨rfl, by go_grown⟩
set_option maxRecDepth 100000 in
set_option maxHeartbeats 3200000 in
theorem spec_open_key (H M b : ByteArray) (N : Nat) (w : World) (hM : M.size ≤ 20000) (hs : 18 ≤ b.size) (hb : b.size ≤ 20000) (hne : ¬ take16 (macT M (bodyX b)) = tailX b) :
 Calls Tryz.prog 41 #[.agg #[.string H, .string M], .int .i64 (N : Int), .string b] w fun e w' => e = .returned (textO ⟨#[]⟩ 10) ∧ Below w.heap.size w w' := by
 have h' : ¬ (b.size : Int) < 18 := by omega
 obtain ⟨L, hL⟩ : ∃ L, b.size = L + 16 := ⟨b.size - 16, by omega⟩
 have hn : (b.size : Int) - 16 = (L : Int) := by omega
 have hbd : b.extract 0 L = bodyX b := by unfold bodyX; rw [show b.size - 16 = L by omega]
 have htl : b.extract L b.size = tailX b := by unfold tailX; rw [show b.size - 16 = L by omega]
 have hls : (bodyX b).size = L := by rw [bodyX_size]; omega
 have hl2 : ((bodyX b).size : Int) = (L : Int) := by omega
 have hsl1 : ∀ W : World, (Instr.slice 9 (.string b) none (some (.int .i64 (L : Int))) none).run Tryz.prog W = .ok (.string (bodyX b)) W := fun W => by rw [← hbd]; exact run_front (P := Tryz.prog) W 9 b L Tryz.underlying9 (by omega)
 have hsl2 : ∀ W : World, (Instr.slice 9 (.string b) (some (.int .i64 (L : Int))) none none).run Tryz.prog W = .ok (.string (tailX b)) W := fun W => by rw [← htl]; exact run_back (P := Tryz.prog) W 9 b L Tryz.underlying9 (by omega)
 have HX := macT_size M (bodyX b)
 have SM := hide (fun W => spec_mac M (bodyX b) W hM (by omega))
 have hsl3 : ∀ W : World, (Instr.slice 9 (.string (macT M (bodyX b))) none (some (.int .i64 16)) none).run Tryz.prog W = .ok (.string (take16 (macT M (bodyX b)))) W := fun W => run_front (P := Tryz.prog) W 9 (macT M (bodyX b)) 16 Tryz.underlying9 (by rw [HX]; decide)
 have hX' : (16 : Int) ≤ ((macT M (bodyX b)).size : Int) := by rw [HX]; decide
 have HB : OpW w H M _ := OpW.start (w := w) (H := H) (M := M)
 have c1 := HB.c1
 have HB := hide HB
 have hq2 : ((take16 (macT M (bodyX b))).toList == (tailX b).toList) = false := by rw [list_beq, decide_eq_false hne]
 generalize take16 (macT M (bodyX b)) = X at *
 generalize macT M (bodyX b) = XX at *
 generalize bodyX b = BD at *
 generalize tailX b = TL at *
 clear hbd htl HX hls
 unfold textO
 go_enter Tryz.func41, Tryz.ntmps41
 go_wp2_with fail
 go_region_with ((go_at_call 34; refine (SM.out _).mono ?_; rintro e w2 ⟨rfl, hb2⟩; have HB := hide (show OpW w H M w2 by first | exact HB.out.call hb2 | exact HB.out.call' hb2 | exact HB.out.drew.call hb2); clear hb2))
 all_goals (
  have r0 := HB.out.r0
  have r1 := HB.out.r1
  have r2 := HB.out.r2
  have fz := HB.out.fz
  go_wp2_with fail
  exact bodyPost_ret (results_cell_row Tryz.results41 _ _ (w.heap.size + 1) 31 #[.string ⟨#[]⟩, .int .i64 0, .int .i64 10] (0, 0) _ rfl (HB.out.all _ _ _) Tryz.underlying31 rfl (by kernel_rfl)) rfl ⟨rfl, HB.out.set3 _ _ _⟩)
end Go.Proofs.YtconcnndghmdfaaGreatDoor

/- Rows of bytes, told by a function on places. No program is named here. -/
import Derived.WalkKit
import Derived.Below
import Derived.Deep.OwnRows
import Derived.Laws.IdiomStrings
import Derived.Laws.BitsLemmas
import Derived.Test.YtconcnndghmdfaaDoorOwn
namespace Go.Proofs.YtconcnndghmdfaaDoor
open Go Go.RowKit
def u8V (f : Nat → UInt8) (j : Nat) : Value := .int .u8 ((f j).toNat : Int)
theorem r_xor8 (a b : UInt8) : bits .xor .u8 (a.toNat : Int) (b.toNat : Int) = (((a ^^^ b).toNat : Nat) : Int) := by
  have hx : a.toNat ^^^ b.toNat < 2 ^ 8 := Nat.xor_lt_two_pow a.toNat_lt b.toNat_lt
  have ha := a.toNat_lt
  have hb := b.toNat_lt
  show IntKind.u8.wrap ((BitVec.ofInt 8 (a.toNat : Int) ^^^ BitVec.ofInt 8 (b.toNat : Int)).toNat : Int) = _
  rw [BitVec.toNat_xor, BitVec.ofInt_natCast, BitVec.ofInt_natCast, BitVec.toNat_ofNat, BitVec.toNat_ofNat, IntKind.wrap_u8, UInt8.toNat_xor, Nat.mod_eq_of_lt ha, Nat.mod_eq_of_lt hb]
  omega
theorem set_byte {wr : World} {g t n k : Nat} {f : Nat → UInt8} {X : Nat} {Y : UInt8} (h : wr.rowIs g t n (u8V f)) (hX : X = Y.toNat) : (wr.setCell ⟨g, k, none⟩ (.int .u8 (X : Int))).rowIs g t n (u8V fun j => if j = k then Y else f j) := by
  subst hX
  refine (h.set k _).congr ?_
  intro i _
  simp only [u8V]
  split <;> rfl
theorem zeros8_row (n : Nat) (w : World) (c : Array Value) (t : Nat) (hc : c = (List.replicate n (Value.int .u8 0)).toArray) : (w.alloc (.cells c t)).rowIs w.heap.size t n (u8V fun _ => 0) := by
  subst hc
  have h := World.rowIs_alloc w (List.replicate n (Value.int .u8 0)).toArray t (u8V fun _ => 0) (by
    intro i hi
    have : i < n := by simpa using hi
    rw [List.getElem?_toArray, List.getElem?_replicate, if_pos this]; rfl)
  simpa using h
theorem conv_row {P : Program} {w : World} {g e src dst cap T n : Nat} {f : Nat → UInt8} {l : List UInt8} (h : w.rowIs g T n (u8V f)) (hl : ∀ j, j < n → l[j]? = some (f j)) (hn : l.length = n) (hs : P.underlying src = some (.slice e)) (he : P.underlying e = some (.int .u8)) (hd : P.underlying dst = some .string) :
    (convert src dst (.slice (some ⟨g, 0, none⟩) n cap)).run P w = .ok (.string ⟨l.toArray⟩) w := by
  have hr := run_convert_bytes_back (P := P) w src dst e ⟨g, 0, none⟩ cap l hs he hd (fun j hj => by
    have hc := h.cell (i := j) (by omega)
    have ea : (⟨g, 0, none⟩ : Addr).add j = ⟨g, j, none⟩ := by by_cases hz : j = 0 <;> simp [Addr.add, hz]
    have e2 := hl j (by omega)
    rw [List.getElem?_eq_getElem hj] at e2
    rw [ea, hc, Option.some.inj e2]
    rfl)
  rw [hn] at hr
  exact hr
end Go.Proofs.YtconcnndghmdfaaDoor

/- The ring that the program's apart keeps, as mathematics. -/
import Derived.Test.YtcjpboappphooaaSizeI
import Derived.Test.YtcjpboappphooaaArr
import Derived.BigRegion
namespace Go.Proofs.Ytcjpboappphooaa
open Go.RowKit Go
theorem Try.infoA8 : (Try.prog.info? 5).map (fun i => (i.zero, i.size, i.bytes)) = some (some (.int .u8 0), 1, 1) := by kernel_rfl
theorem Try.infoRing : (Try.prog.info? 43).map (fun i => (i.zero, i.size)) = some (some (.agg (bL 256 fun _ => 0).toArray), 256) := by kernel_rfl
theorem bF_get' (b : ByteArray) (j : Nat) (h : j < b.size) : b[j] = bF b j := by
  have e := bF_at b b.size rfl j h
  have h' : j < b.data.toList.length := h
  rw [List.getElem?_eq_getElem h'] at e
  exact Option.some.inj e
/-- What is kept of the byte at j; what it meets. -/
def keptF (M : UInt8 → UInt8 → UInt8) (T : Nat → UInt8) (far : Nat) (j : Nat) : UInt8 := M (T j) (if _h : far ≤ j ∧ 0 < far then keptF M T far (j - far) else 0)
def metF (M : UInt8 → UInt8 → UInt8) (T : Nat → UInt8) (far : Nat) (j : Nat) : UInt8 := if far ≤ j ∧ 0 < far then keptF M T far (j - far) else 0
theorem keptF_eq (M : UInt8 → UInt8 → UInt8) (T : Nat → UInt8) (far j : Nat) : keptF M T far j = M (T j) (metF M T far j) := by
  rw [keptF, metF]; split <;> rfl
/-- The ring behind n bytes. -/
def ringOk (M : UInt8 → UInt8 → UInt8) (T : Nat → UInt8) (far n : Nat) (r : Nat → UInt8) : Prop :=
  (∀ j, j < n → n ≤ j + far → r (j % far) = keptF M T far j) ∧ (∀ p, n ≤ p → p < far → r p = 0)
theorem ring_at {M : UInt8 → UInt8 → UInt8} {T : Nat → UInt8} {far n : Nat} {r : Nat → UInt8} (h : ringOk M T far n r) (hf : 0 < far) : r (n % far) = metF M T far n := by
  unfold metF
  by_cases e : far ≤ n
  · rw [if_pos ⟨e, hf⟩, ← h.1 (n - far) (by omega) (by omega)]
    congr 1
    conv => lhs; rw [show n = n - far + far by omega]
    rw [Nat.add_mod_right]
  · rw [if_neg (fun x => e x.1), Nat.mod_eq_of_lt (by omega)]
    exact h.2 n (Nat.le_refl _) (by omega)
theorem mod_apart {far a b : Nat} (h1 : a < b) (h2 : b < a + far) : a % far ≠ b % far := by
  intro e
  have h3 := Nat.sub_mod_eq_zero_of_mod_eq e.symm
  have h4 := Nat.le_of_dvd (by omega) (Nat.dvd_of_mod_eq_zero h3)
  omega
theorem ring_next {M : UInt8 → UInt8 → UInt8} {T : Nat → UInt8} {far n : Nat} {r : Nat → UInt8} {Y : UInt8} (h : ringOk M T far n r) (hY : Y = keptF M T far n) : ringOk M T far (n + 1) (fun j => if j = n % far then Y else r j) := by
  refine ⟨fun j hj hj2 => ?_, fun p hp hp2 => ?_⟩
  · show (if j % far = n % far then Y else r (j % far)) = _
    by_cases e : j = n
    · subst e; rw [if_pos rfl, hY]
    · rw [if_neg (mod_apart (by omega) (by omega))]
      exact h.1 j (by omega) (by omega)
  · show (if p = n % far then Y else r p) = _
    rw [if_neg (by rw [Nat.mod_eq_of_lt (by omega)]; omega)]
    exact h.2 p (by omega) hp2
end Go.Proofs.Ytcjpboappphooaa

/- An answer without a disk. -/
import Derived.Test.YtipeelkmmjgehabRows
import Derived.Test.YtipeelkmmjgehabLwDisk3
namespace Go.Proofs.Ytipeelkmmjgehab
open Go Go.RowKit
theorem dskV_nil (w : World) (lo hi : Nat) (fS fC : Nat → Value) : dskV w (.agg #[.slice none 0 0, .slice none 0 0]) lo hi 0 fS 0 fC :=
  ⟨_, _, rfl, ⟨none, 0, rfl, Nat.le_refl _, .inl rfl⟩, ⟨none, 0, rfl, Nat.le_refl _, .inl rfl⟩, (fun k hk => by cases hk), (fun k hk => by cases hk), (fun k hk => by cases hk)⟩
theorem dout_nil {f : Nat} {args : Array Value} {u : World} {t : ByteArray} {c : Int} (S : Nat → ByteArray) (A : Nat → Int) (X : Nat → ByteArray) (h : Calls Try.prog f args u fun e w' => e = .returned (doutV (.slice none 0 0) (.slice none 0 0) t c) ∧ Below u.heap.size u w') :
    Calls Try.prog f args u fun e w1 => ∃ so co, e = .returned (.agg #[so, co, .string t, .int .i64 c]) ∧ dskV w1 (.agg #[so, co]) u.heap.size w1.heap.size 0 (sC S) 0 (wF A X) ∧ Below u.heap.size u w1 :=
  h.mono fun _ w1 ⟨h1, h2⟩ => ⟨_, _, h1, dskV_nil w1 _ _ _ _, h2⟩
end Go.Proofs.Ytipeelkmmjgehab

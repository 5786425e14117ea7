/- The law of ExtentWrite holds. -/
import Derived.Test.YtipeelkmmjgehaaLwExWrite
import Derived.Test.YtipeelkmmjgehaaDoutNil
import Derived.Test.YtipeelkmmjgehaaExtW
import Derived.Test.YtipeelkmmjgehaaExtWs
namespace Go.Proofs.Ytipeelkmmjgehaa
open Go Go.RowKit
theorem own_dskV2 {w : World} {sv cv : Value} {lo : Nat} {nS : Nat} {S : Nat → ByteArray} {nC : Nat} {A : Nat → Int} {X : Nat → ByteArray} (h1 : w.ownsRow lo 9 1 sv nS (sL S nS)) (h2 : w.ownsRow lo 74 2 cv nC (wL A X nC)) (h3 : apartV sv cv) : dskV w (.agg #[sv, cv]) lo w.heap.size nS (sC S) nC (wF A X) :=
  ⟨sv, cv, rfl, own_val1 h1, own_val2 h2, fun k hk => h1.lt k hk, fun k hk => h2.lt k hk, fun k hk e => h3 k hk e⟩
def nilP (d : Int) (sv cv : Value) (c : Int) (_ _ : World) : Prop := sv = .slice none 0 0 ∧ cv = .slice none 0 0 ∧ c = d
def goodP (nS : Nat) (S : Nat → ByteArray) (nC : Nat) (A : Nat → Int) (X : Nat → ByteArray) (sv cv : Value) (c : Int) (u w1 : World) : Prop := c = 0 ∧ w1.ownsRow u.heap.size 9 1 sv nS (sL S nS) ∧ w1.ownsRow u.heap.size 74 2 cv nC (wL A X nC) ∧ apartV sv cv
theorem ex_nil {f : Nat} {args : Array Value} {w : World} (d : Int) (S : Nat → ByteArray) (A : Nat → Int) (X : Nat → ByteArray) (h : Calls Try.prog f args w fun e w' => ∃ sv cv c u w1, e = .returned (doutV sv cv ⟨#[]⟩ c) ∧ (nilP d) sv cv c u w1 ∧ w.heap.size + 2 ≤ u.heap.size ∧ (∀ j, j ≠ w.heap.size + 1 → w'.heap[j]? = w1.heap[j]?) ∧ w'.heap.size = w1.heap.size ∧ Below w.heap.size w w') :
    Calls Try.prog f args w fun e w1 => ∃ so co, e = .returned (.agg #[so, co, .string ⟨#[]⟩, .int .i64 d]) ∧ dskV w1 (.agg #[so, co]) w.heap.size w1.heap.size 0 (sC S) 0 (wF A X) ∧ Below w.heap.size w w1 :=
  h.mono fun _ w' ⟨sv, cv, c, u, w1, k1, ⟨k2, k3, k4⟩, _, _, _, k9⟩ => by
    subst k2 k3 k4
    exact ⟨_, _, k1, dskV_nil w' _ _ _ _, k9⟩
theorem ex_good {f : Nat} {args : Array Value} {w : World} (nS : Nat) (S : Nat → ByteArray) (nC : Nat) (A : Nat → Int) (X : Nat → ByteArray) (h : Calls Try.prog f args w fun e w' => ∃ sv cv c u w1, e = .returned (doutV sv cv ⟨#[]⟩ c) ∧ (goodP nS S nC A X) sv cv c u w1 ∧ w.heap.size + 2 ≤ u.heap.size ∧ (∀ j, j ≠ w.heap.size + 1 → w'.heap[j]? = w1.heap[j]?) ∧ w'.heap.size = w1.heap.size ∧ Below w.heap.size w w') :
    Calls Try.prog f args w fun e w1 => ∃ so co, e = .returned (.agg #[so, co, .string ⟨#[]⟩, .int .i64 0]) ∧ dskV w1 (.agg #[so, co]) w.heap.size w1.heap.size nS (sC S) nC (wF A X) ∧ Below w.heap.size w w1 :=
  h.mono fun _ w' ⟨sv, cv, c, u2, w1, k1, ⟨k2, k3, k4, k5⟩, k6, k7, k8, k9⟩ => by
    subst k2
    have m1 := own_base (own_of_block k3 (w' := w') (fun b hb => k7 b (by have := (k3.lt b hb).1; omega))) (show w.heap.size ≤ u2.heap.size by omega)
    have m2 := own_base (own_of_block k4 (w' := w') (fun b hb => k7 b (by have := (k4.lt b hb).1; omega))) (show w.heap.size ≤ u2.heap.size by omega)
    exact ⟨sv, cv, k1, own_dskV2 m1 m2 k5, k9⟩
theorem wr_bad {nS : Nat} {S : Nat → ByteArray} {nC : Nat} {A : Nat → Int} {X : Nat → ByteArray} {a : Int} {t : ByteArray} {u : World} {x : Value} (d : Int) (hd : ∀ c, wrCode nS S nC A X a (manyW t : Int) c → c = d)
    (h : Calls Try.prog 48 #[x, .int .i64 a, .string t] u fun e w' => ∃ c : Int, e = .returned (doutV (.slice none 0 0) (.slice none 0 0) ⟨#[]⟩ c) ∧ wrCode nS S nC A X a (manyW t : Int) c ∧ Below u.heap.size u w') :
    Calls Try.prog 48 #[x, .int .i64 a, .string t] u fun e w' => ∃ sv cv c, e = .returned (doutV sv cv ⟨#[]⟩ c) ∧ (∃ x1 y1 z1 x2 y2 z2, sv = .slice x1 y1 z1 ∧ cv = .slice x2 y2 z2) ∧ nilP d sv cv c u w' ∧ Below u.heap.size u w' :=
  h.mono fun _ _ ⟨c, h1, h2, h3⟩ => ⟨_, _, c, h1, ⟨_, _, _, _, _, _, rfl, rfl⟩, ⟨rfl, rfl, hd c h2⟩, h3⟩
theorem nil_any {f : Nat} {args : Array Value} {u : World} (d : Int) (h : Calls Try.prog f args u fun e w' => e = .returned (doutV (.slice none 0 0) (.slice none 0 0) ⟨#[]⟩ d) ∧ Below u.heap.size u w') :
    Calls Try.prog f args u fun e w' => ∃ sv cv c, e = .returned (doutV sv cv ⟨#[]⟩ c) ∧ (∃ x1 y1 z1 x2 y2 z2, sv = .slice x1 y1 z1 ∧ cv = .slice x2 y2 z2) ∧ nilP d sv cv c u w' ∧ Below u.heap.size u w' :=
  h.mono fun _ _ ⟨h1, h2⟩ => ⟨_, _, d, h1, ⟨_, _, _, _, _, _, rfl, rfl⟩, ⟨rfl, rfl, rfl⟩, h2⟩
theorem good_any {f : Nat} {args : Array Value} {u : World} {nS : Nat} {S : Nat → ByteArray} {nC : Nat} {A : Nat → Int} {X : Nat → ByteArray} (h : Calls Try.prog f args u fun e w' => ∃ sv cv, e = .returned (doutV sv cv ⟨#[]⟩ 0) ∧ w'.ownsRow u.heap.size 9 1 sv nS (sL S nS) ∧ w'.ownsRow u.heap.size 74 2 cv nC (wL A X nC) ∧ apartV sv cv ∧ Below u.heap.size u w') :
    Calls Try.prog f args u fun e w' => ∃ sv cv c, e = .returned (doutV sv cv ⟨#[]⟩ c) ∧ (∃ x1 y1 z1 x2 y2 z2, sv = .slice x1 y1 z1 ∧ cv = .slice x2 y2 z2) ∧ goodP nS S nC A X sv cv c u w' ∧ Below u.heap.size u w' :=
  h.mono fun _ _ ⟨sv, cv, k1, k2, k3, k4, k5⟩ => ⟨sv, cv, 0, k1, by
    obtain ⟨q1, q2, e1⟩ := own_slice k2
    obtain ⟨q3, q4, e2⟩ := own_slice k3
    exact ⟨_, _, _, _, _, _, e1, e2⟩, ⟨rfl, k2, k3, k4⟩, k5⟩
theorem wrCode_is {nS : Nat} {S : Nat → ByteArray} {nC : Nat} {A : Nat → Int} {X : Nat → ByteArray} {a m c d : Int} (h1 : wrCode nS S nC A X a m c) (h2 : wrCode nS S nC A X a m d) : c = d := by
  rcases h1 with ⟨e1, p1⟩ | ⟨e1, p1, q1⟩ | ⟨e1, p1, q1, r1⟩ | ⟨e1, p1, q1, r1⟩ <;> rcases h2 with ⟨e2, p2⟩ | ⟨e2, p2, q2⟩ | ⟨e2, p2, q2, r2⟩ | ⟨e2, p2, q2, r2⟩ <;> first | (rw [e1, e2]; done) | (exfalso; exact p1 p2) | (exfalso; exact p2 p1) | (exfalso; exact q1 q2) | (exfalso; exact q2 q1) | (exfalso; omega)
theorem fnExactExtentWrite_walk (v : Value) (nS : Nat) (S : Nat → ByteArray) (nC : Nat) (A : Nat → Int) (X : Nat → ByteArray) (a : Int) (_wa : (Lit.int .i64 a).wf = true) (t : ByteArray) (wt : t.size ≤ maxLen) (w : World) (hI : dskI w w.heap.size v nS S nC A X) (hS : nS ≤ maxLen) (hC : nC ≤ maxLen) (hSz : ∀ j, j < nS → (S j).size ≤ maxLen) (hXz : ∀ j, j < nC → (X j).size ≤ maxLen) :
    Calls Try.prog 6 #[v, .int .i64 a, .string t] w fun e w' => e = .returned (.bool true) ∧ Below w.heap.size w w' := by
  unfold maxLen at hS hC
  have hSz' : ∀ j, j < nS → (S j).size ≤ 9223372036854775807 := fun j hj => Nat.le_trans (hSz j hj) (by unfold maxLen; omega)
  have hXz' : ∀ j, j < nC → (X j).size ≤ 9223372036854775807 := fun j hj => Nat.le_trans (hXz j hj) (by unfold maxLen; omega)
  unfold maxLen at wt
  by_cases h0 : 1048576 < t.size
  · obtain ⟨sv, cv, rfl, h1, h2⟩ := hI
    have d0 : decide ((1048576 : Int) < (t.size : Int)) = true := decide_eq_true (by omega)
    have hb := hide ((Below.refl w.heap.size w).alloc (Nat.le_refl _) (.cells #[sv, cv] 45))
    go_enter Try.func6, Try.ntmps6
    go_wp2_with fail
    go_ret
    exact ⟨rfl, hb.out⟩
  have ht : t.size ≤ 1048576 := by omega
  by_cases h2 : 20000 < t.size
  · exact fnExactExtentWrite_core v nS S nC A X a t ht ⟨#[]⟩ 2 0 S 0 A X w (by omega) (by omega) (by omega) (by omega) hSz' hXz'
      (fun _ _ _ _ u x h => dout_nil S A X (spec_extentWrite_long x nS S nC A X a t u h2 (by omega) h))
      (fun _ _ _ _ u x h => ex_nil 2 S A X (imp_extentWrite_ok x nS S nC A X a t u (by omega) h (nilP 2) (fun u2 x2 h2_ => nil_any 2 (imp_diskWrite_long x2 nS S nC A X a t u2 h2 (by omega) h2_)))) hI
  have h2' : t.size ≤ 20000 := by omega
  by_cases hok : dskOk nS S nC A X
  · have hn6 := hok.1
    have hn4 := hok.2.1
    by_cases ht0 : t.size = 0
    · exact fnExactExtentWrite_core v nS S nC A X a t ht ⟨#[]⟩ 8 0 S 0 A X w (by omega) (by omega) (by omega) (by omega) hSz' hXz'
        (fun _ _ _ _ u x h => dout_nil S A X (spec_extentWrite_empty x nS S nC A X a t u ht0 hok h))
        (fun _ _ _ _ u x h => dout_nil S A X (imp_extentWrite_empty x nS S nC A X a t u ht0 hok h)) hI
    by_cases hr : 0 ≤ a ∧ a ≤ (nS : Int) - (manyW t : Int)
    · by_cases hf : (nC : Int) + (manyW t : Int) ≤ 400
      · exact fnExactExtentWrite_core v nS S nC A X a t ht ⟨#[]⟩ 0 nS S (nC + manyW t) (wrA A nC a) (wrX X nC t) w (by omega) (by omega) (by omega) (by omega) hSz' hXz'
          (fun _ _ _ _ u x h => ex_good nS S (nC + manyW t) (wrA A nC a) (wrX X nC t) (spec_extentWrite_ok x nS S nC A X a t u h2' ht0 hok h _ (fun u2 x2 h2_ => good_any (spec_write_good x2 nS S nC A X a t u2 hok h2' hr.1 hr.2 (by omega) h2_))))
          (fun _ _ _ _ u x h => ex_good nS S (nC + manyW t) (wrA A nC a) (wrX X nC t) (imp_extentWrite_ok x nS S nC A X a t u ht0 h _ (fun u2 x2 h2_ => good_any (imp_diskWrite_good x2 nS S nC A X a t u2 hok h2' hr.1 hr.2 (by omega) h2_)))) hI
      · exact fnExactExtentWrite_core v nS S nC A X a t ht ⟨#[]⟩ 9 0 S 0 A X w (by omega) (by omega) (by omega) (by omega) hSz' hXz'
          (fun _ _ _ _ u x h => ex_nil 9 S A X (spec_extentWrite_ok x nS S nC A X a t u h2' ht0 hok h _ (fun u2 x2 h2_ => nil_any 9 (spec_write_full x2 nS S nC A X a t u2 hok h2' hr.1 ⟨hr.2, by omega⟩ h2_))))
          (fun b c _ _ u x h => ex_nil 9 S A X (imp_extentWrite_ok x nS S nC A X a t u ht0 h _ (fun u2 x2 h2_ => wr_bad 9 (fun c hc => wrCode_is hc (.inr (.inr (.inl ⟨rfl, hok, hr, by omega⟩)))) (imp_diskWrite_bad x2 nS S nC A X a t u2 h2' b c (fun k => hf k.2.2) h2_)))) hI
    · exact fnExactExtentWrite_core v nS S nC A X a t ht ⟨#[]⟩ 8 0 S 0 A X w (by omega) (by omega) (by omega) (by omega) hSz' hXz'
        (fun _ _ _ _ u x h => ex_nil 8 S A X (spec_extentWrite_ok x nS S nC A X a t u h2' ht0 hok h _ (fun u2 x2 h2_ => nil_any 8 (spec_write_range x2 nS S nC A X a t u2 hok h2' (by omega) h2_))))
        (fun b c _ _ u x h => ex_nil 8 S A X (imp_extentWrite_ok x nS S nC A X a t u ht0 h _ (fun u2 x2 h2_ => wr_bad 8 (fun c hc => wrCode_is hc (.inr (.inl ⟨rfl, hok, hr⟩))) (imp_diskWrite_bad x2 nS S nC A X a t u2 h2' b c (fun k => hr k.2.1) h2_)))) hI
  · by_cases ht0 : t.size = 0
    · exact fnExactExtentWrite_core v nS S nC A X a t ht ⟨#[]⟩ 1 0 S 0 A X w (by omega) (by omega) (by omega) (by omega) hSz' hXz'
        (fun b c _ _ u x h => dout_nil S A X (spec_extentWrite_form x nS S nC A X a t u h2' b c hok h))
        (fun b c _ _ u x h => ex_nil 1 S A X (imp_extentWrite_form x nS S nC A X a t u ht0 b c hok h _ (fun u2 x2 h2_ => wr_bad 1 (fun c hc => wrCode_is hc (.inl ⟨rfl, hok⟩)) (imp_diskWrite_bad x2 nS S nC A X a t u2 h2' b c (fun k => hok k.1) h2_)))) hI
    · exact fnExactExtentWrite_core v nS S nC A X a t ht ⟨#[]⟩ 1 0 S 0 A X w (by omega) (by omega) (by omega) (by omega) hSz' hXz'
        (fun b c _ _ u x h => dout_nil S A X (spec_extentWrite_form x nS S nC A X a t u h2' b c hok h))
        (fun b c _ _ u x h => ex_nil 1 S A X (imp_extentWrite_ok x nS S nC A X a t u ht0 h _ (fun u2 x2 h2_ => wr_bad 1 (fun c hc => wrCode_is hc (.inl ⟨rfl, hok⟩)) (imp_diskWrite_bad x2 nS S nC A X a t u2 h2' b c (fun k => hok k.1) h2_)))) hI
end Go.Proofs.Ytipeelkmmjgehaa

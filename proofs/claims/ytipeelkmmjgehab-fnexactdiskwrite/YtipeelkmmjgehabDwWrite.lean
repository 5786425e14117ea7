/- The law of DiskWrite holds. -/
import Derived.Test.YtipeelkmmjgehabLwDWrite
import Derived.Test.YtipeelkmmjgehabDoutNil
import Derived.Test.YtipeelkmmjgehabDkW
import Derived.Test.YtipeelkmmjgehabDskX
namespace Go.Proofs.Ytipeelkmmjgehab
open Go Go.RowKit
theorem wr_nil {nS : Nat} {S : Nat → ByteArray} {nC : Nat} {A : Nat → Int} {X : Nat → ByteArray} {a : Int} {t : ByteArray} {w : World} {v : Value} (d : Int) (hd : ∀ c, wrCode nS S nC A X a (manyW t : Int) c → c = d) (S2 : Nat → ByteArray) (A2 : Nat → Int) (X2 : Nat → ByteArray)
    (h : Calls Try.prog 10 #[v, .int .i64 a, .string t] w fun e w' => ∃ c : Int, e = .returned (doutV (.slice none 0 0) (.slice none 0 0) ⟨#[]⟩ c) ∧ wrCode nS S nC A X a (manyW t : Int) c ∧ Below w.heap.size w w') :
    Calls Try.prog 10 #[v, .int .i64 a, .string t] w fun e w1 => ∃ so co, e = .returned (.agg #[so, co, .string ⟨#[]⟩, .int .i64 d]) ∧ dskV w1 (.agg #[so, co]) w.heap.size w1.heap.size 0 (sC S2) 0 (wF A2 X2) ∧ Below w.heap.size w w1 :=
  h.mono fun _ w1 ⟨c, h1, h2, h3⟩ => by
    obtain rfl := hd c h2
    exact ⟨_, _, h1, dskV_nil w1 _ _ _ _, h3⟩
theorem own_dskV {w : World} {sv cv : Value} {lo : Nat} {nS : Nat} {S : Nat → ByteArray} {nC : Nat} {A : Nat → Int} {X : Nat → ByteArray} (h1 : w.ownsRow lo 9 1 sv nS (sL S nS)) (h2 : w.ownsRow lo 70 2 cv nC (wL A X nC)) (h3 : apartV sv cv) : dskV w (.agg #[sv, cv]) lo w.heap.size nS (sC S) nC (wF A X) :=
  ⟨sv, cv, rfl, own_val1 h1, own_val2 h2, fun k hk => h1.lt k hk, fun k hk => h2.lt k hk, fun k hk e => h3 k hk e⟩
theorem fnExactDiskWrite_walk (v : Value) (nS : Nat) (S : Nat → ByteArray) (nC : Nat) (A : Nat → Int) (X : Nat → ByteArray) (a : Int) (_wa : (Lit.int .i64 a).wf = true) (t : ByteArray) (wt : t.size ≤ maxLen) (w : World) (hI : dskI w w.heap.size v nS S nC A X) (hS : nS ≤ maxLen) (hC : nC ≤ maxLen) (hSz : ∀ j, j < nS → (S j).size ≤ maxLen) (hXz : ∀ j, j < nC → (X j).size ≤ maxLen) :
    Calls Try.prog 5 #[v, .int .i64 a, .string t] w fun e w' => e = .returned (.bool true) ∧ Below w.heap.size w w' := by
  unfold maxLen at hS hC
  have hSz' : ∀ j, j < nS → (S j).size ≤ 9223372036854775807 := fun j hj => Nat.le_trans (hSz j hj) (by unfold maxLen; omega)
  have hXz' : ∀ j, j < nC → (X j).size ≤ 9223372036854775807 := fun j hj => Nat.le_trans (hXz j hj) (by unfold maxLen; omega)
  unfold maxLen at wt
  by_cases h0 : 1048576 < t.size
  · obtain ⟨sv, cv, rfl, h1, h2⟩ := hI
    have d0 : decide ((1048576 : Int) < (t.size : Int)) = true := decide_eq_true (by omega)
    have hb := hide ((Below.refl w.heap.size w).alloc (Nat.le_refl _) (.cells #[sv, cv] 41))
    go_enter Try.func5, Try.ntmps5
    go_wp2_with fail
    go_ret
    exact ⟨rfl, hb.out⟩
  have ht : t.size ≤ 1048576 := by omega
  by_cases h2 : 20000 < t.size
  · exact fnExactDiskWrite_core v nS S nC A X a t ht ⟨#[]⟩ 2 0 S 0 A X w (by omega) (by omega) (by omega) (by omega) hSz' hXz'
      (fun _ _ _ _ u x h => dout_nil S A X (spec_diskWrite_long x nS S nC A X a t u h2 (by omega) h)) (fun _ _ _ _ u x h => dout_nil S A X (imp_diskWrite_long x nS S nC A X a t u h2 (by omega) h)) hI
  have h2' : t.size ≤ 20000 := by omega
  by_cases hok : dskOk nS S nC A X
  · have hn6 := hok.1
    have hn4 := hok.2.1
    by_cases hr : 0 ≤ a ∧ a ≤ (nS : Int) - (manyW t : Int)
    · by_cases hf : (nC : Int) + (manyW t : Int) ≤ 400
      · exact fnExactDiskWrite_core v nS S nC A X a t ht ⟨#[]⟩ 0 nS S (nC + manyW t) (wrA A nC a) (wrX X nC t) w (by omega) (by omega) (by omega) (by omega) hSz' hXz'
          (fun _ _ _ _ u x h => (spec_diskWrite_ok x nS S nC A X a t u h2' hok h (fun sv cv c u w1 => c = 0 ∧ w1.ownsRow u.heap.size 9 1 sv nS (sL S nS) ∧ w1.ownsRow u.heap.size 70 2 cv (nC + manyW t) (wL (wrA A nC a) (wrX X nC t) (nC + manyW t)) ∧ apartV sv cv)
            (fun u2 x2 h2_ => (spec_write_good x2 nS S nC A X a t u2 hok h2' hr.1 hr.2 (by omega) h2_).mono fun _ _ ⟨sv, cv, k1, k2, k3, k4, k5⟩ => ⟨sv, cv, 0, k1, by
              obtain ⟨q1, q2, e1⟩ := own_slice k2
              obtain ⟨q3, q4, e2⟩ := own_slice k3
              exact ⟨_, _, _, _, _, _, e1, e2⟩, ⟨rfl, k2, k3, k4⟩, k5⟩)).mono fun _ w' ⟨sv, cv, c, u2, w1, k1, ⟨k2, k3, k4, k5⟩, k6, k7, k8, k9⟩ => by
              subst k2
              have m1 := own_base (own_of_block k3 (w' := w') (fun b hb => k7 b (by have := (k3.lt b hb).1; omega))) (show u.heap.size ≤ u2.heap.size by omega)
              have m2 := own_base (own_of_block k4 (w' := w') (fun b hb => k7 b (by have := (k4.lt b hb).1; omega))) (show u.heap.size ≤ u2.heap.size by omega)
              exact ⟨sv, cv, k1, own_dskV m1 m2 k5, k9⟩)
          (fun _ _ _ _ u x h => (imp_diskWrite_good x nS S nC A X a t u hok h2' hr.1 hr.2 (by omega) h).mono fun _ _ ⟨sv, cv, k1, k2, k3, k4, k5⟩ => ⟨sv, cv, k1, own_dskV k2 k3 k4, k5⟩) hI
      · exact fnExactDiskWrite_core v nS S nC A X a t ht ⟨#[]⟩ 9 0 S 0 A X w (by omega) (by omega) (by omega) (by omega) hSz' hXz'
          (fun _ _ _ _ u x h => (spec_diskWrite_ok x nS S nC A X a t u h2' hok h (fun sv cv c _ _ => sv = .slice none 0 0 ∧ cv = .slice none 0 0 ∧ c = 9)
            (fun u2 x2 h2_ => (spec_write_full x2 nS S nC A X a t u2 hok h2' hr.1 ⟨hr.2, by omega⟩ h2_).mono fun _ _ ⟨k1, k2⟩ => ⟨_, _, 9, k1, ⟨_, _, _, _, _, _, rfl, rfl⟩, ⟨rfl, rfl, rfl⟩, k2⟩)).mono fun _ w' ⟨sv, cv, c, u2, w1, k1, ⟨k2, k3, k4⟩, _, _, _, k9⟩ => by
              subst k2 k3 k4
              exact ⟨_, _, k1, dskV_nil w' _ _ _ _, k9⟩)
          (fun b c _ _ u x h => wr_nil 9 (fun c hc => by
            rcases hc with ⟨_, k⟩ | ⟨_, _, k⟩ | ⟨k, _⟩ | ⟨_, _, _, k⟩
            · exact absurd hok k
            · exact absurd hr k
            · exact k
            · exact absurd k hf) S A X (imp_diskWrite_bad x nS S nC A X a t u h2' b c (fun k => hf k.2.2) h)) hI
    · exact fnExactDiskWrite_core v nS S nC A X a t ht ⟨#[]⟩ 8 0 S 0 A X w (by omega) (by omega) (by omega) (by omega) hSz' hXz'
        (fun _ _ _ _ u x h => (spec_diskWrite_ok x nS S nC A X a t u h2' hok h (fun sv cv c _ _ => sv = .slice none 0 0 ∧ cv = .slice none 0 0 ∧ c = 8)
          (fun u2 x2 h2_ => (spec_write_range x2 nS S nC A X a t u2 hok h2' (by omega) h2_).mono fun _ _ ⟨k1, k2⟩ => ⟨_, _, 8, k1, ⟨_, _, _, _, _, _, rfl, rfl⟩, ⟨rfl, rfl, rfl⟩, k2⟩)).mono fun _ w' ⟨sv, cv, c, u2, w1, k1, ⟨k2, k3, k4⟩, _, _, _, k9⟩ => by
            subst k2 k3 k4
            exact ⟨_, _, k1, dskV_nil w' _ _ _ _, k9⟩)
        (fun b c _ _ u x h => wr_nil 8 (fun c hc => by
          rcases hc with ⟨_, k⟩ | ⟨k, _⟩ | ⟨_, _, k, _⟩ | ⟨_, _, k, _⟩
          · exact absurd hok k
          · exact k
          · exact absurd k hr
          · exact absurd k hr) S A X (imp_diskWrite_bad x nS S nC A X a t u h2' b c (fun k => hr k.2.1) h)) hI
  · exact fnExactDiskWrite_core v nS S nC A X a t ht ⟨#[]⟩ 1 0 S 0 A X w (by omega) (by omega) (by omega) (by omega) hSz' hXz'
      (fun b c _ _ u x h => dout_nil S A X (spec_diskWrite_form x nS S nC A X a t u h2' b c hok h))
      (fun b c _ _ u x h => wr_nil 1 (fun c hc => by
        rcases hc with ⟨k, _⟩ | ⟨_, k, _⟩ | ⟨_, k, _⟩ | ⟨_, k, _⟩
        · exact k
        · exact absurd k hok
        · exact absurd k hok
        · exact absurd k hok) S A X (imp_diskWrite_bad x nS S nC A X a t u h2' b c (fun k => hok k.1) h)) hI
end Go.Proofs.Ytipeelkmmjgehab

/- FeC, SrcE, DrawDs, DrawEx, FeW, FnExtentL, one behind the other. -/
import Derived.Test.YtipeelkmmjgehaaZ2
import Derived.Test.YtipeelkmmjgehaaSrcB
import Derived.Test.YtipeelkmmjgehaaDrawDk
import Derived.Test.YtipeelkmmjgehaaSrcS
import Derived.BigRegion
import Derived.Deep.CutRange
import Derived.Deep.DeepCutAuto
/- The contracts of ExtentPatch, ExtentWrite, ExtentRead in one form each, as the law of extents calls them. -/
namespace Go.Proofs.Ytipeelkmmjgehaa
open Go Go.RowKit
theorem own_dskI {w : World} {sv cv : Value} {lo : Nat} {nS : Nat} {S : Nat → ByteArray} {nC : Nat} {A : Nat → Int} {X : Nat → ByteArray} (h1 : w.ownsRow lo 9 1 sv nS (sL S nS)) (h2 : w.ownsRow lo 74 2 cv nC (wL A X nC)) : dskI w w.heap.size (.agg #[sv, cv]) nS S nC A X :=
  ⟨_, _, rfl, (own_val1 h1).strI, (own_val2 h2).sli.congr (fun j _ i hi => by show cWr _ _ ((2 * j + i) / 2) ((2 * j + i) % 2) = _; rw [show (2 * j + i) / 2 = j by omega, show (2 * j + i) % 2 = i by omega])⟩
theorem ptCode_one {nS : Nat} {S : Nat → ByteArray} {nC : Nat} {A : Nat → Int} {X : Nat → ByteArray} {a : Int} {n : Nat} {c d : Int} (h1 : ptCode nS S nC A X a n c) (h2 : ptCode nS S nC A X a n d) : c = d := by
  rcases h1 with ⟨e1, p1⟩ | ⟨e1, p1, q1⟩ | ⟨e1, p1, q1, r1⟩ | ⟨e1, p1, q1, r1⟩ <;> rcases h2 with ⟨e2, p2⟩ | ⟨e2, p2, q2⟩ | ⟨e2, p2, q2, r2⟩ | ⟨e2, p2, q2, r2⟩ <;> first | (rw [e1, e2]; done) | (exfalso; exact p1 p2) | (exfalso; exact p2 p1) | (exfalso; exact q1 q2) | (exfalso; exact q2 q1) | (exfalso; omega)
/-- What of a patched disk the law goes on with. -/
def ptAns (w' : World) (y1 y2 : Nat) (x1 : Option Addr) (z1 : Nat) (x2 : Option Addr) (z2 : Nat) (nS : Nat) (S : Nat → ByteArray) (nC : Nat) (A : Nat → Int) (X : Nat → ByteArray) (a : Int) (t : ByteArray) (c : Int) : Prop :=
  c = 0 → y1 = nS ∧ dskI w' w'.heap.size (.agg #[.slice x1 y1 z1, .slice x2 y2 z2]) nS S (nC + touchN a.toNat t.size) (wrA A nC ((a.toNat / 64 : Nat) : Int)) (patX X nC (flS S A X (fun _ => true) nC) a.toNat t)
theorem imp_extentPatch_all (v : Value) (nS : Nat) (S : Nat → ByteArray) (nC : Nat) (A : Nat → Int) (X : Nat → ByteArray) (a : Int) (t : ByteArray) (w : World) (hts : t.size ≤ 20000) (hS : nS ≤ 1048576) (hC : nC ≤ 1048576) (h : dskI w w.heap.size v nS S nC A X) :
    Calls Try.prog 10 #[v, .int .i64 a, .string t] w fun e w' => ∃ x1 y1 z1 x2 y2 z2 c, e = .returned (.agg #[.slice x1 y1 z1, .slice x2 y2 z2, .string ⟨#[]⟩, .int .i64 c]) ∧ ptCode nS S nC A X a t.size c ∧ ptAns w' y1 y2 x1 z1 x2 z2 nS S nC A X a t c ∧ Below w.heap.size w w' :=
  (imp_extentPatch v nS S nC A X a t w hts hS hC h).mono fun _ w' ⟨sv, cv, c, k1, k2, k3, k4⟩ => by
    rcases k3 with ⟨g1, rfl, rfl⟩ | ⟨rfl, g1, g2, g3⟩
    · exact ⟨_, _, _, _, _, _, c, k1, k2, fun h0 => absurd h0 g1, k4⟩
    · obtain ⟨q1, q2, e1⟩ := own_slice g1
      obtain ⟨q3, q4, e2⟩ := own_slice g2
      subst e1 e2
      exact ⟨_, _, _, _, _, _, 0, k1, k2, fun _ => ⟨rfl, own_dskI g1 g2⟩, k4⟩
theorem spec_extentPatch_all (v : Value) (nS : Nat) (S : Nat → ByteArray) (nC : Nat) (A : Nat → Int) (X : Nat → ByteArray) (a : Int) (t : ByteArray) (w : World) (hts : t.size ≤ 20000) (hS : nS ≤ 1048576) (hC : nC ≤ 1048576) (h : dskI w w.heap.size v nS S nC A X) :
    Calls Try.prog 11 #[v, .int .i64 a, .string t] w fun e w' => ∃ sv cv c, e = .returned (.agg #[sv, cv, .string ⟨#[]⟩, .int .i64 c]) ∧ ptCode nS S nC A X a t.size c ∧ Below w.heap.size w w' :=
  (spec_extentPatch v nS S nC A X a t w hts hS hC h).mono fun _ _ ⟨sv, cv, c, k1, k2, _, k4⟩ => ⟨sv, cv, c, k1, k2, k4⟩
/-- The code of ExtentWrite. -/
def exCode (nS : Nat) (S : Nat → ByteArray) (nC : Nat) (A : Nat → Int) (X : Nat → ByteArray) (a : Int) (t : ByteArray) (c : Int) : Prop :=
  ((t.size = 0 ∧ dskOk nS S nC A X) ∧ c = 8) ∨ (¬ (t.size = 0 ∧ dskOk nS S nC A X) ∧ wrCode nS S nC A X a (manyW t : Int) c)
theorem exCode_one {nS : Nat} {S : Nat → ByteArray} {nC : Nat} {A : Nat → Int} {X : Nat → ByteArray} {a : Int} {t : ByteArray} {c d : Int} (h : exCode nS S nC A X a t c) (k : exCode nS S nC A X a t d) : c = d := by
  rcases h with ⟨h1, rfl⟩ | ⟨h1, h2⟩ <;> rcases k with ⟨k1, rfl⟩ | ⟨k1, k2⟩
  · rfl
  · exact absurd h1 k1
  · exact absurd k1 h1
  · exact wrCode_one h2 k2
def wrAns (w' : World) (y1 y2 : Nat) (x1 : Option Addr) (z1 : Nat) (x2 : Option Addr) (z2 : Nat) (nS : Nat) (S : Nat → ByteArray) (nC : Nat) (A : Nat → Int) (X : Nat → ByteArray) (a : Int) (t : ByteArray) (c : Int) : Prop :=
  c = 0 → y1 = nS ∧ dskI w' w'.heap.size (.agg #[.slice x1 y1 z1, .slice x2 y2 z2]) nS S (nC + manyW t) (wrA A nC a) (wrX X nC t)
/-- What DiskWrite hands on to ExtentWrite. -/
def wrP (nS : Nat) (S : Nat → ByteArray) (nC : Nat) (A : Nat → Int) (X : Nat → ByteArray) (a : Int) (t : ByteArray) (sv cv : Value) (c : Int) (u w1 : World) : Prop :=
  wrCode nS S nC A X a (manyW t : Int) c ∧ (sv = .slice none 0 0 ∧ cv = .slice none 0 0 ∧ c ≠ 0 ∨ c = 0 ∧ w1.ownsRow u.heap.size 9 1 sv nS (sL S nS) ∧ w1.ownsRow u.heap.size 74 2 cv (nC + manyW t) (wL (wrA A nC a) (wrX X nC t) (nC + manyW t)))
theorem imp_diskWrite_P (v : Value) (nS : Nat) (S : Nat → ByteArray) (nC : Nat) (A : Nat → Int) (X : Nat → ByteArray) (a : Int) (t : ByteArray) (w : World) (hts : t.size ≤ 20000) (hS : nS ≤ 1048576) (hC : nC ≤ 1048576) (h : dskI w w.heap.size v nS S nC A X) :
    Calls Try.prog 48 #[v, .int .i64 a, .string t] w fun e w' => ∃ sv cv c, e = .returned (doutV sv cv ⟨#[]⟩ c) ∧ (∃ x1 y1 z1 x2 y2 z2, sv = .slice x1 y1 z1 ∧ cv = .slice x2 y2 z2) ∧ wrP nS S nC A X a t sv cv c w w' ∧ Below w.heap.size w w' := by
  by_cases hg : dskOk nS S nC A X ∧ (0 ≤ a ∧ a ≤ (nS : Int) - (manyW t : Int)) ∧ (nC : Int) + (manyW t : Int) ≤ 400
  · exact (imp_diskWrite_good v nS S nC A X a t w hg.1 hts hg.2.1.1 hg.2.1.2 (by have := hg.2.2; omega) h).mono fun _ w' ⟨sv, cv, k1, k2, k3, k4, k5⟩ => ⟨sv, cv, 0, k1, by
      obtain ⟨q1, q2, e1⟩ := own_slice k2
      obtain ⟨q3, q4, e2⟩ := own_slice k3
      exact ⟨_, _, _, _, _, _, e1, e2⟩, ⟨.inr (.inr (.inr ⟨rfl, hg⟩)), .inr ⟨rfl, k2, k3⟩⟩, k5⟩
  · exact (imp_diskWrite_bad v nS S nC A X a t w hts hS hC hg h).mono fun _ w' ⟨c, k1, k2, k3⟩ => ⟨_, _, c, k1, ⟨_, _, _, _, _, _, rfl, rfl⟩, ⟨k2, .inl ⟨rfl, rfl, fun h0 => by
      subst h0
      rcases k2 with ⟨e, _⟩ | ⟨e, _⟩ | ⟨e, _⟩ | ⟨_, k⟩
      · cases e
      · cases e
      · cases e
      · exact absurd k hg⟩⟩, k3⟩
theorem imp_extentWrite_all (v : Value) (nS : Nat) (S : Nat → ByteArray) (nC : Nat) (A : Nat → Int) (X : Nat → ByteArray) (a : Int) (t : ByteArray) (w : World) (hts : t.size ≤ 20000) (hS : nS ≤ 1048576) (hC : nC ≤ 1048576) (h : dskI w w.heap.size v nS S nC A X) :
    Calls Try.prog 16 #[v, .int .i64 a, .string t] w fun e w' => ∃ x1 y1 z1 x2 y2 z2 c, e = .returned (.agg #[.slice x1 y1 z1, .slice x2 y2 z2, .string ⟨#[]⟩, .int .i64 c]) ∧ exCode nS S nC A X a t c ∧ wrAns w' y1 y2 x1 z1 x2 z2 nS S nC A X a t c ∧ Below w.heap.size w w' := by
  by_cases h0 : t.size = 0 ∧ dskOk nS S nC A X
  · exact (imp_extentWrite_empty v nS S nC A X a t w h0.1 h0.2 h).mono fun _ w' ⟨k1, k2⟩ => ⟨_, _, _, _, _, _, 8, k1, .inl ⟨h0, rfl⟩, (fun e => by cases e), k2⟩
  · have hall : Calls Try.prog 16 #[v, .int .i64 a, .string t] w fun e w' => ∃ sv cv c u w1, e = .returned (doutV sv cv ⟨#[]⟩ c) ∧ wrP nS S nC A X a t sv cv c u w1 ∧ w.heap.size + 2 ≤ u.heap.size ∧ (∀ j, j ≠ w.heap.size + 1 → w'.heap[j]? = w1.heap[j]?) ∧ w'.heap.size = w1.heap.size ∧ Below w.heap.size w w' := by
      by_cases ht : t.size = 0
      · exact imp_extentWrite_form v nS S nC A X a t w ht hS hC (fun k => h0 ⟨ht, k⟩) h _ (fun u x hx => imp_diskWrite_P x nS S nC A X a t u hts hS hC hx)
      · exact imp_extentWrite_ok v nS S nC A X a t w ht h _ (fun u x hx => imp_diskWrite_P x nS S nC A X a t u hts hS hC hx)
    refine hall.mono fun _ w' ⟨sv, cv, c, u2, w1, k1, ⟨k2, k3⟩, k6, k7, k8, k9⟩ => ?_
    rcases k3 with ⟨rfl, rfl, g1⟩ | ⟨rfl, g1, g2⟩
    · exact ⟨_, _, _, _, _, _, c, k1, .inr ⟨h0, k2⟩, fun e => absurd e g1, k9⟩
    · obtain ⟨q1, q2, e1⟩ := own_slice g1
      obtain ⟨q3, q4, e2⟩ := own_slice g2
      subst e1 e2
      have m1 := own_of_block g1 (w' := w') (fun b hb => k7 b (by have := (g1.lt b hb).1; omega))
      have m2 := own_of_block g2 (w' := w') (fun b hb => k7 b (by have := (g2.lt b hb).1; omega))
      exact ⟨_, _, _, _, _, _, 0, k1, .inr ⟨h0, k2⟩, fun _ => ⟨rfl, own_dskI m1 m2⟩, k9⟩
theorem spec_extentWrite_all (v : Value) (nS : Nat) (S : Nat → ByteArray) (nC : Nat) (A : Nat → Int) (X : Nat → ByteArray) (a : Int) (t : ByteArray) (w : World) (hts : t.size ≤ 20000) (hS : nS ≤ 1048576) (hC : nC ≤ 1048576) (h : dskI w w.heap.size v nS S nC A X) :
    Calls Try.prog 17 #[v, .int .i64 a, .string t] w fun e w' => ∃ sv cv c, e = .returned (.agg #[sv, cv, .string ⟨#[]⟩, .int .i64 c]) ∧ exCode nS S nC A X a t c ∧ Below w.heap.size w w' := by
  by_cases hok : dskOk nS S nC A X
  · by_cases ht : t.size = 0
    · exact (spec_extentWrite_empty v nS S nC A X a t w ht hok h).mono fun _ _ ⟨k1, k2⟩ => ⟨_, _, 8, k1, .inl ⟨⟨ht, hok⟩, rfl⟩, k2⟩
    · have hn : ¬ (t.size = 0 ∧ dskOk nS S nC A X) := fun k => ht k.1
      by_cases hr : 0 ≤ a ∧ a ≤ (nS : Int) - (manyW t : Int)
      · by_cases hf : (nC : Int) + (manyW t : Int) ≤ 400
        · exact (spec_extentWrite_ok v nS S nC A X a t w hts ht hok h (fun sv cv c _ _ => c = 0)
            (fun u2 x2 h2_ => (spec_write_good x2 nS S nC A X a t u2 hok hts hr.1 hr.2 (by omega) h2_).mono fun _ _ ⟨sv, cv, k1, k2, k3, k4, k5⟩ => ⟨sv, cv, 0, k1, by
              obtain ⟨q1, q2, e1⟩ := own_slice k2
              obtain ⟨q3, q4, e2⟩ := own_slice k3
              exact ⟨_, _, _, _, _, _, e1, e2⟩, rfl, k5⟩)).mono fun _ w' ⟨sv, cv, c, _, _, k1, k2, _, _, _, k9⟩ => ⟨sv, cv, c, k1, .inr ⟨hn, .inr (.inr (.inr ⟨k2, hok, hr, hf⟩))⟩, k9⟩
        · exact (spec_extentWrite_ok v nS S nC A X a t w hts ht hok h (fun sv cv c _ _ => c = 9)
            (fun u2 x2 h2_ => (spec_write_full x2 nS S nC A X a t u2 hok hts hr.1 ⟨hr.2, by omega⟩ h2_).mono fun _ _ ⟨k1, k2⟩ => ⟨_, _, 9, k1, ⟨_, _, _, _, _, _, rfl, rfl⟩, rfl, k2⟩)).mono fun _ w' ⟨sv, cv, c, _, _, k1, k2, _, _, _, k9⟩ => ⟨sv, cv, c, k1, .inr ⟨hn, .inr (.inr (.inl ⟨k2, hok, hr, by omega⟩))⟩, k9⟩
      · exact (spec_extentWrite_ok v nS S nC A X a t w hts ht hok h (fun sv cv c _ _ => c = 8)
          (fun u2 x2 h2_ => (spec_write_range x2 nS S nC A X a t u2 hok hts (by omega) h2_).mono fun _ _ ⟨k1, k2⟩ => ⟨_, _, 8, k1, ⟨_, _, _, _, _, _, rfl, rfl⟩, rfl, k2⟩)).mono fun _ w' ⟨sv, cv, c, _, _, k1, k2, _, _, _, k9⟩ => ⟨sv, cv, c, k1, .inr ⟨hn, .inr (.inl ⟨k2, hok, hr⟩)⟩, k9⟩
  · exact (spec_extentWrite_form v nS S nC A X a t w hts hS hC hok h).mono fun _ _ ⟨k1, k2⟩ => ⟨_, _, 1, k1, .inr ⟨fun k => hok k.2, .inl ⟨rfl, hok⟩⟩, k2⟩
/-- A read of an extent that is right. -/
theorem imp_extentRead_ok (v : Value) (nS : Nat) (S : Nat → ByteArray) (nC : Nat) (A : Nat → Int) (X : Nat → ByteArray) (a m : Nat) (w : World) (hok : dskOk nS S nC A X) (hx : extOk (a : Int) (m : Int) (nS : Int)) (h : dskI w w.heap.size v nS S nC A X) :
    Calls Try.prog 13 #[v, .agg #[.int .i64 (a : Int), .int .i64 (m : Int)]] w fun e w' => e = .returned (.agg #[.slice none 0 0, .slice none 0 0, .string ⟨(dL (flS S A X (fun _ => true) nC) (64 * a) m).toArray⟩, .int .i64 0]) ∧ Below w.heap.size w w' :=
  (imp_extentRead v nS S nC A X a m w (by have := hok.1; omega) (by have := hok.2.1; omega) h).mono fun _ _ ⟨t, c, k1, k2, k3⟩ => by
    rcases k2 with ⟨h1, _⟩ | ⟨_, h1, _⟩ | ⟨_, _, rfl, rfl⟩
    · exact absurd hok h1
    · exact absurd hx h1
    · exact ⟨k1, k3⟩
theorem spec_extentRead_ok (v : Value) (nS : Nat) (S : Nat → ByteArray) (nC : Nat) (A : Nat → Int) (X : Nat → ByteArray) (a m : Nat) (w : World) (hok : dskOk nS S nC A X) (hx : extOk (a : Int) (m : Int) (nS : Int)) (h : dskI w w.heap.size v nS S nC A X) :
    Calls Try.prog 12 #[v, .agg #[.int .i64 (a : Int), .int .i64 (m : Int)]] w fun e w' => e = .returned (.agg #[.slice none 0 0, .slice none 0 0, .string ⟨(dL (flS S A X (fun _ => true) nC) (64 * a) m).toArray⟩, .int .i64 0]) ∧ Below w.heap.size w w' :=
  (spec_extentRead v nS S nC A X a m w (by have := hok.1; omega) (by have := hok.2.1; omega) h).mono fun _ _ ⟨t, c, k1, k2, k3⟩ => by
    rcases k2 with ⟨h1, _⟩ | ⟨_, h1, _⟩ | ⟨_, _, rfl, rfl⟩
    · exact absurd hok h1
    · exact absurd hx h1
    · exact ⟨k1, k3⟩
end Go.Proofs.Ytipeelkmmjgehaa
/- The walk over a source's edge. -/
namespace Go.Proofs.Ytipeelkmmjgehaa
open Go.RowKit

/-- The numbers at some limit. -/
def edges : Array Value := #[.int .i64 0, .int .i64 1, .int .i64 (-1), .int .i64 2, .int .i64 1000, .int .i64 1001, .int .i64 2147483648, .int .i64 2147483647, .int .i64 (-2147483648), .int .i64 4611686018427387904, .int .i64 9223372036854775807, .int .i64 (-9223372036854775808), .int .i64 1000000, .int .i64 1000001]
theorem edges_at (k : Nat) (hk : k < 14) : ∃ x : Int, -9223372036854775808 ≤ x ∧ x ≤ 9223372036854775807 ∧ edges[k]? = some (.int .i64 x) := by
  have h : k = 0 ∨ k = 1 ∨ k = 2 ∨ k = 3 ∨ k = 4 ∨ k = 5 ∨ k = 6 ∨ k = 7 ∨ k = 8 ∨ k = 9 ∨ k = 10 ∨ k = 11 ∨ k = 12 ∨ k = 13 := by omega
  rcases h with rfl | rfl | rfl | rfl | rfl | rfl | rfl | rfl | rfl | rfl | rfl | rfl | rfl | rfl
  all_goals exact ⟨_, by decide, by decide, rfl⟩

set_option maxRecDepth 100000 in
set_option maxHeartbeats 800000 in
theorem src_edge (B : Nat) (w : World) (g : Nat) (a : Option Addr) (len cap : Nat) (hs : Src 86 B w g a len cap) :
    Calls Try.prog 34 #[.pointer (some ⟨g, 0, none⟩)] w fun e w' => ∃ x : Int, e = .returned (.int .i64 x) ∧ -9223372036854775808 ≤ x ∧ x ≤ 9223372036854775807 ∧ Src 86 B w' g a len cap ∧ w.grownBy w' (some g) := by
  have hlt := hs.lt
  have hBg := hs.1
  have HS := hide (hs.kept (grownBy_alloc (World.grownBy.refl w none) (.cells #[.int .i64 0, .int .i64 1, .int .i64 (-1), .int .i64 2, .int .i64 1000, .int .i64 1001, .int .i64 2147483648, .int .i64 2147483647, .int .i64 (-2147483648), .int .i64 4611686018427387904, .int .i64 9223372036854775807, .int .i64 (-9223372036854775808), .int .i64 1000000, .int .i64 1000001] 2)) (fun k hk => by cases hk) (by omega))
  clear hs
  go_enter Try.func34, Try.ntmps34
  go_wp2_with fail
  refine (src_n B _ g a len cap 14 (by omega) HS.out).mono ?_
  rintro e w1 ⟨v, rfl, v0, v1, hs1, hg1⟩
  obtain ⟨k, rfl⟩ := Int.eq_ofNat_of_zero_le v0
  have hk : k < 14 := by omega
  have hk' : (k : Int) < 14 := by omega
  obtain ⟨x, x0, x1, hx⟩ := edges_at k hk
  have hc : w1.cell? ⟨w.heap.size, k, none⟩ = some (.int .i64 x) := by
    have hb := hg1.block w.heap.size (by simp) (by simp; omega)
    rw [heap_alloc_new] at hb
    unfold World.cell?
    rw [hb]
    exact hx
  have HS1 := hide hs1
  have hg2 := grownBy_trans (grownBy_alloc (World.grownBy.refl w (some g)) _) hg1
  clear hs1 hg1 hx HS v1
  go_wp2_with fail
  go_ret
  exact ⟨x, rfl, x0, x1, HS1.out, hg2⟩

end Go.Proofs.Ytipeelkmmjgehaa
/- A draw of a disk under way (written by mkdraww.py). -/
namespace Go.Proofs.Ytipeelkmmjgehaa
open Go Go.RowKit
theorem BytesIn.lowD {w w' : World} {a : Option Addr} {len : Nat} (h : BytesIn w w.heap.size a len) (hb : Below w.heap.size w w') : BytesIn w' w'.heap.size a len := by
  rcases h.below hb (Nat.le_refl _) with h1 | ⟨b, off, rfl, h2, h3⟩
  · exact .inl h1
  · exact .inr ⟨b, off, rfl, Nat.lt_of_lt_of_le h2 hb.size, h3⟩
theorem results_cell_two {P : Program} {fn : Func} {p x y : Tmp} {ty : TypeId} (h : fn.results = #[.cell p ty, .tmp x, .tmp y]) (tmps : Array Value) (w : World) (g : Nat) (t : TypeId) (cs : Array Value) (fr : Nat × Nat) (d : TypeDesc)
    (hp : tmps.getD p undef = .pointer (some ⟨g, 0, none⟩)) (hg : w.heap[g]? = some (.cells cs t fr))
    (hu : P.underlying ty = some d) (hd : (match d with | .struct _ | .array _ _ => true | _ => false) = true) (hi : (P.info? ty).map (·.size) = some cs.size) :
    (results fn tmps).run P w = .ok (.tuple #[.agg cs, tmps.getD x undef, tmps.getD y undef]) w := by
  have hp' : tmps[p]?.getD undef = .pointer (some ⟨g, 0, none⟩) := by simpa using hp
  simp [results, h, hp', asAddr, run_loadVar_row w g t ty cs fr d hg hu hd hi]
/-- The draw under way: the source in block G, the disk in block Z. -/
structure DwSt (w : World) (G Z : Nat) (a : Option Addr) (len cap : Nat) (wx : World) (sv cv : Value) (nS : Nat) (S : Nat → ByteArray) (nC : Nat) (A : Nat → Int) (X : Nat → ByteArray) : Prop where
  src : Src 86 G wx G a len cap
  z : wx.heap[Z]? = some (.cells #[sv, cv] 26)
  r : wx.heap[w.heap.size]? = some (.cells #[.slice none 0 0, .slice none 0 0] 26)
  o1 : wx.ownsRow (G + 1) 9 1 sv nS (sL S nS)
  o2 : wx.ownsRow (G + 1) 74 2 cv nC (wL A X nC)
  gr : w.grownBy wx none
  gl : w.heap.size < G
  zl : G < Z
section
variable {w : World} {G Z : Nat} {a : Option Addr} {len cap : Nat} {wx wy : World} {sv cv : Value} {nS : Nat} {S : Nat → ByteArray} {nC : Nat} {A : Nat → Int} {X : Nat → ByteArray}
theorem DwSt.zs (h : DwSt w G Z a len cap wx sv cv nS S nC A X) : Z < wx.heap.size := (Array.getElem?_eq_some_iff.1 h.z).1
theorem DwSt.step (h : DwSt w G Z a len cap wx sv cv nS S nC A X) (hs : Src 86 G wy G a len cap) (hg : wx.grownBy wy (some G)) : DwSt w G Z a len cap wy sv cv nS S nC A X := by
  have hl := h.gl
  have hz := h.zl
  have hs2 := h.zs
  have q : ∀ b, b ≠ G → b < wx.heap.size → wy.heap[b]? = wx.heap[b]? := fun b h1 h2 => hg.block b h2 (by simp; omega)
  exact ⟨hs, (q Z (by omega) hs2).trans h.z, (q _ (by omega) (by omega)).trans h.r, own_of_block h.o1 (fun b hb => q b (by have := (h.o1.lt b hb).1; omega) (h.o1.lt b hb).2),
    own_of_block h.o2 (fun b hb => q b (by have := (h.o2.lt b hb).1; omega) (h.o2.lt b hb).2), grownBy_new h.gr hg (by omega), h.gl, h.zl⟩
theorem DwSt.nz (h : DwSt w G Z a len cap wx sv cv nS S nC A X) : Z ≠ w.heap.size := by have := h.gl; have := h.zl; omega
theorem DwSt.draw (h : DwSt w G Z a len cap wx sv cv nS S nC A X) : DwSt w G Z a len cap wx.drew sv cv nS S nC A X := ⟨h.src, h.z, h.r, h.o1, h.o2, grownBy_drew h.gr, h.gl, h.zl⟩
theorem DwSt.endOf (h : DwSt w G Z a len cap wx sv cv nS S nC A X) (x y : Value) :
    ((wx.setCell ⟨w.heap.size, 0, none⟩ x).setCell ⟨w.heap.size, 1, none⟩ y).ownsRow w.heap.size 9 1 sv nS (sL S nS) ∧ ((wx.setCell ⟨w.heap.size, 0, none⟩ x).setCell ⟨w.heap.size, 1, none⟩ y).ownsRow w.heap.size 74 2 cv nC (wL A X nC) ∧
    w.grownBy ((wx.setCell ⟨w.heap.size, 0, none⟩ x).setCell ⟨w.heap.size, 1, none⟩ y) none := by
  have hl := h.gl
  have q : ∀ k, k ≠ w.heap.size → ((wx.setCell ⟨w.heap.size, 0, none⟩ x).setCell ⟨w.heap.size, 1, none⟩ y).heap[k]? = wx.heap[k]? := fun k hk => (set1_o _ _ _ _ _ hk).trans (set1_o _ _ _ _ _ hk)
  have hs : ((wx.setCell ⟨w.heap.size, 0, none⟩ x).setCell ⟨w.heap.size, 1, none⟩ y).heap.size = wx.heap.size := by simp [World.setCell]
  exact ⟨own_base (own_of_block h.o1 (fun b hb => q b (by have := (h.o1.lt b hb).1; omega))) (by omega), own_base (own_of_block h.o2 (fun b hb => q b (by have := (h.o2.lt b hb).1; omega))) (by omega),
    ⟨h.gr.os, h.gr.tape, h.gr.output, by rw [hs]; exact h.gr.size, fun i hi hne => (q i (by omega)).trans (h.gr.block i hi hne)⟩⟩
end
end Go.Proofs.Ytipeelkmmjgehaa
/- The draws DrawExtentPatch, DrawExtentWrite (written by mkdraww.py). -/
namespace Go.Proofs.Ytipeelkmmjgehaa
open Go Go.RowKit
set_option maxRecDepth 100000 in
set_option maxHeartbeats 1600000 in
theorem drawExtentPatch_any (w : World) (a : Option Addr) (len cap : Nat) (hl : len ≤ 1048576) (hby : BytesIn w w.heap.size a len) :
    Calls Try.prog 9 #[.slice a len cap] w fun e w' => ∃ sv cv nS S nC A X an tx, e = .returned (.tuple #[.agg #[sv, cv], .int .i64 an, .string tx]) ∧ w'.ownsRow w.heap.size 9 1 sv nS (sL S nS) ∧ w'.ownsRow w.heap.size 74 2 cv nC (wL A X nC) ∧ apartV sv cv ∧ nS ≤ 6 ∧ nC ≤ 402 ∧ dkSmall nS S nC X ∧ -9223372036854775808 ≤ an ∧ an ≤ 9223372036854775807 ∧ tx.size ≤ 149 ∧ w.grownBy w' none := by
  have HB := hide hby
  clear hby
  have al0 : Below w.heap.size w (w.alloc (.cells #[.slice none 0 0, .slice none 0 0] 26)) := (Below.refl _ _).alloc (Nat.le_refl _) _
  have al1 := heap_alloc_new w (.cells #[.slice none 0 0, .slice none 0 0] 26)
  have HA := hide (And.intro al0 al1)
  have al2 : w.heap.size < (w.alloc (.cells #[.slice none 0 0, .slice none 0 0] 26)).heap.size := by simp
  clear al0 al1
  go_enter Try.func9, Try.ntmps9
  go_wp2_with fail
  generalize w.alloc (.cells #[.slice none 0 0, .slice none 0 0] 26) = W0 at *
  refine (source_any W0 a len cap hl (HB.out.lowD HA.out.1)).mono ?_
  rintro e w1 ⟨rfl, hs1, hg1⟩
  obtain ⟨G, hG⟩ : ∃ G, G = W0.heap.size := ⟨_, rfl⟩
  rw [← hG] at hs1 al2
  have H1 := hide (And.intro hs1 (And.intro (grownBy_none (below_grownBy HA.out.1) hg1) ((hg1.block w.heap.size (by omega) (by simp)).trans HA.out.2)))
  have hB1 : G < w1.heap.size := hs1.lt
  have HG := hide hG
  clear hs1 hg1 hG
  go_wp2_with fail
  rw [← HG.out]
  refine (src_disk G w1 G a len cap H1.out.1 (by omega)).mono ?_
  rintro e w2 ⟨sv, cv, nS, S, nC, A, X, rfl, o1, o2, hap, hnS, hnC, hsm, hs2, hg2⟩
  obtain ⟨sa, sk, e1⟩ := own_slice o1
  obtain ⟨ca, ck, e2⟩ := own_slice o2
  subst e1 e2
  have y0 : Below w2.heap.size w2 (w2.alloc (.cells #[.slice sa nS sk, .slice ca nC ck] 26)) := (Below.refl _ _).alloc (Nat.le_refl _) _
  have y1 := heap_alloc_new w2 (.cells #[.slice sa nS sk, .slice ca nC ck] 26)
  have z2 := hg2.size
  have ST := hide (show DwSt w G w2.heap.size a len cap (w2.alloc (.cells #[.slice sa nS sk, .slice ca nC ck] 26)) (.slice sa nS sk) (.slice ca nC ck) nS S nC A X from
    ⟨hs2.kept (below_grownBy y0) (fun k hk => by cases hk) (by omega), y1, (y0.block _ (by omega)).trans ((hg2.block _ (by omega) (by simp; omega)).trans H1.out.2.2),
     own_base (own_of_block o1 (fun b hb => y0.block b (o1.lt b hb).2)) (by omega), own_base (own_of_block o2 (fun b hb => y0.block b (o2.lt b hb).2)) (by omega), grownBy_none (grownBy_new H1.out.2.1 hg2 (by omega)) (below_grownBy y0), by omega, by omega⟩)
  have FX := hide (And.intro hap hsm)
  clear y0 y1 hs2 hg2 o1 o2 H1 hap hsm
  go_wp2_with fail
  generalize w2.alloc (.cells #[.slice sa nS sk, .slice ca nC ck] 26) = W3 at *
  obtain ⟨Z, hZ⟩ : ∃ Z, Z = w2.heap.size := ⟨_, rfl⟩
  rw [← hZ] at ST ⊢
  clear hZ z2
  refine (src_n G W3 G a len cap 300 (by omega) ST.out.src).mono ?_
  rintro e w3 ⟨y, rfl, y0, y1, hs3, hg3⟩
  replace ST := hide (ST.out.step hs3 hg3)
  clear hs3 hg3
  go_wp2_with fail
  refine (src_one G w3 G a len cap 15 (by omega) ST.out.src).mono ?_
  rintro e w4 ⟨r, rfl, hs4, hg4⟩
  replace ST := hide (ST.out.step hs4 hg4)
  clear hs4 hg4
  cases r with
  | false =>
    go_wp2_with fail
    refine wp_region_held_drew (S := fun u => u.cell? ⟨Z, 0, none⟩ = some (.slice sa nS sk) ∧ u.cell? ⟨Z, 1, none⟩ = some (.slice ca nC ck)) (by kernel_rfl) (by have h := ST.out.draw.z; exact ⟨by simp [World.cell?, h], by simp [World.cell?, h]⟩) (fun hHeld => ?_)
    replace ST := hide ST.out.draw
    generalize w4.drew = Wd at *
    refine takeD (i := 0) (v := .agg #[.slice sa nS sk, .slice ca nC ck]) (some 18) rfl rfl (by kernel_rfl) (by kernel_rfl) (by kernel_rfl) (fun _ _ _ h => h) (Or.inl ⟨by rfl, fun w hSw => by obtain ⟨s0, s1⟩ := hSw; go_simp⟩) hHeld ?_
    simp only [Act.put, List.setIfInBounds_toArray, List.set_cons_zero, List.set_cons_succ]
    refine takeD (i := 1) (v := .int .i64 y) (some 19) rfl rfl (by kernel_rfl) (by kernel_rfl) (by kernel_rfl) (fun _ _ _ h => h) (Or.inl ⟨by rfl, fun w hSw => by go_simp⟩) hHeld ?_
    simp only [Act.put, List.setIfInBounds_toArray, List.set_cons_zero, List.set_cons_succ]
    refine takeD (i := 2) (v := .pointer (some ⟨G, 0, none⟩)) (some 20) rfl rfl (by kernel_rfl) (by kernel_rfl) (by kernel_rfl) (fun _ _ _ h => h) (Or.inl ⟨by rfl, fun w hSw => by go_simp⟩) hHeld ?_
    simp only [Act.put, List.setIfInBounds_toArray, List.set_cons_zero, List.set_cons_succ]
    refine takeD (i := 3) (v := .pointer (some ⟨G, 0, none⟩)) (some 21) rfl rfl (by kernel_rfl) (by kernel_rfl) (by kernel_rfl) (fun _ _ _ h => h) (Or.inl ⟨by rfl, fun w hSw => by go_simp⟩) hHeld ?_
    simp only [Act.put, List.setIfInBounds_toArray, List.set_cons_zero, List.set_cons_succ]
    refine wpAnyH_ready (rs := [4]) (by kernel_rfl) (by simp) ?_
    refine AllReadyH.cons rfl (fun KK hK => ?_) AllReadyH.nil
    go_simp
    refine (src_n _ _ _ a len cap 150 (by omega) ST.out.src).mono ?_
    rintro e w6 ⟨k, rfl, k0, k1, hs9, hg9⟩
    replace ST := hide (ST.out.step hs9 hg9)
    clear hs9 hg9
    obtain ⟨k, rfl⟩ := Int.eq_ofNat_of_zero_le k0
    have hk : k ≤ 149 := by omega
    go_wp2_with fail
    refine hK.out _ _ (by have h := ST.out.z; exact ⟨by simp [World.cell?, h], by simp [World.cell?, h]⟩) (fun hHeld => ?_)
    clear hK KK k0 k1
    refine wpAnyH_ready (rs := [5]) (by kernel_rfl) (by simp) ?_
    refine AllReadyH.cons rfl (fun KK hK => ?_) AllReadyH.nil
    go_simp
    refine (src_bytes _ _ _ a len cap k (by omega) ST.out.src).mono ?_
    rintro e w7 ⟨tx, rfl, htx, hs9, hg9⟩
    replace ST := hide (ST.out.step hs9 hg9)
    have TZ := hide (show tx.size ≤ 149 by omega)
    clear hs9 hg9 htx
    go_wp2_with fail
    refine hK.out _ _ (by have h := ST.out.z; exact ⟨by simp [World.cell?, h], by simp [World.cell?, h]⟩) (fun hHeld => ?_)
    clear hK KK
    have r0 : w7.cell? ⟨w.heap.size, 0, none⟩ = some (.slice none 0 0) := by have h := ST.out.r; simp [World.cell?, h]
    have r1 : w7.cell? ⟨w.heap.size, 1, none⟩ = some (.slice none 0 0) := by have h := ST.out.r; simp [World.cell?, h]
    have r2 : w7.frozen? ⟨w.heap.size, 0, none⟩ = false := by have h := ST.out.r; simp [World.frozen?, h]
    have r3 : w7.frozen? ⟨w.heap.size, 1, none⟩ = false := by have h := ST.out.r; simp [World.frozen?, h]
    have FE := ST.out.endOf (.slice sa nS sk) (.slice ca nC ck)
    have u1 : ((w7.setCell ⟨w.heap.size, 0, none⟩ (.slice sa nS sk)).setCell ⟨w.heap.size, 1, none⟩ (.slice ca nC ck)).heap[w.heap.size]? = some (.cells #[.slice sa nS sk, .slice ca nC ck] 26) := set2_blk _ _ _ _ _ _ _ ST.out.r
    have nz := ST.out.nz
    have zz : ((w7.setCell ⟨w.heap.size, 0, none⟩ (.slice sa nS sk)).setCell ⟨w.heap.size, 1, none⟩ (.slice ca nC ck)).heap[Z]? = some (.cells #[.slice sa nS sk, .slice ca nC ck] 26) := (set1_o _ _ _ _ _ nz).trans ((set1_o _ _ _ _ _ nz).trans ST.out.z)
    refine wpAnyH_ready (rs := [6]) (by kernel_rfl) (by simp) ?_
    refine AllReadyH.cons rfl (fun KK hK => ?_) AllReadyH.nil
    go_simp
    generalize ((w7.setCell ⟨w.heap.size, 0, none⟩ (.slice sa nS sk)).setCell ⟨w.heap.size, 1, none⟩ (.slice ca nC ck)) = w9 at *
    refine hK.out _ _ (by exact ⟨by simp [World.cell?, zz], by simp [World.cell?, zz]⟩) (fun hHeld => ?_)
    clear hK KK r0 r1 r2 r3 zz
    refine takeD (i := 7) (v := .int .i64 y) (some 3) rfl rfl (by kernel_rfl) (by kernel_rfl) (by kernel_rfl) (fun _ _ _ h => h) (Or.inl ⟨by rfl, fun w hSw => by go_simp⟩) hHeld ?_
    simp only [Act.put, List.setIfInBounds_toArray, List.set_cons_zero, List.set_cons_succ]
    refine takeD (i := 8) (v := .string tx) (some 4) rfl rfl (by kernel_rfl) (by kernel_rfl) (by kernel_rfl) (fun _ _ _ h => h) (Or.inl ⟨by rfl, fun w hSw => by go_simp⟩) hHeld ?_
    simp only [Act.put, List.setIfInBounds_toArray, List.set_cons_zero, List.set_cons_succ]
    refine wpAnyH_done (by kernel_rfl) ?_ _
    try go_wp2_with fail
    exact bodyPost_ret (results_cell_two Try.results9 _ _ w.heap.size 26 #[.slice sa nS sk, .slice ca nC ck] (0, 0) _ rfl u1 Try.underlying26 rfl (by kernel_rfl)) rfl ⟨_, _, _, _, _, _, _, y, tx, rfl, FE.1, FE.2.1, FX.out.1, by omega, by omega, FX.out.2, (by omega), (by omega), TZ.out, FE.2.2⟩
  | true =>
    go_wp2_with fail
    refine (src_edge G w4 G a len cap ST.out.src).mono ?_
    rintro e w5 ⟨x, rfl, x0, x1, hs5, hg5⟩
    replace ST := hide (ST.out.step hs5 hg5)
    clear hs5 hg5
    go_wp2_with fail
    refine wp_region_held_drew (S := fun u => u.cell? ⟨Z, 0, none⟩ = some (.slice sa nS sk) ∧ u.cell? ⟨Z, 1, none⟩ = some (.slice ca nC ck)) (by kernel_rfl) (by have h := ST.out.draw.z; exact ⟨by simp [World.cell?, h], by simp [World.cell?, h]⟩) (fun hHeld => ?_)
    replace ST := hide ST.out.draw
    generalize w5.drew = Wd at *
    refine takeD (i := 0) (v := .agg #[.slice sa nS sk, .slice ca nC ck]) (some 18) rfl rfl (by kernel_rfl) (by kernel_rfl) (by kernel_rfl) (fun _ _ _ h => h) (Or.inl ⟨by rfl, fun w hSw => by obtain ⟨s0, s1⟩ := hSw; go_simp⟩) hHeld ?_
    simp only [Act.put, List.setIfInBounds_toArray, List.set_cons_zero, List.set_cons_succ]
    refine takeD (i := 1) (v := .int .i64 x) (some 19) rfl rfl (by kernel_rfl) (by kernel_rfl) (by kernel_rfl) (fun _ _ _ h => h) (Or.inl ⟨by rfl, fun w hSw => by go_simp⟩) hHeld ?_
    simp only [Act.put, List.setIfInBounds_toArray, List.set_cons_zero, List.set_cons_succ]
    refine takeD (i := 2) (v := .pointer (some ⟨G, 0, none⟩)) (some 20) rfl rfl (by kernel_rfl) (by kernel_rfl) (by kernel_rfl) (fun _ _ _ h => h) (Or.inl ⟨by rfl, fun w hSw => by go_simp⟩) hHeld ?_
    simp only [Act.put, List.setIfInBounds_toArray, List.set_cons_zero, List.set_cons_succ]
    refine takeD (i := 3) (v := .pointer (some ⟨G, 0, none⟩)) (some 21) rfl rfl (by kernel_rfl) (by kernel_rfl) (by kernel_rfl) (fun _ _ _ h => h) (Or.inl ⟨by rfl, fun w hSw => by go_simp⟩) hHeld ?_
    simp only [Act.put, List.setIfInBounds_toArray, List.set_cons_zero, List.set_cons_succ]
    refine wpAnyH_ready (rs := [4]) (by kernel_rfl) (by simp) ?_
    refine AllReadyH.cons rfl (fun KK hK => ?_) AllReadyH.nil
    go_simp
    refine (src_n _ _ _ a len cap 150 (by omega) ST.out.src).mono ?_
    rintro e w6 ⟨k, rfl, k0, k1, hs9, hg9⟩
    replace ST := hide (ST.out.step hs9 hg9)
    clear hs9 hg9
    obtain ⟨k, rfl⟩ := Int.eq_ofNat_of_zero_le k0
    have hk : k ≤ 149 := by omega
    go_wp2_with fail
    refine hK.out _ _ (by have h := ST.out.z; exact ⟨by simp [World.cell?, h], by simp [World.cell?, h]⟩) (fun hHeld => ?_)
    clear hK KK k0 k1
    refine wpAnyH_ready (rs := [5]) (by kernel_rfl) (by simp) ?_
    refine AllReadyH.cons rfl (fun KK hK => ?_) AllReadyH.nil
    go_simp
    refine (src_bytes _ _ _ a len cap k (by omega) ST.out.src).mono ?_
    rintro e w7 ⟨tx, rfl, htx, hs9, hg9⟩
    replace ST := hide (ST.out.step hs9 hg9)
    have TZ := hide (show tx.size ≤ 149 by omega)
    clear hs9 hg9 htx
    go_wp2_with fail
    refine hK.out _ _ (by have h := ST.out.z; exact ⟨by simp [World.cell?, h], by simp [World.cell?, h]⟩) (fun hHeld => ?_)
    clear hK KK
    have r0 : w7.cell? ⟨w.heap.size, 0, none⟩ = some (.slice none 0 0) := by have h := ST.out.r; simp [World.cell?, h]
    have r1 : w7.cell? ⟨w.heap.size, 1, none⟩ = some (.slice none 0 0) := by have h := ST.out.r; simp [World.cell?, h]
    have r2 : w7.frozen? ⟨w.heap.size, 0, none⟩ = false := by have h := ST.out.r; simp [World.frozen?, h]
    have r3 : w7.frozen? ⟨w.heap.size, 1, none⟩ = false := by have h := ST.out.r; simp [World.frozen?, h]
    have FE := ST.out.endOf (.slice sa nS sk) (.slice ca nC ck)
    have u1 : ((w7.setCell ⟨w.heap.size, 0, none⟩ (.slice sa nS sk)).setCell ⟨w.heap.size, 1, none⟩ (.slice ca nC ck)).heap[w.heap.size]? = some (.cells #[.slice sa nS sk, .slice ca nC ck] 26) := set2_blk _ _ _ _ _ _ _ ST.out.r
    have nz := ST.out.nz
    have zz : ((w7.setCell ⟨w.heap.size, 0, none⟩ (.slice sa nS sk)).setCell ⟨w.heap.size, 1, none⟩ (.slice ca nC ck)).heap[Z]? = some (.cells #[.slice sa nS sk, .slice ca nC ck] 26) := (set1_o _ _ _ _ _ nz).trans ((set1_o _ _ _ _ _ nz).trans ST.out.z)
    refine wpAnyH_ready (rs := [6]) (by kernel_rfl) (by simp) ?_
    refine AllReadyH.cons rfl (fun KK hK => ?_) AllReadyH.nil
    go_simp
    generalize ((w7.setCell ⟨w.heap.size, 0, none⟩ (.slice sa nS sk)).setCell ⟨w.heap.size, 1, none⟩ (.slice ca nC ck)) = w9 at *
    refine hK.out _ _ (by exact ⟨by simp [World.cell?, zz], by simp [World.cell?, zz]⟩) (fun hHeld => ?_)
    clear hK KK r0 r1 r2 r3 zz
    refine takeD (i := 7) (v := .int .i64 x) (some 3) rfl rfl (by kernel_rfl) (by kernel_rfl) (by kernel_rfl) (fun _ _ _ h => h) (Or.inl ⟨by rfl, fun w hSw => by go_simp⟩) hHeld ?_
    simp only [Act.put, List.setIfInBounds_toArray, List.set_cons_zero, List.set_cons_succ]
    refine takeD (i := 8) (v := .string tx) (some 4) rfl rfl (by kernel_rfl) (by kernel_rfl) (by kernel_rfl) (fun _ _ _ h => h) (Or.inl ⟨by rfl, fun w hSw => by go_simp⟩) hHeld ?_
    simp only [Act.put, List.setIfInBounds_toArray, List.set_cons_zero, List.set_cons_succ]
    refine wpAnyH_done (by kernel_rfl) ?_ _
    try go_wp2_with fail
    exact bodyPost_ret (results_cell_two Try.results9 _ _ w.heap.size 26 #[.slice sa nS sk, .slice ca nC ck] (0, 0) _ rfl u1 Try.underlying26 rfl (by kernel_rfl)) rfl ⟨_, _, _, _, _, _, _, x, tx, rfl, FE.1, FE.2.1, FX.out.1, by omega, by omega, FX.out.2, x0, x1, TZ.out, FE.2.2⟩
set_option maxRecDepth 100000 in
set_option maxHeartbeats 1600000 in
theorem drawExtentWrite_any (w : World) (a : Option Addr) (len cap : Nat) (hl : len ≤ 1048576) (hby : BytesIn w w.heap.size a len) :
    Calls Try.prog 15 #[.slice a len cap] w fun e w' => ∃ sv cv nS S nC A X an tx, e = .returned (.tuple #[.agg #[sv, cv], .int .i64 an, .string tx]) ∧ w'.ownsRow w.heap.size 9 1 sv nS (sL S nS) ∧ w'.ownsRow w.heap.size 74 2 cv nC (wL A X nC) ∧ apartV sv cv ∧ nS ≤ 6 ∧ nC ≤ 402 ∧ dkSmall nS S nC X ∧ -9223372036854775808 ≤ an ∧ an ≤ 9223372036854775807 ∧ tx.size ≤ 149 ∧ w.grownBy w' none := by
  have HB := hide hby
  clear hby
  have al0 : Below w.heap.size w (w.alloc (.cells #[.slice none 0 0, .slice none 0 0] 26)) := (Below.refl _ _).alloc (Nat.le_refl _) _
  have al1 := heap_alloc_new w (.cells #[.slice none 0 0, .slice none 0 0] 26)
  have HA := hide (And.intro al0 al1)
  have al2 : w.heap.size < (w.alloc (.cells #[.slice none 0 0, .slice none 0 0] 26)).heap.size := by simp
  clear al0 al1
  go_enter Try.func15, Try.ntmps15
  go_wp2_with fail
  generalize w.alloc (.cells #[.slice none 0 0, .slice none 0 0] 26) = W0 at *
  refine (source_any W0 a len cap hl (HB.out.lowD HA.out.1)).mono ?_
  rintro e w1 ⟨rfl, hs1, hg1⟩
  obtain ⟨G, hG⟩ : ∃ G, G = W0.heap.size := ⟨_, rfl⟩
  rw [← hG] at hs1 al2
  have H1 := hide (And.intro hs1 (And.intro (grownBy_none (below_grownBy HA.out.1) hg1) ((hg1.block w.heap.size (by omega) (by simp)).trans HA.out.2)))
  have hB1 : G < w1.heap.size := hs1.lt
  have HG := hide hG
  clear hs1 hg1 hG
  go_wp2_with fail
  rw [← HG.out]
  refine (src_disk G w1 G a len cap H1.out.1 (by omega)).mono ?_
  rintro e w2 ⟨sv, cv, nS, S, nC, A, X, rfl, o1, o2, hap, hnS, hnC, hsm, hs2, hg2⟩
  obtain ⟨sa, sk, e1⟩ := own_slice o1
  obtain ⟨ca, ck, e2⟩ := own_slice o2
  subst e1 e2
  have y0 : Below w2.heap.size w2 (w2.alloc (.cells #[.slice sa nS sk, .slice ca nC ck] 26)) := (Below.refl _ _).alloc (Nat.le_refl _) _
  have y1 := heap_alloc_new w2 (.cells #[.slice sa nS sk, .slice ca nC ck] 26)
  have z2 := hg2.size
  have ST := hide (show DwSt w G w2.heap.size a len cap (w2.alloc (.cells #[.slice sa nS sk, .slice ca nC ck] 26)) (.slice sa nS sk) (.slice ca nC ck) nS S nC A X from
    ⟨hs2.kept (below_grownBy y0) (fun k hk => by cases hk) (by omega), y1, (y0.block _ (by omega)).trans ((hg2.block _ (by omega) (by simp; omega)).trans H1.out.2.2),
     own_base (own_of_block o1 (fun b hb => y0.block b (o1.lt b hb).2)) (by omega), own_base (own_of_block o2 (fun b hb => y0.block b (o2.lt b hb).2)) (by omega), grownBy_none (grownBy_new H1.out.2.1 hg2 (by omega)) (below_grownBy y0), by omega, by omega⟩)
  have FX := hide (And.intro hap hsm)
  clear y0 y1 hs2 hg2 o1 o2 H1 hap hsm
  go_wp2_with fail
  generalize w2.alloc (.cells #[.slice sa nS sk, .slice ca nC ck] 26) = W3 at *
  obtain ⟨Z, hZ⟩ : ∃ Z, Z = w2.heap.size := ⟨_, rfl⟩
  rw [← hZ] at ST ⊢
  clear hZ z2
  refine wp_region_held_drew (S := fun u => u.cell? ⟨Z, 0, none⟩ = some (.slice sa nS sk) ∧ u.cell? ⟨Z, 1, none⟩ = some (.slice ca nC ck)) (by kernel_rfl) (by have h := ST.out.draw.z; exact ⟨by simp [World.cell?, h], by simp [World.cell?, h]⟩) (fun hHeld => ?_)
  replace ST := hide ST.out.draw
  generalize W3.drew = Wd at *
  refine takeD (i := 0) (v := .agg #[.slice sa nS sk, .slice ca nC ck]) (some 11) rfl rfl (by kernel_rfl) (by kernel_rfl) (by kernel_rfl) (fun _ _ _ h => h) (Or.inl ⟨by rfl, fun w hSw => by obtain ⟨s0, s1⟩ := hSw; go_simp⟩) hHeld ?_
  simp only [Act.put, List.setIfInBounds_toArray, List.set_cons_zero, List.set_cons_succ]
  refine takeD (i := 1) (v := .pointer (some ⟨G, 0, none⟩)) (some 12) rfl rfl (by kernel_rfl) (by kernel_rfl) (by kernel_rfl) (fun _ _ _ h => h) (Or.inl ⟨by rfl, fun w hSw => by go_simp⟩) hHeld ?_
  simp only [Act.put, List.setIfInBounds_toArray, List.set_cons_zero, List.set_cons_succ]
  refine takeD (i := 4) (v := .pointer (some ⟨G, 0, none⟩)) (some 15) rfl rfl (by kernel_rfl) (by kernel_rfl) (by kernel_rfl) (fun _ _ _ h => h) (Or.inl ⟨by rfl, fun w hSw => by go_simp⟩) hHeld ?_
  simp only [Act.put, List.setIfInBounds_toArray, List.set_cons_zero, List.set_cons_succ]
  refine takeD (i := 5) (v := .pointer (some ⟨G, 0, none⟩)) (some 16) rfl rfl (by kernel_rfl) (by kernel_rfl) (by kernel_rfl) (fun _ _ _ h => h) (Or.inl ⟨by rfl, fun w hSw => by go_simp⟩) hHeld ?_
  simp only [Act.put, List.setIfInBounds_toArray, List.set_cons_zero, List.set_cons_succ]
  refine wpAnyH_ready (rs := [2]) (by kernel_rfl) (by simp) ?_
  refine AllReadyH.cons rfl (fun KK hK => ?_) AllReadyH.nil
  go_simp
  refine (src_n _ _ _ a len cap 7 (by omega) ST.out.src).mono ?_
  rintro e w5 ⟨y, rfl, y0, y1, hs9, hg9⟩
  replace ST := hide (ST.out.step hs9 hg9)
  clear hs9 hg9
  have hwr : IntKind.i64.wrap (y - 1) = y - 1 := by simp only [IntKind.wrap_i64]; omega
  go_wp2_with fail
  refine hK.out _ _ (by have h := ST.out.z; exact ⟨by simp [World.cell?, h], by simp [World.cell?, h]⟩) (fun hHeld => ?_)
  clear hK KK
  refine takeD (i := 3) (v := .int .i64 (y - 1)) (some 14) rfl rfl (by kernel_rfl) (by kernel_rfl) (by kernel_rfl) (fun _ _ _ h => h) (Or.inl ⟨by rfl, fun w hSw => by go_simp⟩) hHeld ?_
  simp only [Act.put, List.setIfInBounds_toArray, List.set_cons_zero, List.set_cons_succ]
  refine wpAnyH_ready (rs := [6]) (by kernel_rfl) (by simp) ?_
  refine AllReadyH.cons rfl (fun KK hK => ?_) AllReadyH.nil
  go_simp
  refine (src_n _ _ _ a len cap 150 (by omega) ST.out.src).mono ?_
  rintro e w6 ⟨k, rfl, k0, k1, hs9, hg9⟩
  replace ST := hide (ST.out.step hs9 hg9)
  clear hs9 hg9
  obtain ⟨k, rfl⟩ := Int.eq_ofNat_of_zero_le k0
  have hk : k ≤ 149 := by omega
  go_wp2_with fail
  refine hK.out _ _ (by have h := ST.out.z; exact ⟨by simp [World.cell?, h], by simp [World.cell?, h]⟩) (fun hHeld => ?_)
  clear hK KK k0 k1
  refine wpAnyH_ready (rs := [7]) (by kernel_rfl) (by simp) ?_
  refine AllReadyH.cons rfl (fun KK hK => ?_) AllReadyH.nil
  go_simp
  refine (src_bytes _ _ _ a len cap k (by omega) ST.out.src).mono ?_
  rintro e w7 ⟨tx, rfl, htx, hs9, hg9⟩
  replace ST := hide (ST.out.step hs9 hg9)
  have TZ := hide (show tx.size ≤ 149 by omega)
  clear hs9 hg9 htx
  go_wp2_with fail
  refine hK.out _ _ (by have h := ST.out.z; exact ⟨by simp [World.cell?, h], by simp [World.cell?, h]⟩) (fun hHeld => ?_)
  clear hK KK
  have r0 : w7.cell? ⟨w.heap.size, 0, none⟩ = some (.slice none 0 0) := by have h := ST.out.r; simp [World.cell?, h]
  have r1 : w7.cell? ⟨w.heap.size, 1, none⟩ = some (.slice none 0 0) := by have h := ST.out.r; simp [World.cell?, h]
  have r2 : w7.frozen? ⟨w.heap.size, 0, none⟩ = false := by have h := ST.out.r; simp [World.frozen?, h]
  have r3 : w7.frozen? ⟨w.heap.size, 1, none⟩ = false := by have h := ST.out.r; simp [World.frozen?, h]
  have FE := ST.out.endOf (.slice sa nS sk) (.slice ca nC ck)
  have u1 : ((w7.setCell ⟨w.heap.size, 0, none⟩ (.slice sa nS sk)).setCell ⟨w.heap.size, 1, none⟩ (.slice ca nC ck)).heap[w.heap.size]? = some (.cells #[.slice sa nS sk, .slice ca nC ck] 26) := set2_blk _ _ _ _ _ _ _ ST.out.r
  have nz := ST.out.nz
  have zz : ((w7.setCell ⟨w.heap.size, 0, none⟩ (.slice sa nS sk)).setCell ⟨w.heap.size, 1, none⟩ (.slice ca nC ck)).heap[Z]? = some (.cells #[.slice sa nS sk, .slice ca nC ck] 26) := (set1_o _ _ _ _ _ nz).trans ((set1_o _ _ _ _ _ nz).trans ST.out.z)
  refine wpAnyH_ready (rs := [8]) (by kernel_rfl) (by simp) ?_
  refine AllReadyH.cons rfl (fun KK hK => ?_) AllReadyH.nil
  go_simp
  generalize ((w7.setCell ⟨w.heap.size, 0, none⟩ (.slice sa nS sk)).setCell ⟨w.heap.size, 1, none⟩ (.slice ca nC ck)) = w9 at *
  refine hK.out _ _ (by exact ⟨by simp [World.cell?, zz], by simp [World.cell?, zz]⟩) (fun hHeld => ?_)
  clear hK KK r0 r1 r2 r3 zz
  refine takeD (i := 9) (v := .int .i64 (y - 1)) (some 3) rfl rfl (by kernel_rfl) (by kernel_rfl) (by kernel_rfl) (fun _ _ _ h => h) (Or.inl ⟨by rfl, fun w hSw => by go_simp⟩) hHeld ?_
  simp only [Act.put, List.setIfInBounds_toArray, List.set_cons_zero, List.set_cons_succ]
  refine takeD (i := 10) (v := .string tx) (some 4) rfl rfl (by kernel_rfl) (by kernel_rfl) (by kernel_rfl) (fun _ _ _ h => h) (Or.inl ⟨by rfl, fun w hSw => by go_simp⟩) hHeld ?_
  simp only [Act.put, List.setIfInBounds_toArray, List.set_cons_zero, List.set_cons_succ]
  refine wpAnyH_done (by kernel_rfl) ?_ _
  try go_wp2_with fail
  exact bodyPost_ret (results_cell_two Try.results15 _ _ w.heap.size 26 #[.slice sa nS sk, .slice ca nC ck] (0, 0) _ rfl u1 Try.underlying26 rfl (by kernel_rfl)) rfl ⟨_, _, _, _, _, _, _, (y - 1), tx, rfl, FE.1, FE.2.1, FX.out.1, by omega, by omega, FX.out.2, (by omega), (by omega), TZ.out, FE.2.2⟩
end Go.Proofs.Ytipeelkmmjgehaa
/- The walk over the law of extents (written by mkfe.py). -/
namespace Go.Proofs.Ytipeelkmmjgehaa
open Go Go.RowKit
theorem field_xcode (x y : Value) (s : ByteArray) (c : Int) (w : World) : (Instr.field 30 (.agg #[x, y, .string s, .int .i64 c]) 2).run Try.prog w = .ok (.int .i64 c) w := by kernel_rfl
theorem field_xtext (x y : Value) (s : ByteArray) (c : Int) (w : World) : (Instr.field 30 (.agg #[x, y, .string s, .int .i64 c]) 1).run Try.prog w = .ok (.string s) w := by kernel_rfl
theorem blk_belowX {w w' : World} {b : Nat} {o : Obj} (h : w.heap[b]? = some o) (hb : Below w.heap.size w w') : w'.heap[b]? = some o := (hb.block b (Array.getElem?_eq_some_iff.1 h).1).trans h
theorem ptAns.below {w w' : World} {y1 y2 : Nat} {x1 : Option Addr} {z1 : Nat} {x2 : Option Addr} {z2 nS : Nat} {S : Nat → ByteArray} {nC : Nat} {A : Nat → Int} {X : Nat → ByteArray} {a : Int} {t : ByteArray} {c : Int} (h : ptAns w y1 y2 x1 z1 x2 z2 nS S nC A X a t c) (hb : Below w.heap.size w w') : ptAns w' y1 y2 x1 z1 x2 z2 nS S nC A X a t c :=
  fun h0 => ⟨(h h0).1, ((h h0).2.below hb).wide hb.size⟩
theorem wrAns.below {w w' : World} {y1 y2 : Nat} {x1 : Option Addr} {z1 : Nat} {x2 : Option Addr} {z2 nS : Nat} {S : Nat → ByteArray} {nC : Nat} {A : Nat → Int} {X : Nat → ByteArray} {a : Int} {t : ByteArray} {c : Int} (h : wrAns w y1 y2 x1 z1 x2 z2 nS S nC A X a t c) (hb : Below w.heap.size w w') : wrAns w' y1 y2 x1 z1 x2 z2 nS S nC A X a t c :=
  fun h0 => ⟨(h h0).1, ((h h0).2.below hb).wide hb.size⟩
theorem dskI.up {w w' : World} {v : Value} {nS : Nat} {S : Nat → ByteArray} {nC : Nat} {A : Nat → Int} {X : Nat → ByteArray} (h : dskI w w.heap.size v nS S nC A X) (hb : Below w.heap.size w w') : dskI w' w'.heap.size v nS S nC A X := (dskI.below h hb).wide hb.size
set_option maxRecDepth 100000 in
set_option maxHeartbeats 6400000 in
theorem fnExtent_main (a0 : Option Addr) (len0 cap0 : Nat) (a1 : Option Addr) (len1 cap1 : Nat) (w : World) (hl0 : len0 ≤ 1048576) (hl1 : len1 ≤ 1048576) (hb0 : BytesIn w w.heap.size a0 len0) (hb1 : BytesIn w w.heap.size a1 len1) :
    Calls Try.prog 3 #[.slice a0 len0 cap0, .slice a1 len1 cap1] w fun e w' => e = .returned (.bool true) ∧ Below w.heap.size w w' := by
  have h0' : ¬ (1048576 : Int) < (len0 : Int) := by omega
  have h0d : decide ((1048576 : Int) < (len0 : Int)) = false := decide_eq_false h0'
  have h1' : ¬ (1048576 : Int) < (len1 : Int) := by omega
  have h1d : decide ((1048576 : Int) < (len1 : Int)) = false := decide_eq_false h1'
  have HB0 := hide hb0
  have HB1 := hide hb1
  have M0 := hide (Below.refl w.heap.size w)
  clear hb0 hb1
  go_enter Try.func3, Try.ntmps3
  go_wp2_with fail
  refine (drawExtentPatch_any w a0 len0 cap0 hl0 HB0.out).mono ?_
  rintro e w1 ⟨sv, cv, nS, S, nC, A, X, an, tx, rfl, o1, o2, hap, hnS, hnC, hsm, an0, an1, htx, hg1⟩
  obtain ⟨sa, sk, e1⟩ := own_slice o1
  obtain ⟨ca, ck, e2⟩ := own_slice o2
  subst e1 e2
  have y0 : Below w1.heap.size w1 (w1.alloc (.cells #[.slice sa nS sk, .slice ca nC ck] 26)) := (Below.refl _ _).alloc (Nat.le_refl _) _
  have y1 := hide (heap_alloc_new w1 (.cells #[.slice sa nS sk, .slice ca nC ck] 26))
  have B1 := grownBy_toBelow hg1
  have I1 := hide (show dskI (w1.alloc (.cells #[.slice sa nS sk, .slice ca nC ck] 26)) (w1.alloc (.cells #[.slice sa nS sk, .slice ca nC ck] 26)).heap.size (.agg #[.slice sa nS sk, .slice ca nC ck]) nS S nC A X from (own_dskI o1 o2).up y0)
  have M1 := hide (show Below w.heap.size w (w1.alloc (.cells #[.slice sa nS sk, .slice ca nC ck] 26)) from (M0.out.trans (B1.mono M0.out.size)).trans (y0.mono (M0.out.trans (B1.mono M0.out.size)).size))
  clear hg1 o1 o2 hap y0 B1 hsm HB0 h0' h1' h0d h1d
  go_upto_region 4 with fail
  obtain ⟨D, hD⟩ : ∃ D, D = w1.heap.size := ⟨_, rfl⟩
  rw [← hD] at y1 ⊢
  clear hD
  generalize w1.alloc (.cells #[.slice sa nS sk, .slice ca nC ck] 26) = w2 at *
  have d0 : w2.cell? ⟨D, 0, none⟩ = some (.slice sa nS sk) := by have h := y1.out; simp [World.cell?, h]
  have d1 : w2.cell? ⟨D, 1, none⟩ = some (.slice ca nC ck) := by have h := y1.out; simp [World.cell?, h]
  go_wp2_with fail
  refine (imp_extentPatch_all _ nS S nC A X an tx w2 (by omega) (by omega) (by omega) I1.out).mono ?_
  rintro e w3 ⟨xa, xn, xk, ya, yn, yk, c, rfl, hco, hans, hb3⟩
  clear d0 d1
  have n0 : Below w3.heap.size w3 (w3.alloc (.cells #[.slice xa xn xk, .slice ya yn yk, .string ⟨#[]⟩, .int .i64 c] 30)) := (Below.refl _ _).alloc (Nat.le_refl _) _
  have x1 := hide (heap_alloc_new w3 (.cells #[.slice xa xn xk, .slice ya yn yk, .string ⟨#[]⟩, .int .i64 c] 30))
  have hb4 := hb3.trans (n0.mono hb3.size)
  have y3 := hide (blk_belowX y1.out hb4)
  have I3 := hide (I1.out.up hb4)
  have M3 := hide (M1.out.trans (hb4.mono M1.out.size))
  have HCO := hide hco
  have J3 := hide (ptAns.below hans n0)
  clear hco hans hb3 n0 hb4 y1 I1 M1
  go_upto_region 5 with fail
  obtain ⟨E, hE⟩ : ∃ E, E = w3.heap.size := ⟨_, rfl⟩
  rw [← hE] at x1 ⊢
  clear hE
  generalize w3.alloc (.cells #[.slice xa xn xk, .slice ya yn yk, .string ⟨#[]⟩, .int .i64 c] 30) = w4 at *
  refine wp_region_held_drew (S := fun u => u.cell? ⟨D, 0, none⟩ = some (.slice sa nS sk) ∧ u.cell? ⟨D, 1, none⟩ = some (.slice ca nC ck) ∧ u.cell? ⟨E, 3, none⟩ = some (.int .i64 c)) (by kernel_rfl) (by have h := (blk_belowX y3.out (Below.refl w4.heap.size w4).drew); have k := (blk_belowX x1.out (Below.refl w4.heap.size w4).drew); exact ⟨by simp [World.cell?, h], by simp [World.cell?, h], by simp [World.cell?, k]⟩) (fun hHeld => ?_)
  replace y3 := hide (blk_belowX y3.out (Below.refl w4.heap.size w4).drew)
  replace x1 := hide (blk_belowX x1.out (Below.refl w4.heap.size w4).drew)
  replace I3 := hide (I3.out.up (Below.refl w4.heap.size w4).drew)
  replace M3 := hide (M3.out.trans ((Below.refl w4.heap.size w4).drew.mono M3.out.size))
  replace J3 := hide (J3.out.below (Below.refl w4.heap.size w4).drew)
  generalize w4.drew = w5d at *
  refine takeD (i := 0) (v := .pointer (some ⟨E, 3, none⟩)) (some 35) rfl rfl (by kernel_rfl) (by kernel_rfl) (by kernel_rfl) (fun _ _ _ h => h) (Or.inl ⟨by rfl, fun w hSw => by go_simp⟩) hHeld ?_
  simp only [Act.put, List.setIfInBounds_toArray, List.set_cons_zero, List.set_cons_succ]
  refine takeD (i := 1) (v := .int .i64 c) (some 36) rfl rfl (by kernel_rfl) (by kernel_rfl) (by kernel_rfl) (fun _ _ _ h => h) (Or.inl ⟨by rfl, fun w hSw => by obtain ⟨s0, s1, s2⟩ := hSw; go_simp⟩) hHeld ?_
  simp only [Act.put, List.setIfInBounds_toArray, List.set_cons_zero, List.set_cons_succ]
  refine takeD (i := 2) (v := .agg #[.slice sa nS sk, .slice ca nC ck]) (some 37) rfl rfl (by kernel_rfl) (by kernel_rfl) (by kernel_rfl) (fun _ _ _ h => h) (Or.inl ⟨by rfl, fun w hSw => by obtain ⟨s0, s1, s2⟩ := hSw; go_simp⟩) hHeld ?_
  simp only [Act.put, List.setIfInBounds_toArray, List.set_cons_zero, List.set_cons_succ]
  refine takeD (i := 3) (v := .int .i64 an) (some 38) rfl rfl (by kernel_rfl) (by kernel_rfl) (by kernel_rfl) (fun _ _ _ h => h) (Or.inl ⟨by rfl, fun w hSw => by go_simp⟩) hHeld ?_
  simp only [Act.put, List.setIfInBounds_toArray, List.set_cons_zero, List.set_cons_succ]
  refine takeD (i := 4) (v := .string tx) (some 39) rfl rfl (by kernel_rfl) (by kernel_rfl) (by kernel_rfl) (fun _ _ _ h => h) (Or.inl ⟨by rfl, fun w hSw => by go_simp⟩) hHeld ?_
  simp only [Act.put, List.setIfInBounds_toArray, List.set_cons_zero, List.set_cons_succ]
  refine wpAnyH_ready (rs := [5]) (by kernel_rfl) (by simp) ?_
  refine AllReadyH.cons rfl (fun KK hK => ?_) AllReadyH.nil
  go_simp
  refine (spec_extentPatch_all _ nS S nC A X an tx _ (by omega) (by omega) (by omega) I3.out).mono ?_
  rintro e w5 ⟨s6, c6, c2, rfl, hc2, hb5⟩
  obtain rfl := ptCode_one HCO.out hc2
  replace y3 := hide (blk_belowX y3.out hb5)
  replace x1 := hide (blk_belowX x1.out hb5)
  replace I3 := hide (I3.out.up hb5)
  replace M3 := hide (M3.out.trans (hb5.mono M3.out.size))
  replace J3 := hide (J3.out.below hb5)
  clear hc2 hb5
  go_wp2_with fail
  refine hK.out _ _ (by have h := y3.out; have k := x1.out; exact ⟨by simp [World.cell?, h], by simp [World.cell?, h], by simp [World.cell?, k]⟩) (fun hHeld => ?_)
  clear hK KK
  refine takeD (i := 6) (v := .int .i64 c) (some 41) rfl rfl (by kernel_rfl) (by kernel_rfl) (by kernel_rfl) (fun _ _ _ h => h) (Or.inl ⟨by rfl, fun w hSw => by first | exact field_xcode _ _ _ _ _ | (go_simp; rw [field_xcode]; rfl)⟩) hHeld ?_
  simp only [Act.put, List.setIfInBounds_toArray, List.set_cons_zero, List.set_cons_succ]
  refine takeD (i := 7) (v := .bool false) (some 42) rfl rfl (by kernel_rfl) (by kernel_rfl) (by kernel_rfl) (fun _ _ _ h => h) (Or.inl ⟨by rfl, fun w hSw => by go_simp⟩) hHeld ?_
  simp only [Act.put, List.setIfInBounds_toArray, List.set_cons_zero, List.set_cons_succ]
  refine wpAnyH_done (by kernel_rfl) ?_ _
  go_upto_region 7 with fail
  by_cases hc : c = 0
  · subst hc
    obtain ⟨k1, j1⟩ := J3.out (by first | rfl | trivial)
    subst k1
    obtain ⟨hok, hr, hf⟩ : dskOk xn S nC A X ∧ (0 ≤ an ∧ an ≤ 64 * (xn : Int) - (tx.size : Int)) ∧ nC + touchN an.toNat tx.size ≤ 400 := by
      rcases HCO.out with ⟨h, _⟩ | ⟨h, _⟩ | ⟨h, _⟩ | ⟨_, h1, h2, h3⟩
      · cases h
      · cases h
      · cases h
      · exact ⟨h1, h2, h3⟩
    obtain ⟨p0, rfl⟩ := Int.eq_ofNat_of_zero_le hr.1
    have ep : (p0 : Int).toNat = p0 := Int.toNat_natCast p0
    rw [ep] at j1 hf
    have hfit : p0 + tx.size ≤ 64 * xn := by omega
    have hok2 := dskOk_pat (flS S A X (fun _ => true) nC) p0 tx hok hfit hf
    obtain ⟨N, hN⟩ : ∃ N, N = 64 * xn := ⟨_, rfl⟩
    have hNw : IntKind.i64.wrap ((xn : Int) * 64) = (N : Int) := by simp only [IntKind.wrap_i64]; omega
    have hNi : (xn : Int) * 64 = (N : Int) := by omega
    have hNb : (N : Int) ≤ 384 := by omega
    have hx : extOk ((0 : Nat) : Int) ((N : Nat) : Int) (xn : Int) := ⟨by omega, by omega, by omega, by omega, by omega, by rw [Int.toNat_natCast]; omega⟩
    have SR := fun (u : World) (h : dskI u u.heap.size (.agg #[.slice sa xn sk, .slice ca nC ck]) xn S nC A X) => spec_extentRead_ok _ xn S nC A X 0 N u hok hx h
    have IR := fun (u : World) (h : dskI u u.heap.size (.agg #[.slice xa xn xk, .slice ya yn yk]) xn S (nC + touchN p0 tx.size) (wrA A nC ((p0 / 64 : Nat) : Int)) (patX X nC (flS S A X (fun _ => true) nC) p0 tx)) => imp_extentRead_ok _ xn S _ _ _ 0 N u hok2 hx h
    rw [show 64 * 0 = 0 from rfl] at SR IR
    have hpt := pat_text S A X nC p0 N tx (by omega)
    obtain ⟨TW, hTW⟩ : ∃ T : ByteArray, T = ⟨(dL (flS S A X (fun _ => true) nC) 0 N).toArray⟩ := ⟨_, rfl⟩
    have hTz : TW.size = N := by rw [hTW]; exact dL_size _ _ _
    rw [← hTW] at SR hpt
    obtain ⟨TN, hTN⟩ : ∃ T : ByteArray, T = ⟨(dL (flS S (wrA A nC ((p0 / 64 : Nat) : Int)) (patX X nC (flS S A X (fun _ => true) nC) p0 tx) (fun _ => true) (nC + touchN p0 tx.size)) 0 N).toArray⟩ := ⟨_, rfl⟩
    rw [← hTN] at IR hpt
    obtain ⟨P1, hP1⟩ : ∃ T : ByteArray, T = TW.extract 0 p0 := ⟨_, rfl⟩
    obtain ⟨P2, hP2⟩ : ∃ T : ByteArray, T = TW.extract (p0 + tx.size) N := ⟨_, rfl⟩
    rw [← hP1, ← hP2] at hpt
    have hz1 : P1.size ≤ 384 := by rw [hP1, ByteArray.size_extract]; omega
    have hz2 : P2.size ≤ 384 := by rw [hP2, ByteArray.size_extract]; omega
    obtain ⟨P3, hP3⟩ : ∃ T : ByteArray, P1 ++ tx = T := ⟨_, rfl⟩
    have hz3 : P3.size ≤ 600 := by rw [← hP3, ByteArray.size_append]; omega
    rw [hP3] at hpt
    replace hpt := hpt.symm
    have hsl1 := fun W => (show (Instr.slice 9 (.string TW) none (some (.int .i64 (p0 : Int))) none).run Try.prog W = .ok (.string P1) W by rw [run_toW W 9 TW p0 Try.underlying9 (by omega), hP1])
    have hsl2 := fun W => (show (Instr.slice 9 (.string TW) (some (.int .i64 ((p0 : Int) + (tx.size : Int)))) none none).run Try.prog W = .ok (.string P2) W by rw [show ((p0 : Int) + (tx.size : Int)) = ((p0 + tx.size : Nat) : Int) by omega, run_restW W 9 TW (p0 + tx.size) Try.underlying9 (by omega), hP2, hTz])
    obtain ⟨pn, hpn⟩ : ∃ p : Nat, p = p0 + tx.size := ⟨_, rfl⟩
    have hpi : (p0 : Int) + (tx.size : Int) = (pn : Int) := by omega
    rw [hpi] at hsl2
    have hpw : IntKind.i64.wrap ((p0 : Int) + (tx.size : Int)) = (pn : Int) := by simp only [IntKind.wrap_i64]; omega
    have hpnb : (pn : Int) ≤ 600 := by omega
    have hpw2 : IntKind.i64.wrap (pn : Int) = (pn : Int) := by simp only [IntKind.wrap_i64]; omega
    have hp0b : (p0 : Int) ≤ 600 := by omega
    have tt : (TN.toList == TN.toList) = true := str_eq rfl
    have ft1 := fun W => field_xtext (.slice none 0 0) (.slice none 0 0) TW 0 W
    have ft2 := fun W => field_xtext (.slice none 0 0) (.slice none 0 0) TN 0 W
    have SRh := hide SR
    have IRh := hide IR
    have OK2 := hide hok2
    have JJ := hide j1
    have SLh := hide (And.intro hsl1 hsl2)
    have hn6 := hok.1
    clear SR IR hok2 j1 J3 HCO hx hTW hTN hP1 hP2 hpn hN hr hf hok ep hsl1 hsl2 hTz hfit
    have e3 : w5.cell? ⟨E, 3, none⟩ = some (.int .i64 0) := by have h := x1.out; simp [World.cell?, h]
    have d0 : w5.cell? ⟨D, 0, none⟩ = some (.slice sa xn sk) := by have h := y3.out; simp [World.cell?, h]
    have d1 : w5.cell? ⟨D, 1, none⟩ = some (.slice ca nC ck) := by have h := y3.out; simp [World.cell?, h]
    go_wp2_with fail
    refine (SRh.out w5 I3.out).mono ?_
    rintro e w6 ⟨rfl, hb6⟩
    clear e3 d0 d1
    replace x1 := hide (blk_belowX x1.out hb6)
    replace M3 := hide (M3.out.trans (hb6.mono M3.out.size))
    replace JJ := hide (JJ.out.up hb6)
    clear hb6 I3 y3 SRh
    have e0 : w6.cell? ⟨E, 0, none⟩ = some (.slice xa xn xk) := by have h := x1.out; simp [World.cell?, h]
    have e1 : w6.cell? ⟨E, 1, none⟩ = some (.slice ya yn yk) := by have h := x1.out; simp [World.cell?, h]
    go_wp2_with fail
    refine (IRh.out w6 JJ.out).mono ?_
    rintro e w7 ⟨rfl, hb7⟩
    clear e0 e1
    replace x1 := hide (blk_belowX x1.out hb7)
    replace M3 := hide (M3.out.trans (hb7.mono M3.out.size))
    replace JJ := hide (JJ.out.up hb7)
    clear hb7 IRh
    go_wp2_with fail
    clear ft1 ft2 hNw hNi
    refine wp_region_held_drew (S := fun u => u.cell? ⟨E, 0, none⟩ = some (.slice xa xn xk) ∧ u.cell? ⟨E, 1, none⟩ = some (.slice ya yn yk)) (by kernel_rfl) (by have k := (blk_belowX x1.out (Below.refl w7.heap.size w7).drew); exact ⟨by simp [World.cell?, k], by simp [World.cell?, k]⟩) (fun hHeld => ?_)
    replace x1 := hide (blk_belowX x1.out (Below.refl w7.heap.size w7).drew)
    replace M3 := hide (M3.out.trans ((Below.refl w7.heap.size w7).drew.mono M3.out.size))
    replace JJ := hide (JJ.out.up (Below.refl w7.heap.size w7).drew)
    generalize w7.drew = w7d at *
    refine takeD (i := 0) (v := .pointer (some ⟨E, 0, none⟩)) (some 61) rfl rfl (by kernel_rfl) (by kernel_rfl) (by kernel_rfl) (fun _ _ _ h => h) (Or.inl ⟨by rfl, fun w hSw => by go_simp⟩) hHeld ?_
    simp only [Act.put, List.setIfInBounds_toArray, List.set_cons_zero, List.set_cons_succ]
    refine takeD (i := 1) (v := .agg #[.slice xa xn xk, .slice ya yn yk]) (some 62) rfl rfl (by kernel_rfl) (by kernel_rfl) (by kernel_rfl) (fun _ _ _ h => h) (Or.inl ⟨by rfl, fun w hSw => by obtain ⟨s0, s1⟩ := hSw; go_simp⟩) hHeld ?_
    simp only [Act.put, List.setIfInBounds_toArray, List.set_cons_zero, List.set_cons_succ]
    refine wpAnyH_ready (rs := [2]) (by kernel_rfl) (by simp) ?_
    refine AllReadyH.cons rfl (fun KK hK => ?_) AllReadyH.nil
    go_simp
    refine (spec_diskRight _ xn S _ _ _ w7d (by omega) (by have := OK2.out.2.1; omega) JJ.out).mono ?_
    rintro e w8 ⟨⟨r, rfl, hrt⟩, hb8⟩
    obtain rfl := hrt.2 OK2.out
    replace x1 := hide (blk_belowX x1.out hb8)
    replace M3 := hide (M3.out.trans (hb8.mono M3.out.size))
    clear hb8 hrt JJ
    go_wp2_with fail
    refine hK.out _ _ (by have k := x1.out; exact ⟨by simp [World.cell?, k], by simp [World.cell?, k]⟩) (fun hHeld => ?_)
    clear hK KK
    obtain ⟨hsl1, hsl2⟩ := SLh.out
    refine takeD (i := 3) (v := .bool false) (some 64) rfl rfl (by kernel_rfl) (by kernel_rfl) (by kernel_rfl) (fun _ _ _ h => h) (Or.inl ⟨by rfl, fun w hSw => by go_simp⟩) hHeld ?_
    simp only [Act.put, List.setIfInBounds_toArray, List.set_cons_zero, List.set_cons_succ]
    refine takeD (i := 4) (v := .bool false) (some 65) rfl rfl (by kernel_rfl) (by kernel_rfl) (by kernel_rfl) (fun _ _ _ h => h) (Or.inl ⟨by rfl, fun w hSw => by go_simp⟩) hHeld ?_
    simp only [Act.put, List.setIfInBounds_toArray, List.set_cons_zero, List.set_cons_succ]
    refine takeD (i := 5) (v := .string TN) (some 66) rfl rfl (by kernel_rfl) (by kernel_rfl) (by kernel_rfl) (fun _ _ _ h => h) (Or.inl ⟨by rfl, fun w hSw => by go_simp⟩) hHeld ?_
    simp only [Act.put, List.setIfInBounds_toArray, List.set_cons_zero, List.set_cons_succ]
    refine takeD (i := 6) (v := .string TW) (some 67) rfl rfl (by kernel_rfl) (by kernel_rfl) (by kernel_rfl) (fun _ _ _ h => h) (Or.inl ⟨by rfl, fun w hSw => by go_simp⟩) hHeld ?_
    simp only [Act.put, List.setIfInBounds_toArray, List.set_cons_zero, List.set_cons_succ]
    refine takeD (i := 7) (v := .int .i64 (p0 : Int)) (some 68) rfl rfl (by kernel_rfl) (by kernel_rfl) (by kernel_rfl) (fun _ _ _ h => h) (Or.inl ⟨by rfl, fun w hSw => by go_simp⟩) hHeld ?_
    simp only [Act.put, List.setIfInBounds_toArray, List.set_cons_zero, List.set_cons_succ]
    refine takeD (i := 8) (v := .string P1) (some 69) rfl rfl (by kernel_rfl) (by kernel_rfl) (by kernel_rfl) (fun _ _ _ h => h) (Or.inl ⟨by rfl, fun w hSw => by go_simp⟩) hHeld ?_
    simp only [Act.put, List.setIfInBounds_toArray, List.set_cons_zero, List.set_cons_succ]
    refine takeD (i := 9) (v := .string tx) (some 70) rfl rfl (by kernel_rfl) (by kernel_rfl) (by kernel_rfl) (fun _ _ _ h => h) (Or.inl ⟨by rfl, fun w hSw => by go_simp⟩) hHeld ?_
    simp only [Act.put, List.setIfInBounds_toArray, List.set_cons_zero, List.set_cons_succ]
    refine takeD (i := 10) (v := .string P3) (some 71) rfl rfl (by kernel_rfl) (by kernel_rfl) (by kernel_rfl) (fun _ _ _ h => h) (Or.inl ⟨by rfl, fun w hSw => by go_simp; try omega⟩) hHeld ?_
    simp only [Act.put, List.setIfInBounds_toArray, List.set_cons_zero, List.set_cons_succ]
    refine takeD (i := 11) (v := .string TW) (some 72) rfl rfl (by kernel_rfl) (by kernel_rfl) (by kernel_rfl) (fun _ _ _ h => h) (Or.inl ⟨by rfl, fun w hSw => by go_simp⟩) hHeld ?_
    simp only [Act.put, List.setIfInBounds_toArray, List.set_cons_zero, List.set_cons_succ]
    refine takeD (i := 12) (v := .int .i64 (p0 : Int)) (some 73) rfl rfl (by kernel_rfl) (by kernel_rfl) (by kernel_rfl) (fun _ _ _ h => h) (Or.inl ⟨by rfl, fun w hSw => by go_simp⟩) hHeld ?_
    simp only [Act.put, List.setIfInBounds_toArray, List.set_cons_zero, List.set_cons_succ]
    refine takeD (i := 13) (v := .string tx) (some 74) rfl rfl (by kernel_rfl) (by kernel_rfl) (by kernel_rfl) (fun _ _ _ h => h) (Or.inl ⟨by rfl, fun w hSw => by go_simp⟩) hHeld ?_
    simp only [Act.put, List.setIfInBounds_toArray, List.set_cons_zero, List.set_cons_succ]
    refine takeD (i := 14) (v := .int .i64 (tx.size : Int)) (some 75) rfl rfl (by kernel_rfl) (by kernel_rfl) (by kernel_rfl) (fun _ _ _ h => h) (Or.inl ⟨by rfl, fun w hSw => by go_simp⟩) hHeld ?_
    simp only [Act.put, List.setIfInBounds_toArray, List.set_cons_zero, List.set_cons_succ]
    refine takeD (i := 15) (v := .int .i64 (pn : Int)) (some 76) rfl rfl (by kernel_rfl) (by kernel_rfl) (by kernel_rfl) (fun _ _ _ h => h) (Or.inl ⟨by rfl, fun w hSw => by go_simp⟩) hHeld ?_
    simp only [Act.put, List.setIfInBounds_toArray, List.set_cons_zero, List.set_cons_succ]
    refine takeD (i := 16) (v := .string P2) (some 77) rfl rfl (by kernel_rfl) (by kernel_rfl) (by kernel_rfl) (fun _ _ _ h => h) (Or.inl ⟨by rfl, fun w hSw => by go_simp⟩) hHeld ?_
    simp only [Act.put, List.setIfInBounds_toArray, List.set_cons_zero, List.set_cons_succ]
    refine takeD (i := 17) (v := .string TN) (some 78) rfl rfl (by kernel_rfl) (by kernel_rfl) (by kernel_rfl) (fun _ _ _ h => h) (Or.inl ⟨by rfl, fun w hSw => by go_simp; try omega⟩) hHeld ?_
    simp only [Act.put, List.setIfInBounds_toArray, List.set_cons_zero, List.set_cons_succ]
    refine takeD (i := 18) (v := .bool false) (some 79) rfl rfl (by kernel_rfl) (by kernel_rfl) (by kernel_rfl) (fun _ _ _ h => h) (Or.inl ⟨by rfl, fun w hSw => by go_simp⟩) hHeld ?_
    simp only [Act.put, List.setIfInBounds_toArray, List.set_cons_zero, List.set_cons_succ]
    refine takeD (i := 19) (v := .bool false) (some 80) rfl rfl (by kernel_rfl) (by kernel_rfl) (by kernel_rfl) (fun _ _ _ h => h) (Or.inl ⟨by rfl, fun w hSw => by go_simp⟩) hHeld ?_
    simp only [Act.put, List.setIfInBounds_toArray, List.set_cons_zero, List.set_cons_succ]
    refine wpAnyH_done (by kernel_rfl) ?_ _
    clear hsl1 hsl2 SLh tt hpt hP3 x1 OK2
    go_wp2_with fail
    refine (drawExtentWrite_any w8 a1 len1 cap1 hl1 (HB1.out.lowD M3.out)).mono ?_
    rintro e rw1 ⟨sv, cv, rnS, rS, rnC, rA, rX, ran, rtx, rfl, o1, o2, hap, rhnS, rhnC, hsm, ran0, ran1, rhtx, hg1⟩
    obtain ⟨rsa, rsk, e1⟩ := own_slice o1
    obtain ⟨rca, rck, e2⟩ := own_slice o2
    subst e1 e2
    have y0 : Below rw1.heap.size rw1 (rw1.alloc (.cells #[.slice rsa rnS rsk, .slice rca rnC rck] 26)) := (Below.refl _ _).alloc (Nat.le_refl _) _
    have ry1 := hide (heap_alloc_new rw1 (.cells #[.slice rsa rnS rsk, .slice rca rnC rck] 26))
    have B1 := grownBy_toBelow hg1
    have rI1 := hide (show dskI (rw1.alloc (.cells #[.slice rsa rnS rsk, .slice rca rnC rck] 26)) (rw1.alloc (.cells #[.slice rsa rnS rsk, .slice rca rnC rck] 26)).heap.size (.agg #[.slice rsa rnS rsk, .slice rca rnC rck]) rnS rS rnC rA rX from (own_dskI o1 o2).up y0)
    have rM1 := hide (show Below w.heap.size w (rw1.alloc (.cells #[.slice rsa rnS rsk, .slice rca rnC rck] 26)) from (M3.out.trans (B1.mono M3.out.size)).trans (y0.mono (M3.out.trans (B1.mono M3.out.size)).size))
    clear hg1 o1 o2 hap y0 B1 hsm 
    go_upto_region 14 with fail
    obtain ⟨rD, hD⟩ : ∃ D, D = rw1.heap.size := ⟨_, rfl⟩
    rw [← hD] at ry1 ⊢
    clear hD
    generalize rw1.alloc (.cells #[.slice rsa rnS rsk, .slice rca rnC rck] 26) = rw2 at *
    have d0 : rw2.cell? ⟨rD, 0, none⟩ = some (.slice rsa rnS rsk) := by have h := ry1.out; simp [World.cell?, h]
    have d1 : rw2.cell? ⟨rD, 1, none⟩ = some (.slice rca rnC rck) := by have h := ry1.out; simp [World.cell?, h]
    go_wp2_with fail
    refine (imp_extentWrite_all _ rnS rS rnC rA rX ran rtx rw2 (by omega) (by omega) (by omega) rI1.out).mono ?_
    rintro e rw3 ⟨rxa, rxn, rxk, rya, ryn, ryk, rc, rfl, hco, hans, hb3⟩
    clear d0 d1
    have n0 : Below rw3.heap.size rw3 (rw3.alloc (.cells #[.slice rxa rxn rxk, .slice rya ryn ryk, .string ⟨#[]⟩, .int .i64 rc] 30)) := (Below.refl _ _).alloc (Nat.le_refl _) _
    have rx1 := hide (heap_alloc_new rw3 (.cells #[.slice rxa rxn rxk, .slice rya ryn ryk, .string ⟨#[]⟩, .int .i64 rc] 30))
    have hb4 := hb3.trans (n0.mono hb3.size)
    have ry3 := hide (blk_belowX ry1.out hb4)
    have rI3 := hide (rI1.out.up hb4)
    have rM3 := hide (rM1.out.trans (hb4.mono rM1.out.size))
    have rHCO := hide hco
    have rJ3 := hide (wrAns.below hans n0)
    clear hco hans hb3 n0 hb4 ry1 rI1 rM1
    go_upto_region 15 with fail
    obtain ⟨rE, hE⟩ : ∃ E, E = rw3.heap.size := ⟨_, rfl⟩
    rw [← hE] at rx1 ⊢
    clear hE
    generalize rw3.alloc (.cells #[.slice rxa rxn rxk, .slice rya ryn ryk, .string ⟨#[]⟩, .int .i64 rc] 30) = rw4 at *
    by_cases hrc : rc = 0
    · subst hrc
      refine wp_region_held_drew (S := fun u => u.cell? ⟨rD, 0, none⟩ = some (.slice rsa rnS rsk) ∧ u.cell? ⟨rD, 1, none⟩ = some (.slice rca rnC rck) ∧ u.cell? ⟨rE, 3, none⟩ = some (.int .i64 0)) (by kernel_rfl) (by have h := (blk_belowX ry3.out (Below.refl rw4.heap.size rw4).drew); have k := (blk_belowX rx1.out (Below.refl rw4.heap.size rw4).drew); exact ⟨by simp [World.cell?, h], by simp [World.cell?, h], by simp [World.cell?, k]⟩) (fun hHeld => ?_)
      replace ry3 := hide (blk_belowX ry3.out (Below.refl rw4.heap.size rw4).drew)
      replace rx1 := hide (blk_belowX rx1.out (Below.refl rw4.heap.size rw4).drew)
      replace rI3 := hide (rI3.out.up (Below.refl rw4.heap.size rw4).drew)
      replace rM3 := hide (rM3.out.trans ((Below.refl rw4.heap.size rw4).drew.mono rM3.out.size))
      replace rJ3 := hide (rJ3.out.below (Below.refl rw4.heap.size rw4).drew)
      generalize rw4.drew = rw5d at *
      refine takeD (i := 0) (v := .pointer (some ⟨rE, 3, none⟩)) (some 91) rfl rfl (by kernel_rfl) (by kernel_rfl) (by kernel_rfl) (fun _ _ _ h => h) (Or.inl ⟨by rfl, fun w hSw => by go_simp⟩) hHeld ?_
      simp only [Act.put, List.setIfInBounds_toArray, List.set_cons_zero, List.set_cons_succ]
      refine takeD (i := 1) (v := .int .i64 0) (some 92) rfl rfl (by kernel_rfl) (by kernel_rfl) (by kernel_rfl) (fun _ _ _ h => h) (Or.inl ⟨by rfl, fun w hSw => by obtain ⟨s0, s1, s2⟩ := hSw; go_simp⟩) hHeld ?_
      simp only [Act.put, List.setIfInBounds_toArray, List.set_cons_zero, List.set_cons_succ]
      refine takeD (i := 2) (v := .agg #[.slice rsa rnS rsk, .slice rca rnC rck]) (some 93) rfl rfl (by kernel_rfl) (by kernel_rfl) (by kernel_rfl) (fun _ _ _ h => h) (Or.inl ⟨by rfl, fun w hSw => by obtain ⟨s0, s1, s2⟩ := hSw; go_simp⟩) hHeld ?_
      simp only [Act.put, List.setIfInBounds_toArray, List.set_cons_zero, List.set_cons_succ]
      refine takeD (i := 3) (v := .int .i64 ran) (some 94) rfl rfl (by kernel_rfl) (by kernel_rfl) (by kernel_rfl) (fun _ _ _ h => h) (Or.inl ⟨by rfl, fun w hSw => by go_simp⟩) hHeld ?_
      simp only [Act.put, List.setIfInBounds_toArray, List.set_cons_zero, List.set_cons_succ]
      refine takeD (i := 4) (v := .string rtx) (some 95) rfl rfl (by kernel_rfl) (by kernel_rfl) (by kernel_rfl) (fun _ _ _ h => h) (Or.inl ⟨by rfl, fun w hSw => by go_simp⟩) hHeld ?_
      simp only [Act.put, List.setIfInBounds_toArray, List.set_cons_zero, List.set_cons_succ]
      refine wpAnyH_ready (rs := [5]) (by kernel_rfl) (by simp) ?_
      refine AllReadyH.cons rfl (fun KK hK => ?_) AllReadyH.nil
      go_simp
      refine (spec_extentWrite_all _ rnS rS rnC rA rX ran rtx _ (by omega) (by omega) (by omega) rI3.out).mono ?_
      rintro e rw5 ⟨s6, c6, c2, rfl, hc2, hb5⟩
      obtain rfl := exCode_one rHCO.out hc2
      replace ry3 := hide (blk_belowX ry3.out hb5)
      replace rx1 := hide (blk_belowX rx1.out hb5)
      replace rI3 := hide (rI3.out.up hb5)
      replace rM3 := hide (rM3.out.trans (hb5.mono rM3.out.size))
      replace rJ3 := hide (rJ3.out.below hb5)
      clear hc2 hb5
      go_wp2_with fail
      refine hK.out _ _ (by have h := ry3.out; have k := rx1.out; exact ⟨by simp [World.cell?, h], by simp [World.cell?, h], by simp [World.cell?, k]⟩) (fun hHeld => ?_)
      clear hK KK
      refine takeD (i := 6) (v := .int .i64 0) (some 97) rfl rfl (by kernel_rfl) (by kernel_rfl) (by kernel_rfl) (fun _ _ _ h => h) (Or.inl ⟨by rfl, fun w hSw => by first | exact field_xcode _ _ _ _ _ | (go_simp; rw [field_xcode]; rfl)⟩) hHeld ?_
      simp only [Act.put, List.setIfInBounds_toArray, List.set_cons_zero, List.set_cons_succ]
      refine takeD (i := 7) (v := .bool false) (some 98) rfl rfl (by kernel_rfl) (by kernel_rfl) (by kernel_rfl) (fun _ _ _ h => h) (Or.inl ⟨by rfl, fun w hSw => by go_simp⟩) hHeld ?_
      simp only [Act.put, List.setIfInBounds_toArray, List.set_cons_zero, List.set_cons_succ]
      refine takeD (i := 8) (v := .bool false) (some 99) rfl rfl (by kernel_rfl) (by kernel_rfl) (by kernel_rfl) (fun _ _ _ h => h) (Or.inl ⟨by rfl, fun w hSw => by go_simp⟩) hHeld ?_
      simp only [Act.put, List.setIfInBounds_toArray, List.set_cons_zero, List.set_cons_succ]
      refine takeD (i := 9) (v := .pointer (some ⟨rE, 3, none⟩)) (some 100) rfl rfl (by kernel_rfl) (by kernel_rfl) (by kernel_rfl) (fun _ _ _ h => h) (Or.inl ⟨by rfl, fun w hSw => by go_simp⟩) hHeld ?_
      simp only [Act.put, List.setIfInBounds_toArray, List.set_cons_zero, List.set_cons_succ]
      refine takeD (i := 10) (v := .int .i64 0) (some 101) rfl rfl (by kernel_rfl) (by kernel_rfl) (by kernel_rfl) (fun _ _ _ h => h) (Or.inl ⟨by rfl, fun w hSw => by obtain ⟨s0, s1, s2⟩ := hSw; go_simp⟩) hHeld ?_
      simp only [Act.put, List.setIfInBounds_toArray, List.set_cons_zero, List.set_cons_succ]
      refine takeD (i := 11) (v := .bool false) (some 102) rfl rfl (by kernel_rfl) (by kernel_rfl) (by kernel_rfl) (fun _ _ _ h => h) (Or.inl ⟨by rfl, fun w hSw => by go_simp⟩) hHeld ?_
      simp only [Act.put, List.setIfInBounds_toArray, List.set_cons_zero, List.set_cons_succ]
      refine takeD (i := 12) (v := .bool false) (some 103) rfl rfl (by kernel_rfl) (by kernel_rfl) (by kernel_rfl) (fun _ _ _ h => h) (Or.inl ⟨by rfl, fun w hSw => by go_simp⟩) hHeld ?_
      simp only [Act.put, List.setIfInBounds_toArray, List.set_cons_zero, List.set_cons_succ]
      refine wpAnyH_done (by kernel_rfl) ?_ _
      go_upto_region 17 with fail
      obtain ⟨k1, j1⟩ := rJ3.out (by first | rfl | trivial)
      subst k1
      obtain ⟨hok, hr, hf⟩ : dskOk rxn rS rnC rA rX ∧ (0 ≤ ran ∧ ran ≤ (rxn : Int) - (manyW rtx : Int)) ∧ (rnC : Int) + (manyW rtx : Int) ≤ 400 := by
        rcases rHCO.out with ⟨_, h⟩ | ⟨_, ⟨h, _⟩ | ⟨h, _⟩ | ⟨h, _⟩ | ⟨_, h1, h2, h3⟩⟩
        · cases h
        · cases h
        · cases h
        · cases h
        · exact ⟨h1, h2, h3⟩
      obtain ⟨pk, rfl⟩ := Int.eq_ofNat_of_zero_le hr.1
      have hok2 := dskOk_wr pk rtx hok hr.2 (by omega)
      have hn6 := hok.1
      have hx : extOk (pk : Int) ((rtx.size : Nat) : Int) (rxn : Int) := ⟨by omega, by omega, by omega, by omega, by omega, by have h9 := hr.2; unfold manyW at h9; rw [Int.toNat_natCast]; exact h9⟩
      have RD := hide (imp_extentRead_ok _ rxn rS _ _ _ pk rtx.size rw5 hok2 hx j1)
      rw [wr_text] at RD
      have e0 : rw5.cell? ⟨rE, 0, none⟩ = some (.slice rxa rxn rxk) := by have h := rx1.out; simp [World.cell?, h]
      have e1 : rw5.cell? ⟨rE, 1, none⟩ = some (.slice rya ryn ryk) := by have h := rx1.out; simp [World.cell?, h]
      go_wp2_with fail
      refine RD.out.mono ?_
      rintro e rw6 ⟨rfl, hb6⟩
      have rM6 := hide (rM3.out.trans (hb6.mono rM3.out.size))
      clear e0 e1 hb6 RD j1 hok hok2 hx hr hf rJ3 rx1 ry3 rI3
      have tt : (rtx.toList == rtx.toList) = true := str_eq rfl
      have n0 : Below rw6.heap.size rw6 (rw6.alloc (.cells #[.slice none 0 0, .slice none 0 0, .string rtx, .int .i64 0] 30)) := (Below.refl _ _).alloc (Nat.le_refl _) _
      have rM7 := hide (rM6.out.trans (n0.mono rM6.out.size))
      clear n0
      have q1 := hide (heap_alloc_new rw6 (.cells #[.slice none 0 0, .slice none 0 0, .string rtx, .int .i64 0] 30))
      go_upto_region 18 with fail
      generalize rw6.alloc (.cells #[.slice none 0 0, .slice none 0 0, .string rtx, .int .i64 0] 30) = rw7 at *
      have z2 : rw7.cell? ⟨rw6.heap.size, 2, none⟩ = some (.string rtx) := by have h := q1.out; simp [World.cell?, h]
      have z3 : rw7.cell? ⟨rw6.heap.size, 3, none⟩ = some (.int .i64 0) := by have h := q1.out; simp [World.cell?, h]
      go_wp2_with fail
      refine (imp_sectorsOf (rtx.size : Int) rw7).mono ?_
      rintro e rw8 ⟨rfl, rfl⟩
      generalize hsq : secsOf (rtx.size : Int) = sq
      have HSQ := hide hsq
      clear hsq
      go_wp2_with fail
      refine (spec_sectorsOf (rtx.size : Int) rw8).mono ?_
      rintro e rw9 ⟨rfl, rfl⟩
      rw [HSQ.out]
      go_wp2_with fail
      go_ret
      exact ⟨rfl, rM7.out⟩
    · have drc : (rc != 0) = true := by simp [hrc]
      have drc2 : (rc == 0) = false := by simp [hrc]
      refine wp_region_held_drew (S := fun u => u.cell? ⟨rD, 0, none⟩ = some (.slice rsa rnS rsk) ∧ u.cell? ⟨rD, 1, none⟩ = some (.slice rca rnC rck) ∧ u.cell? ⟨rE, 3, none⟩ = some (.int .i64 rc)) (by kernel_rfl) (by have h := (blk_belowX ry3.out (Below.refl rw4.heap.size rw4).drew); have k := (blk_belowX rx1.out (Below.refl rw4.heap.size rw4).drew); exact ⟨by simp [World.cell?, h], by simp [World.cell?, h], by simp [World.cell?, k]⟩) (fun hHeld => ?_)
      replace ry3 := hide (blk_belowX ry3.out (Below.refl rw4.heap.size rw4).drew)
      replace rx1 := hide (blk_belowX rx1.out (Below.refl rw4.heap.size rw4).drew)
      replace rI3 := hide (rI3.out.up (Below.refl rw4.heap.size rw4).drew)
      replace rM3 := hide (rM3.out.trans ((Below.refl rw4.heap.size rw4).drew.mono rM3.out.size))
      replace rJ3 := hide (rJ3.out.below (Below.refl rw4.heap.size rw4).drew)
      generalize rw4.drew = rw5d at *
      refine takeD (i := 0) (v := .pointer (some ⟨rE, 3, none⟩)) (some 91) rfl rfl (by kernel_rfl) (by kernel_rfl) (by kernel_rfl) (fun _ _ _ h => h) (Or.inl ⟨by rfl, fun w hSw => by go_simp⟩) hHeld ?_
      simp only [Act.put, List.setIfInBounds_toArray, List.set_cons_zero, List.set_cons_succ]
      refine takeD (i := 1) (v := .int .i64 rc) (some 92) rfl rfl (by kernel_rfl) (by kernel_rfl) (by kernel_rfl) (fun _ _ _ h => h) (Or.inl ⟨by rfl, fun w hSw => by obtain ⟨s0, s1, s2⟩ := hSw; go_simp⟩) hHeld ?_
      simp only [Act.put, List.setIfInBounds_toArray, List.set_cons_zero, List.set_cons_succ]
      refine takeD (i := 2) (v := .agg #[.slice rsa rnS rsk, .slice rca rnC rck]) (some 93) rfl rfl (by kernel_rfl) (by kernel_rfl) (by kernel_rfl) (fun _ _ _ h => h) (Or.inl ⟨by rfl, fun w hSw => by obtain ⟨s0, s1, s2⟩ := hSw; go_simp⟩) hHeld ?_
      simp only [Act.put, List.setIfInBounds_toArray, List.set_cons_zero, List.set_cons_succ]
      refine takeD (i := 3) (v := .int .i64 ran) (some 94) rfl rfl (by kernel_rfl) (by kernel_rfl) (by kernel_rfl) (fun _ _ _ h => h) (Or.inl ⟨by rfl, fun w hSw => by go_simp⟩) hHeld ?_
      simp only [Act.put, List.setIfInBounds_toArray, List.set_cons_zero, List.set_cons_succ]
      refine takeD (i := 4) (v := .string rtx) (some 95) rfl rfl (by kernel_rfl) (by kernel_rfl) (by kernel_rfl) (fun _ _ _ h => h) (Or.inl ⟨by rfl, fun w hSw => by go_simp⟩) hHeld ?_
      simp only [Act.put, List.setIfInBounds_toArray, List.set_cons_zero, List.set_cons_succ]
      refine wpAnyH_ready (rs := [5]) (by kernel_rfl) (by simp) ?_
      refine AllReadyH.cons rfl (fun KK hK => ?_) AllReadyH.nil
      go_simp
      refine (spec_extentWrite_all _ rnS rS rnC rA rX ran rtx _ (by omega) (by omega) (by omega) rI3.out).mono ?_
      rintro e rw5 ⟨s6, c6, c2, rfl, hc2, hb5⟩
      obtain rfl := exCode_one rHCO.out hc2
      replace ry3 := hide (blk_belowX ry3.out hb5)
      replace rx1 := hide (blk_belowX rx1.out hb5)
      replace rI3 := hide (rI3.out.up hb5)
      replace rM3 := hide (rM3.out.trans (hb5.mono rM3.out.size))
      replace rJ3 := hide (rJ3.out.below hb5)
      clear hc2 hb5
      go_wp2_with fail
      refine hK.out _ _ (by have h := ry3.out; have k := rx1.out; exact ⟨by simp [World.cell?, h], by simp [World.cell?, h], by simp [World.cell?, k]⟩) (fun hHeld => ?_)
      clear hK KK
      refine takeD (i := 6) (v := .int .i64 rc) (some 97) rfl rfl (by kernel_rfl) (by kernel_rfl) (by kernel_rfl) (fun _ _ _ h => h) (Or.inl ⟨by rfl, fun w hSw => by first | exact field_xcode _ _ _ _ _ | (go_simp; rw [field_xcode]; rfl)⟩) hHeld ?_
      simp only [Act.put, List.setIfInBounds_toArray, List.set_cons_zero, List.set_cons_succ]
      refine takeD (i := 7) (v := .bool false) (some 98) rfl rfl (by kernel_rfl) (by kernel_rfl) (by kernel_rfl) (fun _ _ _ h => h) (Or.inl ⟨by rfl, fun w hSw => by go_simp⟩) hHeld ?_
      simp only [Act.put, List.setIfInBounds_toArray, List.set_cons_zero, List.set_cons_succ]
      refine takeD (i := 8) (v := .bool false) (some 99) rfl rfl (by kernel_rfl) (by kernel_rfl) (by kernel_rfl) (fun _ _ _ h => h) (Or.inl ⟨by rfl, fun w hSw => by go_simp⟩) hHeld ?_
      simp only [Act.put, List.setIfInBounds_toArray, List.set_cons_zero, List.set_cons_succ]
      refine takeD (i := 9) (v := .pointer (some ⟨rE, 3, none⟩)) (some 100) rfl rfl (by kernel_rfl) (by kernel_rfl) (by kernel_rfl) (fun _ _ _ h => h) (Or.inl ⟨by rfl, fun w hSw => by go_simp⟩) hHeld ?_
      simp only [Act.put, List.setIfInBounds_toArray, List.set_cons_zero, List.set_cons_succ]
      refine takeD (i := 10) (v := .int .i64 rc) (some 101) rfl rfl (by kernel_rfl) (by kernel_rfl) (by kernel_rfl) (fun _ _ _ h => h) (Or.inl ⟨by rfl, fun w hSw => by obtain ⟨s0, s1, s2⟩ := hSw; go_simp⟩) hHeld ?_
      simp only [Act.put, List.setIfInBounds_toArray, List.set_cons_zero, List.set_cons_succ]
      refine takeD (i := 11) (v := .bool true) (some 102) rfl rfl (by kernel_rfl) (by kernel_rfl) (by kernel_rfl) (fun _ _ _ h => h) (Or.inl ⟨by rfl, fun w hSw => by go_simp⟩) hHeld ?_
      simp only [Act.put, List.setIfInBounds_toArray, List.set_cons_zero, List.set_cons_succ]
      refine takeD (i := 12) (v := .bool true) (some 103) rfl rfl (by kernel_rfl) (by kernel_rfl) (by kernel_rfl) (fun _ _ _ h => h) (Or.inl ⟨by rfl, fun w hSw => by go_simp⟩) hHeld ?_
      simp only [Act.put, List.setIfInBounds_toArray, List.set_cons_zero, List.set_cons_succ]
      refine wpAnyH_done (by kernel_rfl) ?_ _
      go_wp2_with fail
      refine wp_region_held_drew (S := fun u => u.cell? ⟨rD, 0, none⟩ = some (.slice rsa rnS rsk) ∧ u.cell? ⟨rD, 1, none⟩ = some (.slice rca rnC rck) ∧ u.cell? ⟨rE, 3, none⟩ = some (.int .i64 rc)) (by kernel_rfl) (by have h := (blk_belowX ry3.out (Below.refl rw5.heap.size rw5).drew); have k := (blk_belowX rx1.out (Below.refl rw5.heap.size rw5).drew); exact ⟨by simp [World.cell?, h], by simp [World.cell?, h], by simp [World.cell?, k]⟩) (fun hHeld => ?_)
      replace ry3 := hide (blk_belowX ry3.out (Below.refl rw5.heap.size rw5).drew)
      replace rx1 := hide (blk_belowX rx1.out (Below.refl rw5.heap.size rw5).drew)
      replace rI3 := hide (rI3.out.up (Below.refl rw5.heap.size rw5).drew)
      replace rM3 := hide (rM3.out.trans ((Below.refl rw5.heap.size rw5).drew.mono rM3.out.size))
      replace rJ3 := hide (rJ3.out.below (Below.refl rw5.heap.size rw5).drew)
      generalize rw5.drew = rw6d at *
      refine takeD (i := 0) (v := .pointer (some ⟨rE, 3, none⟩)) (some 104) rfl rfl (by kernel_rfl) (by kernel_rfl) (by kernel_rfl) (fun _ _ _ h => h) (Or.inl ⟨by rfl, fun w hSw => by go_simp⟩) hHeld ?_
      simp only [Act.put, List.setIfInBounds_toArray, List.set_cons_zero, List.set_cons_succ]
      refine takeD (i := 1) (v := .int .i64 rc) (some 105) rfl rfl (by kernel_rfl) (by kernel_rfl) (by kernel_rfl) (fun _ _ _ h => h) (Or.inl ⟨by rfl, fun w hSw => by obtain ⟨s0, s1, s2⟩ := hSw; go_simp⟩) hHeld ?_
      simp only [Act.put, List.setIfInBounds_toArray, List.set_cons_zero, List.set_cons_succ]
      refine takeD (i := 2) (v := .agg #[.slice rsa rnS rsk, .slice rca rnC rck]) (some 106) rfl rfl (by kernel_rfl) (by kernel_rfl) (by kernel_rfl) (fun _ _ _ h => h) (Or.inl ⟨by rfl, fun w hSw => by obtain ⟨s0, s1, s2⟩ := hSw; go_simp⟩) hHeld ?_
      simp only [Act.put, List.setIfInBounds_toArray, List.set_cons_zero, List.set_cons_succ]
      refine takeD (i := 3) (v := .int .i64 ran) (some 107) rfl rfl (by kernel_rfl) (by kernel_rfl) (by kernel_rfl) (fun _ _ _ h => h) (Or.inl ⟨by rfl, fun w hSw => by go_simp⟩) hHeld ?_
      simp only [Act.put, List.setIfInBounds_toArray, List.set_cons_zero, List.set_cons_succ]
      refine takeD (i := 4) (v := .string rtx) (some 108) rfl rfl (by kernel_rfl) (by kernel_rfl) (by kernel_rfl) (fun _ _ _ h => h) (Or.inl ⟨by rfl, fun w hSw => by go_simp⟩) hHeld ?_
      simp only [Act.put, List.setIfInBounds_toArray, List.set_cons_zero, List.set_cons_succ]
      refine wpAnyH_ready (rs := [5]) (by kernel_rfl) (by simp) ?_
      refine AllReadyH.cons rfl (fun KK hK => ?_) AllReadyH.nil
      go_simp
      refine (spec_extentWrite_all _ rnS rS rnC rA rX ran rtx _ (by omega) (by omega) (by omega) rI3.out).mono ?_
      rintro e rw6 ⟨s6, c6, c2, rfl, hc2, hb5⟩
      obtain rfl := exCode_one rHCO.out hc2
      replace ry3 := hide (blk_belowX ry3.out hb5)
      replace rx1 := hide (blk_belowX rx1.out hb5)
      replace rI3 := hide (rI3.out.up hb5)
      replace rM3 := hide (rM3.out.trans (hb5.mono rM3.out.size))
      replace rJ3 := hide (rJ3.out.below hb5)
      clear hc2 hb5
      go_wp2_with fail
      refine hK.out _ _ (by have h := ry3.out; have k := rx1.out; exact ⟨by simp [World.cell?, h], by simp [World.cell?, h], by simp [World.cell?, k]⟩) (fun hHeld => ?_)
      clear hK KK
      refine takeD (i := 6) (v := .int .i64 rc) (some 110) rfl rfl (by kernel_rfl) (by kernel_rfl) (by kernel_rfl) (fun _ _ _ h => h) (Or.inl ⟨by rfl, fun w hSw => by first | exact field_xcode _ _ _ _ _ | (go_simp; rw [field_xcode]; rfl)⟩) hHeld ?_
      simp only [Act.put, List.setIfInBounds_toArray, List.set_cons_zero, List.set_cons_succ]
      refine takeD (i := 7) (v := .bool true) (some 111) rfl rfl (by kernel_rfl) (by kernel_rfl) (by kernel_rfl) (fun _ _ _ h => h) (Or.inl ⟨by rfl, fun w hSw => by go_simp⟩) hHeld ?_
      simp only [Act.put, List.setIfInBounds_toArray, List.set_cons_zero, List.set_cons_succ]
      refine takeD (i := 8) (v := .bool true) (some 4) rfl rfl (by kernel_rfl) (by kernel_rfl) (by kernel_rfl) (fun _ _ _ h => h) (Or.inl ⟨by rfl, fun w hSw => by go_simp⟩) hHeld ?_
      simp only [Act.put, List.setIfInBounds_toArray, List.set_cons_zero, List.set_cons_succ]
      refine wpAnyH_done (by kernel_rfl) ?_ _
      go_wp2_with fail
      go_ret
      exact ⟨rfl, rM3.out⟩
  · have dc : (c == 0) = false := by simp [hc]
    have e3 : w5.cell? ⟨E, 3, none⟩ = some (.int .i64 c) := by have h := x1.out; simp [World.cell?, h]
    go_wp2_with fail
    refine (drawExtentWrite_any w5 a1 len1 cap1 hl1 (HB1.out.lowD M3.out)).mono ?_
    rintro e rw1 ⟨sv, cv, rnS, rS, rnC, rA, rX, ran, rtx, rfl, o1, o2, hap, rhnS, rhnC, hsm, ran0, ran1, rhtx, hg1⟩
    obtain ⟨rsa, rsk, e1⟩ := own_slice o1
    obtain ⟨rca, rck, e2⟩ := own_slice o2
    subst e1 e2
    have y0 : Below rw1.heap.size rw1 (rw1.alloc (.cells #[.slice rsa rnS rsk, .slice rca rnC rck] 26)) := (Below.refl _ _).alloc (Nat.le_refl _) _
    have ry1 := hide (heap_alloc_new rw1 (.cells #[.slice rsa rnS rsk, .slice rca rnC rck] 26))
    have B1 := grownBy_toBelow hg1
    have rI1 := hide (show dskI (rw1.alloc (.cells #[.slice rsa rnS rsk, .slice rca rnC rck] 26)) (rw1.alloc (.cells #[.slice rsa rnS rsk, .slice rca rnC rck] 26)).heap.size (.agg #[.slice rsa rnS rsk, .slice rca rnC rck]) rnS rS rnC rA rX from (own_dskI o1 o2).up y0)
    have rM1 := hide (show Below w.heap.size w (rw1.alloc (.cells #[.slice rsa rnS rsk, .slice rca rnC rck] 26)) from (M3.out.trans (B1.mono M3.out.size)).trans (y0.mono (M3.out.trans (B1.mono M3.out.size)).size))
    clear hg1 o1 o2 hap y0 B1 hsm 
    go_upto_region 14 with fail
    obtain ⟨rD, hD⟩ : ∃ D, D = rw1.heap.size := ⟨_, rfl⟩
    rw [← hD] at ry1 ⊢
    clear hD
    generalize rw1.alloc (.cells #[.slice rsa rnS rsk, .slice rca rnC rck] 26) = rw2 at *
    have d0 : rw2.cell? ⟨rD, 0, none⟩ = some (.slice rsa rnS rsk) := by have h := ry1.out; simp [World.cell?, h]
    have d1 : rw2.cell? ⟨rD, 1, none⟩ = some (.slice rca rnC rck) := by have h := ry1.out; simp [World.cell?, h]
    go_wp2_with fail
    refine (imp_extentWrite_all _ rnS rS rnC rA rX ran rtx rw2 (by omega) (by omega) (by omega) rI1.out).mono ?_
    rintro e rw3 ⟨rxa, rxn, rxk, rya, ryn, ryk, rc, rfl, hco, hans, hb3⟩
    clear d0 d1
    have n0 : Below rw3.heap.size rw3 (rw3.alloc (.cells #[.slice rxa rxn rxk, .slice rya ryn ryk, .string ⟨#[]⟩, .int .i64 rc] 30)) := (Below.refl _ _).alloc (Nat.le_refl _) _
    have rx1 := hide (heap_alloc_new rw3 (.cells #[.slice rxa rxn rxk, .slice rya ryn ryk, .string ⟨#[]⟩, .int .i64 rc] 30))
    have hb4 := hb3.trans (n0.mono hb3.size)
    have ry3 := hide (blk_belowX ry1.out hb4)
    have rI3 := hide (rI1.out.up hb4)
    have rM3 := hide (rM1.out.trans (hb4.mono rM1.out.size))
    have rHCO := hide hco
    have rJ3 := hide (wrAns.below hans n0)
    clear hco hans hb3 n0 hb4 ry1 rI1 rM1
    go_upto_region 15 with fail
    obtain ⟨rE, hE⟩ : ∃ E, E = rw3.heap.size := ⟨_, rfl⟩
    rw [← hE] at rx1 ⊢
    clear hE
    generalize rw3.alloc (.cells #[.slice rxa rxn rxk, .slice rya ryn ryk, .string ⟨#[]⟩, .int .i64 rc] 30) = rw4 at *
    by_cases hrc : rc = 0
    · subst hrc
      refine wp_region_held_drew (S := fun u => u.cell? ⟨rD, 0, none⟩ = some (.slice rsa rnS rsk) ∧ u.cell? ⟨rD, 1, none⟩ = some (.slice rca rnC rck) ∧ u.cell? ⟨rE, 3, none⟩ = some (.int .i64 0)) (by kernel_rfl) (by have h := (blk_belowX ry3.out (Below.refl rw4.heap.size rw4).drew); have k := (blk_belowX rx1.out (Below.refl rw4.heap.size rw4).drew); exact ⟨by simp [World.cell?, h], by simp [World.cell?, h], by simp [World.cell?, k]⟩) (fun hHeld => ?_)
      replace ry3 := hide (blk_belowX ry3.out (Below.refl rw4.heap.size rw4).drew)
      replace rx1 := hide (blk_belowX rx1.out (Below.refl rw4.heap.size rw4).drew)
      replace rI3 := hide (rI3.out.up (Below.refl rw4.heap.size rw4).drew)
      replace rM3 := hide (rM3.out.trans ((Below.refl rw4.heap.size rw4).drew.mono rM3.out.size))
      replace rJ3 := hide (rJ3.out.below (Below.refl rw4.heap.size rw4).drew)
      generalize rw4.drew = rw5d at *
      refine takeD (i := 0) (v := .pointer (some ⟨rE, 3, none⟩)) (some 91) rfl rfl (by kernel_rfl) (by kernel_rfl) (by kernel_rfl) (fun _ _ _ h => h) (Or.inl ⟨by rfl, fun w hSw => by go_simp⟩) hHeld ?_
      simp only [Act.put, List.setIfInBounds_toArray, List.set_cons_zero, List.set_cons_succ]
      refine takeD (i := 1) (v := .int .i64 0) (some 92) rfl rfl (by kernel_rfl) (by kernel_rfl) (by kernel_rfl) (fun _ _ _ h => h) (Or.inl ⟨by rfl, fun w hSw => by obtain ⟨s0, s1, s2⟩ := hSw; go_simp⟩) hHeld ?_
      simp only [Act.put, List.setIfInBounds_toArray, List.set_cons_zero, List.set_cons_succ]
      refine takeD (i := 2) (v := .agg #[.slice rsa rnS rsk, .slice rca rnC rck]) (some 93) rfl rfl (by kernel_rfl) (by kernel_rfl) (by kernel_rfl) (fun _ _ _ h => h) (Or.inl ⟨by rfl, fun w hSw => by obtain ⟨s0, s1, s2⟩ := hSw; go_simp⟩) hHeld ?_
      simp only [Act.put, List.setIfInBounds_toArray, List.set_cons_zero, List.set_cons_succ]
      refine takeD (i := 3) (v := .int .i64 ran) (some 94) rfl rfl (by kernel_rfl) (by kernel_rfl) (by kernel_rfl) (fun _ _ _ h => h) (Or.inl ⟨by rfl, fun w hSw => by go_simp⟩) hHeld ?_
      simp only [Act.put, List.setIfInBounds_toArray, List.set_cons_zero, List.set_cons_succ]
      refine takeD (i := 4) (v := .string rtx) (some 95) rfl rfl (by kernel_rfl) (by kernel_rfl) (by kernel_rfl) (fun _ _ _ h => h) (Or.inl ⟨by rfl, fun w hSw => by go_simp⟩) hHeld ?_
      simp only [Act.put, List.setIfInBounds_toArray, List.set_cons_zero, List.set_cons_succ]
      refine wpAnyH_ready (rs := [5]) (by kernel_rfl) (by simp) ?_
      refine AllReadyH.cons rfl (fun KK hK => ?_) AllReadyH.nil
      go_simp
      refine (spec_extentWrite_all _ rnS rS rnC rA rX ran rtx _ (by omega) (by omega) (by omega) rI3.out).mono ?_
      rintro e rw5 ⟨s6, c6, c2, rfl, hc2, hb5⟩
      obtain rfl := exCode_one rHCO.out hc2
      replace ry3 := hide (blk_belowX ry3.out hb5)
      replace rx1 := hide (blk_belowX rx1.out hb5)
      replace rI3 := hide (rI3.out.up hb5)
      replace rM3 := hide (rM3.out.trans (hb5.mono rM3.out.size))
      replace rJ3 := hide (rJ3.out.below hb5)
      clear hc2 hb5
      go_wp2_with fail
      refine hK.out _ _ (by have h := ry3.out; have k := rx1.out; exact ⟨by simp [World.cell?, h], by simp [World.cell?, h], by simp [World.cell?, k]⟩) (fun hHeld => ?_)
      clear hK KK
      refine takeD (i := 6) (v := .int .i64 0) (some 97) rfl rfl (by kernel_rfl) (by kernel_rfl) (by kernel_rfl) (fun _ _ _ h => h) (Or.inl ⟨by rfl, fun w hSw => by first | exact field_xcode _ _ _ _ _ | (go_simp; rw [field_xcode]; rfl)⟩) hHeld ?_
      simp only [Act.put, List.setIfInBounds_toArray, List.set_cons_zero, List.set_cons_succ]
      refine takeD (i := 7) (v := .bool false) (some 98) rfl rfl (by kernel_rfl) (by kernel_rfl) (by kernel_rfl) (fun _ _ _ h => h) (Or.inl ⟨by rfl, fun w hSw => by go_simp⟩) hHeld ?_
      simp only [Act.put, List.setIfInBounds_toArray, List.set_cons_zero, List.set_cons_succ]
      refine takeD (i := 8) (v := .bool false) (some 99) rfl rfl (by kernel_rfl) (by kernel_rfl) (by kernel_rfl) (fun _ _ _ h => h) (Or.inl ⟨by rfl, fun w hSw => by go_simp⟩) hHeld ?_
      simp only [Act.put, List.setIfInBounds_toArray, List.set_cons_zero, List.set_cons_succ]
      refine takeD (i := 9) (v := .pointer (some ⟨rE, 3, none⟩)) (some 100) rfl rfl (by kernel_rfl) (by kernel_rfl) (by kernel_rfl) (fun _ _ _ h => h) (Or.inl ⟨by rfl, fun w hSw => by go_simp⟩) hHeld ?_
      simp only [Act.put, List.setIfInBounds_toArray, List.set_cons_zero, List.set_cons_succ]
      refine takeD (i := 10) (v := .int .i64 0) (some 101) rfl rfl (by kernel_rfl) (by kernel_rfl) (by kernel_rfl) (fun _ _ _ h => h) (Or.inl ⟨by rfl, fun w hSw => by obtain ⟨s0, s1, s2⟩ := hSw; go_simp⟩) hHeld ?_
      simp only [Act.put, List.setIfInBounds_toArray, List.set_cons_zero, List.set_cons_succ]
      refine takeD (i := 11) (v := .bool false) (some 102) rfl rfl (by kernel_rfl) (by kernel_rfl) (by kernel_rfl) (fun _ _ _ h => h) (Or.inl ⟨by rfl, fun w hSw => by go_simp⟩) hHeld ?_
      simp only [Act.put, List.setIfInBounds_toArray, List.set_cons_zero, List.set_cons_succ]
      refine takeD (i := 12) (v := .bool false) (some 103) rfl rfl (by kernel_rfl) (by kernel_rfl) (by kernel_rfl) (fun _ _ _ h => h) (Or.inl ⟨by rfl, fun w hSw => by go_simp⟩) hHeld ?_
      simp only [Act.put, List.setIfInBounds_toArray, List.set_cons_zero, List.set_cons_succ]
      refine wpAnyH_done (by kernel_rfl) ?_ _
      go_upto_region 17 with fail
      obtain ⟨k1, j1⟩ := rJ3.out (by first | rfl | trivial)
      subst k1
      obtain ⟨hok, hr, hf⟩ : dskOk rxn rS rnC rA rX ∧ (0 ≤ ran ∧ ran ≤ (rxn : Int) - (manyW rtx : Int)) ∧ (rnC : Int) + (manyW rtx : Int) ≤ 400 := by
        rcases rHCO.out with ⟨_, h⟩ | ⟨_, ⟨h, _⟩ | ⟨h, _⟩ | ⟨h, _⟩ | ⟨_, h1, h2, h3⟩⟩
        · cases h
        · cases h
        · cases h
        · cases h
        · exact ⟨h1, h2, h3⟩
      obtain ⟨pk, rfl⟩ := Int.eq_ofNat_of_zero_le hr.1
      have hok2 := dskOk_wr pk rtx hok hr.2 (by omega)
      have hn6 := hok.1
      have hx : extOk (pk : Int) ((rtx.size : Nat) : Int) (rxn : Int) := ⟨by omega, by omega, by omega, by omega, by omega, by have h9 := hr.2; unfold manyW at h9; rw [Int.toNat_natCast]; exact h9⟩
      have RD := hide (imp_extentRead_ok _ rxn rS _ _ _ pk rtx.size rw5 hok2 hx j1)
      rw [wr_text] at RD
      have e0 : rw5.cell? ⟨rE, 0, none⟩ = some (.slice rxa rxn rxk) := by have h := rx1.out; simp [World.cell?, h]
      have e1 : rw5.cell? ⟨rE, 1, none⟩ = some (.slice rya ryn ryk) := by have h := rx1.out; simp [World.cell?, h]
      go_wp2_with fail
      refine RD.out.mono ?_
      rintro e rw6 ⟨rfl, hb6⟩
      have rM6 := hide (rM3.out.trans (hb6.mono rM3.out.size))
      clear e0 e1 hb6 RD j1 hok hok2 hx hr hf rJ3 rx1 ry3 rI3
      have tt : (rtx.toList == rtx.toList) = true := str_eq rfl
      have n0 : Below rw6.heap.size rw6 (rw6.alloc (.cells #[.slice none 0 0, .slice none 0 0, .string rtx, .int .i64 0] 30)) := (Below.refl _ _).alloc (Nat.le_refl _) _
      have rM7 := hide (rM6.out.trans (n0.mono rM6.out.size))
      clear n0
      have q1 := hide (heap_alloc_new rw6 (.cells #[.slice none 0 0, .slice none 0 0, .string rtx, .int .i64 0] 30))
      go_upto_region 18 with fail
      generalize rw6.alloc (.cells #[.slice none 0 0, .slice none 0 0, .string rtx, .int .i64 0] 30) = rw7 at *
      have z2 : rw7.cell? ⟨rw6.heap.size, 2, none⟩ = some (.string rtx) := by have h := q1.out; simp [World.cell?, h]
      have z3 : rw7.cell? ⟨rw6.heap.size, 3, none⟩ = some (.int .i64 0) := by have h := q1.out; simp [World.cell?, h]
      go_wp2_with fail
      refine (imp_sectorsOf (rtx.size : Int) rw7).mono ?_
      rintro e rw8 ⟨rfl, rfl⟩
      generalize hsq : secsOf (rtx.size : Int) = sq
      have HSQ := hide hsq
      clear hsq
      go_wp2_with fail
      refine (spec_sectorsOf (rtx.size : Int) rw8).mono ?_
      rintro e rw9 ⟨rfl, rfl⟩
      rw [HSQ.out]
      go_wp2_with fail
      go_ret
      exact ⟨rfl, rM7.out⟩
    · have drc : (rc != 0) = true := by simp [hrc]
      have drc2 : (rc == 0) = false := by simp [hrc]
      refine wp_region_held_drew (S := fun u => u.cell? ⟨rD, 0, none⟩ = some (.slice rsa rnS rsk) ∧ u.cell? ⟨rD, 1, none⟩ = some (.slice rca rnC rck) ∧ u.cell? ⟨rE, 3, none⟩ = some (.int .i64 rc)) (by kernel_rfl) (by have h := (blk_belowX ry3.out (Below.refl rw4.heap.size rw4).drew); have k := (blk_belowX rx1.out (Below.refl rw4.heap.size rw4).drew); exact ⟨by simp [World.cell?, h], by simp [World.cell?, h], by simp [World.cell?, k]⟩) (fun hHeld => ?_)
      replace ry3 := hide (blk_belowX ry3.out (Below.refl rw4.heap.size rw4).drew)
      replace rx1 := hide (blk_belowX rx1.out (Below.refl rw4.heap.size rw4).drew)
      replace rI3 := hide (rI3.out.up (Below.refl rw4.heap.size rw4).drew)
      replace rM3 := hide (rM3.out.trans ((Below.refl rw4.heap.size rw4).drew.mono rM3.out.size))
      replace rJ3 := hide (rJ3.out.below (Below.refl rw4.heap.size rw4).drew)
      generalize rw4.drew = rw5d at *
      refine takeD (i := 0) (v := .pointer (some ⟨rE, 3, none⟩)) (some 91) rfl rfl (by kernel_rfl) (by kernel_rfl) (by kernel_rfl) (fun _ _ _ h => h) (Or.inl ⟨by rfl, fun w hSw => by go_simp⟩) hHeld ?_
      simp only [Act.put, List.setIfInBounds_toArray, List.set_cons_zero, List.set_cons_succ]
      refine takeD (i := 1) (v := .int .i64 rc) (some 92) rfl rfl (by kernel_rfl) (by kernel_rfl) (by kernel_rfl) (fun _ _ _ h => h) (Or.inl ⟨by rfl, fun w hSw => by obtain ⟨s0, s1, s2⟩ := hSw; go_simp⟩) hHeld ?_
      simp only [Act.put, List.setIfInBounds_toArray, List.set_cons_zero, List.set_cons_succ]
      refine takeD (i := 2) (v := .agg #[.slice rsa rnS rsk, .slice rca rnC rck]) (some 93) rfl rfl (by kernel_rfl) (by kernel_rfl) (by kernel_rfl) (fun _ _ _ h => h) (Or.inl ⟨by rfl, fun w hSw => by obtain ⟨s0, s1, s2⟩ := hSw; go_simp⟩) hHeld ?_
      simp only [Act.put, List.setIfInBounds_toArray, List.set_cons_zero, List.set_cons_succ]
      refine takeD (i := 3) (v := .int .i64 ran) (some 94) rfl rfl (by kernel_rfl) (by kernel_rfl) (by kernel_rfl) (fun _ _ _ h => h) (Or.inl ⟨by rfl, fun w hSw => by go_simp⟩) hHeld ?_
      simp only [Act.put, List.setIfInBounds_toArray, List.set_cons_zero, List.set_cons_succ]
      refine takeD (i := 4) (v := .string rtx) (some 95) rfl rfl (by kernel_rfl) (by kernel_rfl) (by kernel_rfl) (fun _ _ _ h => h) (Or.inl ⟨by rfl, fun w hSw => by go_simp⟩) hHeld ?_
      simp only [Act.put, List.setIfInBounds_toArray, List.set_cons_zero, List.set_cons_succ]
      refine wpAnyH_ready (rs := [5]) (by kernel_rfl) (by simp) ?_
      refine AllReadyH.cons rfl (fun KK hK => ?_) AllReadyH.nil
      go_simp
      refine (spec_extentWrite_all _ rnS rS rnC rA rX ran rtx _ (by omega) (by omega) (by omega) rI3.out).mono ?_
      rintro e rw5 ⟨s6, c6, c2, rfl, hc2, hb5⟩
      obtain rfl := exCode_one rHCO.out hc2
      replace ry3 := hide (blk_belowX ry3.out hb5)
      replace rx1 := hide (blk_belowX rx1.out hb5)
      replace rI3 := hide (rI3.out.up hb5)
      replace rM3 := hide (rM3.out.trans (hb5.mono rM3.out.size))
      replace rJ3 := hide (rJ3.out.below hb5)
      clear hc2 hb5
      go_wp2_with fail
      refine hK.out _ _ (by have h := ry3.out; have k := rx1.out; exact ⟨by simp [World.cell?, h], by simp [World.cell?, h], by simp [World.cell?, k]⟩) (fun hHeld => ?_)
      clear hK KK
      refine takeD (i := 6) (v := .int .i64 rc) (some 97) rfl rfl (by kernel_rfl) (by kernel_rfl) (by kernel_rfl) (fun _ _ _ h => h) (Or.inl ⟨by rfl, fun w hSw => by first | exact field_xcode _ _ _ _ _ | (go_simp; rw [field_xcode]; rfl)⟩) hHeld ?_
      simp only [Act.put, List.setIfInBounds_toArray, List.set_cons_zero, List.set_cons_succ]
      refine takeD (i := 7) (v := .bool false) (some 98) rfl rfl (by kernel_rfl) (by kernel_rfl) (by kernel_rfl) (fun _ _ _ h => h) (Or.inl ⟨by rfl, fun w hSw => by go_simp⟩) hHeld ?_
      simp only [Act.put, List.setIfInBounds_toArray, List.set_cons_zero, List.set_cons_succ]
      refine takeD (i := 8) (v := .bool false) (some 99) rfl rfl (by kernel_rfl) (by kernel_rfl) (by kernel_rfl) (fun _ _ _ h => h) (Or.inl ⟨by rfl, fun w hSw => by go_simp⟩) hHeld ?_
      simp only [Act.put, List.setIfInBounds_toArray, List.set_cons_zero, List.set_cons_succ]
      refine takeD (i := 9) (v := .pointer (some ⟨rE, 3, none⟩)) (some 100) rfl rfl (by kernel_rfl) (by kernel_rfl) (by kernel_rfl) (fun _ _ _ h => h) (Or.inl ⟨by rfl, fun w hSw => by go_simp⟩) hHeld ?_
      simp only [Act.put, List.setIfInBounds_toArray, List.set_cons_zero, List.set_cons_succ]
      refine takeD (i := 10) (v := .int .i64 rc) (some 101) rfl rfl (by kernel_rfl) (by kernel_rfl) (by kernel_rfl) (fun _ _ _ h => h) (Or.inl ⟨by rfl, fun w hSw => by obtain ⟨s0, s1, s2⟩ := hSw; go_simp⟩) hHeld ?_
      simp only [Act.put, List.setIfInBounds_toArray, List.set_cons_zero, List.set_cons_succ]
      refine takeD (i := 11) (v := .bool true) (some 102) rfl rfl (by kernel_rfl) (by kernel_rfl) (by kernel_rfl) (fun _ _ _ h => h) (Or.inl ⟨by rfl, fun w hSw => by go_simp⟩) hHeld ?_
      simp only [Act.put, List.setIfInBounds_toArray, List.set_cons_zero, List.set_cons_succ]
      refine takeD (i := 12) (v := .bool true) (some 103) rfl rfl (by kernel_rfl) (by kernel_rfl) (by kernel_rfl) (fun _ _ _ h => h) (Or.inl ⟨by rfl, fun w hSw => by go_simp⟩) hHeld ?_
      simp only [Act.put, List.setIfInBounds_toArray, List.set_cons_zero, List.set_cons_succ]
      refine wpAnyH_done (by kernel_rfl) ?_ _
      go_wp2_with fail
      refine wp_region_held_drew (S := fun u => u.cell? ⟨rD, 0, none⟩ = some (.slice rsa rnS rsk) ∧ u.cell? ⟨rD, 1, none⟩ = some (.slice rca rnC rck) ∧ u.cell? ⟨rE, 3, none⟩ = some (.int .i64 rc)) (by kernel_rfl) (by have h := (blk_belowX ry3.out (Below.refl rw5.heap.size rw5).drew); have k := (blk_belowX rx1.out (Below.refl rw5.heap.size rw5).drew); exact ⟨by simp [World.cell?, h], by simp [World.cell?, h], by simp [World.cell?, k]⟩) (fun hHeld => ?_)
      replace ry3 := hide (blk_belowX ry3.out (Below.refl rw5.heap.size rw5).drew)
      replace rx1 := hide (blk_belowX rx1.out (Below.refl rw5.heap.size rw5).drew)
      replace rI3 := hide (rI3.out.up (Below.refl rw5.heap.size rw5).drew)
      replace rM3 := hide (rM3.out.trans ((Below.refl rw5.heap.size rw5).drew.mono rM3.out.size))
      replace rJ3 := hide (rJ3.out.below (Below.refl rw5.heap.size rw5).drew)
      generalize rw5.drew = rw6d at *
      refine takeD (i := 0) (v := .pointer (some ⟨rE, 3, none⟩)) (some 104) rfl rfl (by kernel_rfl) (by kernel_rfl) (by kernel_rfl) (fun _ _ _ h => h) (Or.inl ⟨by rfl, fun w hSw => by go_simp⟩) hHeld ?_
      simp only [Act.put, List.setIfInBounds_toArray, List.set_cons_zero, List.set_cons_succ]
      refine takeD (i := 1) (v := .int .i64 rc) (some 105) rfl rfl (by kernel_rfl) (by kernel_rfl) (by kernel_rfl) (fun _ _ _ h => h) (Or.inl ⟨by rfl, fun w hSw => by obtain ⟨s0, s1, s2⟩ := hSw; go_simp⟩) hHeld ?_
      simp only [Act.put, List.setIfInBounds_toArray, List.set_cons_zero, List.set_cons_succ]
      refine takeD (i := 2) (v := .agg #[.slice rsa rnS rsk, .slice rca rnC rck]) (some 106) rfl rfl (by kernel_rfl) (by kernel_rfl) (by kernel_rfl) (fun _ _ _ h => h) (Or.inl ⟨by rfl, fun w hSw => by obtain ⟨s0, s1, s2⟩ := hSw; go_simp⟩) hHeld ?_
      simp only [Act.put, List.setIfInBounds_toArray, List.set_cons_zero, List.set_cons_succ]
      refine takeD (i := 3) (v := .int .i64 ran) (some 107) rfl rfl (by kernel_rfl) (by kernel_rfl) (by kernel_rfl) (fun _ _ _ h => h) (Or.inl ⟨by rfl, fun w hSw => by go_simp⟩) hHeld ?_
      simp only [Act.put, List.setIfInBounds_toArray, List.set_cons_zero, List.set_cons_succ]
      refine takeD (i := 4) (v := .string rtx) (some 108) rfl rfl (by kernel_rfl) (by kernel_rfl) (by kernel_rfl) (fun _ _ _ h => h) (Or.inl ⟨by rfl, fun w hSw => by go_simp⟩) hHeld ?_
      simp only [Act.put, List.setIfInBounds_toArray, List.set_cons_zero, List.set_cons_succ]
      refine wpAnyH_ready (rs := [5]) (by kernel_rfl) (by simp) ?_
      refine AllReadyH.cons rfl (fun KK hK => ?_) AllReadyH.nil
      go_simp
      refine (spec_extentWrite_all _ rnS rS rnC rA rX ran rtx _ (by omega) (by omega) (by omega) rI3.out).mono ?_
      rintro e rw6 ⟨s6, c6, c2, rfl, hc2, hb5⟩
      obtain rfl := exCode_one rHCO.out hc2
      replace ry3 := hide (blk_belowX ry3.out hb5)
      replace rx1 := hide (blk_belowX rx1.out hb5)
      replace rI3 := hide (rI3.out.up hb5)
      replace rM3 := hide (rM3.out.trans (hb5.mono rM3.out.size))
      replace rJ3 := hide (rJ3.out.below hb5)
      clear hc2 hb5
      go_wp2_with fail
      refine hK.out _ _ (by have h := ry3.out; have k := rx1.out; exact ⟨by simp [World.cell?, h], by simp [World.cell?, h], by simp [World.cell?, k]⟩) (fun hHeld => ?_)
      clear hK KK
      refine takeD (i := 6) (v := .int .i64 rc) (some 110) rfl rfl (by kernel_rfl) (by kernel_rfl) (by kernel_rfl) (fun _ _ _ h => h) (Or.inl ⟨by rfl, fun w hSw => by first | exact field_xcode _ _ _ _ _ | (go_simp; rw [field_xcode]; rfl)⟩) hHeld ?_
      simp only [Act.put, List.setIfInBounds_toArray, List.set_cons_zero, List.set_cons_succ]
      refine takeD (i := 7) (v := .bool true) (some 111) rfl rfl (by kernel_rfl) (by kernel_rfl) (by kernel_rfl) (fun _ _ _ h => h) (Or.inl ⟨by rfl, fun w hSw => by go_simp⟩) hHeld ?_
      simp only [Act.put, List.setIfInBounds_toArray, List.set_cons_zero, List.set_cons_succ]
      refine takeD (i := 8) (v := .bool true) (some 4) rfl rfl (by kernel_rfl) (by kernel_rfl) (by kernel_rfl) (fun _ _ _ h => h) (Or.inl ⟨by rfl, fun w hSw => by go_simp⟩) hHeld ?_
      simp only [Act.put, List.setIfInBounds_toArray, List.set_cons_zero, List.set_cons_succ]
      refine wpAnyH_done (by kernel_rfl) ?_ _
      go_wp2_with fail
      go_ret
      exact ⟨rfl, rM3.out⟩
end Go.Proofs.Ytipeelkmmjgehaa
/- The walk over the law FnExtent. -/
namespace Go.Proofs.Ytipeelkmmjgehaa
open Go Go.RowKit
set_option maxRecDepth 100000 in
set_option maxHeartbeats 800000 in
theorem fnExtent_walk (a0 : Option Addr) (len0 cap0 : Nat) (z0 : List Int) (a1 : Option Addr) (len1 cap1 : Nat) (z1 : List Int) (w : World) (w0 : IsRow .u8 w a0 len0 cap0 z0) (w1 : IsRow .u8 w a1 len1 cap1 z1) :
    Calls Try.prog 3 #[.slice a0 len0 cap0, .slice a1 len1 cap1] w fun e w' => e = .returned (.bool true) ∧ Below w.heap.size w w' := by
  have hb0 := bytesIn_of_row w0
  have hb1 := bytesIn_of_row w1
  have hm0 : len0 ≤ 9223372036854775807 := by
    rcases w0 with ⟨_, h, _⟩ | ⟨x, _, h, h2, _⟩
    · omega
    · unfold maxLen at h2; omega
  have hm1 : len1 ≤ 9223372036854775807 := by
    rcases w1 with ⟨_, h, _⟩ | ⟨x, _, h, h2, _⟩
    · omega
    · unfold maxLen at h2; omega
  clear w0 w1
  by_cases h0 : 1048576 < len0
  · clear hb0 hb1
    have h0d : decide ((1048576 : Int) < (len0 : Int)) = true := decide_eq_true (by omega)
    go_enter Try.func3, Try.ntmps3
    go_wp2_with fail
    go_ret
    exact ⟨rfl, Below.refl _ _⟩
  · by_cases h1 : 1048576 < len1
    · have h0d : decide ((1048576 : Int) < (len0 : Int)) = false := decide_eq_false (by omega)
      have h1d : decide ((1048576 : Int) < (len1 : Int)) = true := decide_eq_true (by omega)
      clear hb0 hb1
      go_enter Try.func3, Try.ntmps3
      go_wp2_with fail
      go_ret
      exact ⟨rfl, Below.refl _ _⟩
    · exact fnExtent_main a0 len0 cap0 a1 len1 cap1 w (by omega) (by omega) hb0 hb1
end Go.Proofs.Ytipeelkmmjgehaa

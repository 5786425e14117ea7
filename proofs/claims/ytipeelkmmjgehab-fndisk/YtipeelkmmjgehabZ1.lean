/- FdM, DkG, FdC, FdB, SrcE, DrawDs, DrawDw, LwAt, FdW, FnDiskL, one behind the other. -/
import Derived.Test.YtipeelkmmjgehabDkW
import Derived.Test.YtipeelkmmjgehabDskP
import Derived.Test.YtipeelkmmjgehabDkS
import Derived.Test.YtipeelkmmjgehabDkR
import Derived.Test.YtipeelkmmjgehabDkD
import Derived.Test.YtipeelkmmjgehabDkK
import Derived.Test.YtipeelkmmjgehabSrcB
import Derived.Test.YtipeelkmmjgehabOwnConv
import Derived.Test.YtipeelkmmjgehabDrawDk
import Derived.Test.YtipeelkmmjgehabSrcS
import Derived.BigRegion
import Derived.Test.YtipeelkmmjgehabRows
import Derived.Test.YtipeelkmmjgehabSrc
import Derived.Deep.CutRange
import Derived.Deep.DeepCutAuto
/- What the law of disks needs to know of written pieces; the contracts of DiskWrite in one form. -/
namespace Go.Proofs.Ytipeelkmmjgehab
open Go Go.RowKit
theorem flF_kp (S : Nat → ByteArray) (A : Nat → Int) (X : Nat → ByteArray) (kp kq : Nat → Bool) : ∀ n, (∀ i, i < n → kp i = kq i) → ∀ j, flS S A X kp n j = flS S A X kq n j
  | 0, _, _ => rfl
  | n + 1, h, j => by
    show (if kp n = true ∧ (j : Int) = A n then X n else flS S A X kp n j) = if kq n = true ∧ (j : Int) = A n then X n else flS S A X kq n j
    rw [h n (by omega), flF_kp S A X kp kq n (fun i hi => h i (by omega)) j]
theorem flF_off (S : Nat → ByteArray) (A : Nat → Int) (X : Nat → ByteArray) (kp : Nat → Bool) : ∀ n, (∀ i, i < n → kp i = false) → ∀ j, flS S A X kp n j = S j
  | 0, _, _ => rfl
  | n + 1, h, j => by
    show (if kp n = true ∧ (j : Int) = A n then X n else flS S A X kp n j) = _
    rw [h n (by omega), if_neg (by simp)]
    exact flF_off S A X kp n (fun i hi => h i (by omega)) j
theorem flF_old (S : Nat → ByteArray) (A : Nat → Int) (X : Nat → ByteArray) (nC : Nat) (a : Int) (t : ByteArray) : ∀ n, n ≤ nC → ∀ j, flS S (wrA A nC a) (wrX X nC t) (fun _ => true) n j = flS S A X (fun _ => true) n j
  | 0, _, _ => rfl
  | n + 1, h, j => by
    show (if true = true ∧ (j : Int) = wrA A nC a n then wrX X nC t n else flS S (wrA A nC a) (wrX X nC t) (fun _ => true) n j) = if true = true ∧ (j : Int) = A n then X n else flS S A X (fun _ => true) n j
    have e1 : wrA A nC a n = A n := if_pos (by omega)
    have e2 : wrX X nC t n = X n := if_pos (by omega)
    rw [flF_old S A X nC a t n (by omega) j, e1, e2]
theorem flF_new (S : Nat → ByteArray) (A : Nat → Int) (X : Nat → ByteArray) (nC a : Nat) (t : ByteArray) : ∀ m j, flS S (wrA A nC (a : Int)) (wrX X nC t) (fun _ => true) (nC + m) j = if a ≤ j ∧ j < a + m then pieceS t (j - a) else flS S A X (fun _ => true) nC j
  | 0, j => by
    rw [if_neg (by omega)]
    exact flF_old S A X nC a t nC (Nat.le_refl _) j
  | m + 1, j => by
    show (if true = true ∧ (j : Int) = wrA A nC (a : Int) (nC + m) then wrX X nC t (nC + m) else flS S (wrA A nC (a : Int)) (wrX X nC t) (fun _ => true) (nC + m) j) = _
    have e1 : wrA A nC (a : Int) (nC + m) = (a : Int) + (m : Int) := by unfold wrA; rw [if_neg (by omega), show nC + m - nC = m by omega]
    have e2 : wrX X nC t (nC + m) = pieceS t m := by unfold wrX; rw [if_neg (by omega), show nC + m - nC = m by omega]
    rw [flF_new S A X nC a t m j, e1, e2]
    by_cases h : j = a + m
    · rw [if_pos ⟨rfl, by omega⟩, if_pos (by omega), show j - a = m by omega]
    · rw [if_neg (show ¬ (true = true ∧ (j : Int) = (a : Int) + (m : Int)) by omega)]
      by_cases h2 : a ≤ j ∧ j < a + m
      · rw [if_pos h2, if_pos (by omega)]
      · rw [if_neg h2, if_neg (by omega)]
/-- The text and zeros behind it. -/
def padF (t : ByteArray) (j : Nat) : UInt8 := if j < t.size then bF t j else 0
theorem catF_pieces (F : Nat → ByteArray) (a : Nat) (t : ByteArray) : ∀ m, (∀ i, i < m → F (a + i) = pieceS t i) → catL F a m = (List.range (64 * m)).map (padF t)
  | 0, _ => rfl
  | m + 1, h => by
    show catL F a m ++ (F (a + m)).data.toList = _
    rw [catF_pieces F a t m (fun i hi => h i (by omega)), h m (by omega), show 64 * (m + 1) = 64 * m + 64 by omega, List.range_add, List.map_append, List.map_map]
    congr 1
theorem catF_congr (F G : Nat → ByteArray) (a : Nat) : ∀ m, (∀ i, i < m → F (a + i) = G (a + i)) → catL F a m = catL G a m
  | 0, _ => rfl
  | m + 1, h => by
    show catL F a m ++ (F (a + m)).data.toList = catL G a m ++ (G (a + m)).data.toList
    rw [catF_congr F G a m (fun i hi => h i (by omega)), h m (by omega)]
theorem catF_one (F : Nat → ByteArray) (a : Nat) : (⟨(catL F a 1).toArray⟩ : ByteArray) = F a := by
  show (⟨(catL F a 0 ++ (F (a + 0)).data.toList).toArray⟩ : ByteArray) = F a
  simp [catL]
theorem padF_take (t : ByteArray) (m : Nat) (h : t.size ≤ 64 * m) : (⟨((List.range (64 * m)).map (padF t)).toArray⟩ : ByteArray).extract 0 t.size = t := by
  apply ByteArray.ext
  rw [ByteArray.data_extract]
  apply Array.ext
  · simp only [Array.size_extract, List.size_toArray, List.length_map, List.length_range]
    show min t.size (64 * m) - 0 = t.size
    omega
  · intro j h1 h2
    have h3 : j < t.size := h2
    simp only [Array.getElem_extract, List.getElem_toArray, List.getElem_map, List.getElem_range, Nat.zero_add]
    unfold padF
    rw [if_pos h3]
    have e := bF_at t t.size rfl j h3
    have h' : j < t.data.toList.length := h2
    rw [List.getElem?_eq_getElem h'] at e
    have e2 := Option.some.inj e
    rw [← e2]
    rfl
theorem manyW_le (t : ByteArray) : t.size ≤ 64 * manyW t := by unfold manyW; omega
theorem wrCode_one {nS : Nat} {S : Nat → ByteArray} {nC : Nat} {A : Nat → Int} {X : Nat → ByteArray} {a m c d : Int} (h : wrCode nS S nC A X a m c) (k : wrCode nS S nC A X a m d) : c = d := by
  unfold wrCode at h k
  rcases h with ⟨rfl, h1⟩ | ⟨rfl, h1, h2⟩ | ⟨rfl, h1, h2, h3⟩ | ⟨rfl, h1, h2, h3⟩ <;> rcases k with ⟨rfl, k1⟩ | ⟨rfl, k1, k2⟩ | ⟨rfl, k1, k2, k3⟩ | ⟨rfl, k1, k2, k3⟩ <;> first | rfl | exact absurd h1 k1 | exact absurd k1 h1 | exact absurd h2 k2 | exact absurd k2 h2 | omega
theorem imp_diskWrite_all (v : Value) (nS : Nat) (S : Nat → ByteArray) (nC : Nat) (A : Nat → Int) (X : Nat → ByteArray) (a : Int) (t : ByteArray) (w : World) (hts : t.size ≤ 20000) (hS : nS ≤ 1048576) (hC : nC ≤ 1048576) (h : dskI w w.heap.size v nS S nC A X) :
    Calls Try.prog 10 #[v, .int .i64 a, .string t] w fun e w' => ∃ x1 y1 z1 x2 y2 z2 c, e = .returned (.agg #[.slice x1 y1 z1, .slice x2 y2 z2, .string ⟨#[]⟩, .int .i64 c]) ∧ wrCode nS S nC A X a (manyW t : Int) c ∧
      (c = 0 → (y1 = nS ∧ y2 = nC + manyW t) ∧ dskI w' w'.heap.size (.agg #[.slice x1 y1 z1, .slice x2 y2 z2]) nS S (nC + manyW t) (wrA A nC a) (wrX X nC t)) ∧ Below w.heap.size w w' := by
  by_cases hg : dskOk nS S nC A X ∧ (0 ≤ a ∧ a ≤ (nS : Int) - (manyW t : Int)) ∧ (nC : Int) + (manyW t : Int) ≤ 400
  · exact (imp_diskWrite_good v nS S nC A X a t w hg.1 hts hg.2.1.1 hg.2.1.2 (by have := hg.2.2; omega) h).mono fun _ w' ⟨sv, cv, k1, k2, k3, k4, k5⟩ => by
      obtain ⟨q1, q2, e1⟩ := own_slice k2
      obtain ⟨q3, q4, e2⟩ := own_slice k3
      subst e1 e2
      exact ⟨_, _, _, _, _, _, 0, k1, .inr (.inr (.inr ⟨rfl, hg⟩)), fun _ => ⟨⟨rfl, rfl⟩, _, _, rfl, (own_val1 k2).strI, (own_val2 k3).sli.congr (fun j _ i hi => by show cWr _ _ ((2 * j + i) / 2) ((2 * j + i) % 2) = _; rw [show (2 * j + i) / 2 = j by omega, show (2 * j + i) % 2 = i by omega])⟩, k5⟩
  · exact (imp_diskWrite_bad v nS S nC A X a t w hts hS hC hg h).mono fun _ w' ⟨c, k1, k2, k3⟩ => ⟨_, _, _, _, _, _, c, k1, k2, fun h0 => by
      subst h0
      rcases k2 with ⟨e, _⟩ | ⟨e, _⟩ | ⟨e, _⟩ | ⟨_, k⟩
      · cases e
      · cases e
      · cases e
      · exact absurd k hg, k3⟩
theorem spec_diskWrite_all (v : Value) (nS : Nat) (S : Nat → ByteArray) (nC : Nat) (A : Nat → Int) (X : Nat → ByteArray) (a : Int) (t : ByteArray) (w : World) (hts : t.size ≤ 20000) (hS : nS ≤ 1048576) (hC : nC ≤ 1048576) (h : dskI w w.heap.size v nS S nC A X) :
    Calls Try.prog 11 #[v, .int .i64 a, .string t] w fun e w' => ∃ sv cv c, e = .returned (.agg #[sv, cv, .string ⟨#[]⟩, .int .i64 c]) ∧ wrCode nS S nC A X a (manyW t : Int) c ∧ Below w.heap.size w w' := by
  by_cases hok : dskOk nS S nC A X
  · by_cases hr : 0 ≤ a ∧ a ≤ (nS : Int) - (manyW t : Int)
    · by_cases hf : (nC : Int) + (manyW t : Int) ≤ 400
      · exact (spec_diskWrite_ok v nS S nC A X a t w hts hok h (fun sv cv c _ _ => c = 0)
          (fun u2 x2 h2_ => (spec_write_good x2 nS S nC A X a t u2 hok hts hr.1 hr.2 (by omega) h2_).mono fun _ _ ⟨sv, cv, k1, k2, k3, k4, k5⟩ => ⟨sv, cv, 0, k1, by
            obtain ⟨q1, q2, e1⟩ := own_slice k2
            obtain ⟨q3, q4, e2⟩ := own_slice k3
            exact ⟨_, _, _, _, _, _, e1, e2⟩, rfl, k5⟩)).mono fun _ w' ⟨sv, cv, c, _, _, k1, k2, _, _, _, k9⟩ => ⟨sv, cv, c, k1, .inr (.inr (.inr ⟨k2, hok, hr, hf⟩)), k9⟩
      · exact (spec_diskWrite_ok v nS S nC A X a t w hts hok h (fun sv cv c _ _ => c = 9)
          (fun u2 x2 h2_ => (spec_write_full x2 nS S nC A X a t u2 hok hts hr.1 ⟨hr.2, by omega⟩ h2_).mono fun _ _ ⟨k1, k2⟩ => ⟨_, _, 9, k1, ⟨_, _, _, _, _, _, rfl, rfl⟩, rfl, k2⟩)).mono fun _ w' ⟨sv, cv, c, _, _, k1, k2, _, _, _, k9⟩ => ⟨sv, cv, c, k1, .inr (.inr (.inl ⟨k2, hok, hr, by omega⟩)), k9⟩
    · exact (spec_diskWrite_ok v nS S nC A X a t w hts hok h (fun sv cv c _ _ => c = 8)
        (fun u2 x2 h2_ => (spec_write_range x2 nS S nC A X a t u2 hok hts (by omega) h2_).mono fun _ _ ⟨k1, k2⟩ => ⟨_, _, 8, k1, ⟨_, _, _, _, _, _, rfl, rfl⟩, rfl, k2⟩)).mono fun _ w' ⟨sv, cv, c, _, _, k1, k2, _, _, _, k9⟩ => ⟨sv, cv, c, k1, .inr (.inl ⟨k2, hok, hr⟩), k9⟩
  · exact (spec_diskWrite_form v nS S nC A X a t w hts hS hC hok h).mono fun _ _ ⟨k1, k2⟩ => ⟨_, _, 1, k1, .inl ⟨rfl, hok⟩, k2⟩
end Go.Proofs.Ytipeelkmmjgehab
/- The walk over the program's DiskFlush. -/
namespace Go.Proofs.Ytipeelkmmjgehab
open Go Go.RowKit
set_option maxRecDepth 100000 in
set_option maxHeartbeats 1600000 in
theorem imp_diskFlush_yes (v : Value) (nS : Nat) (S : Nat → ByteArray) (nC : Nat) (A : Nat → Int) (X : Nat → ByteArray) (w : World) (hok : dskOk nS S nC A X) (h : dskI w w.heap.size v nS S nC A X) :
    Calls Try.prog 13 #[v] w fun e w' => ∃ o, e = .returned o ∧ dskV w' o w.heap.size w'.heap.size nS (sC (flS S A X (fun _ => true) nC)) 0 (wF A X) ∧ Below w.heap.size w w' := by
  obtain ⟨sv, cv, rfl, hs, hc⟩ := h
  have HI := hide (show dskI w w.heap.size (.agg #[sv, cv]) nS S nC A X from ⟨sv, cv, rfl, hs, hc⟩)
  obtain ⟨sa, sk, e1⟩ : ∃ a c, sv = .slice a nS c := by obtain ⟨a, c, e, _⟩ := hs; exact ⟨a, c, e⟩
  obtain ⟨ca, ck, e2⟩ : ∃ a c, cv = .slice a nC c := by obtain ⟨a, c, e, _⟩ := hc; exact ⟨a, c, e⟩
  clear hs hc
  subst e1 e2
  have HOK := hide hok
  have hS : nS ≤ 1048576 := by have := hok.1; omega
  have hC : nC ≤ 1048576 := by have := hok.2.1; omega
  clear hok
  go_enter Try.func13, Try.ntmps13
  go_wp2_with fail
  have q0 : Below w.heap.size w ((w.alloc (.cells #[.slice sa nS sk, .slice ca nC ck] 26)).alloc (.cells #[.slice none 0 0, .slice none 0 0] 26)) := ((Below.refl _ w).alloc (Nat.le_refl _) _).alloc (by simp) _
  have qs : ((w.alloc (.cells #[.slice sa nS sk, .slice ca nC ck] 26)).alloc (.cells #[.slice none 0 0, .slice none 0 0] 26)).heap.size = w.heap.size + 2 := by simp
  have q1 : ((w.alloc (.cells #[.slice sa nS sk, .slice ca nC ck] 26)).alloc (.cells #[.slice none 0 0, .slice none 0 0] 26)).heap[w.heap.size]? = some (.cells #[.slice sa nS sk, .slice ca nC ck] 26) := (Below.heap_alloc _ _ _ (by simp)).trans (heap_alloc_new _ _)
  have q2 : ((w.alloc (.cells #[.slice sa nS sk, .slice ca nC ck] 26)).alloc (.cells #[.slice none 0 0, .slice none 0 0] 26)).heap[w.heap.size + 1]? = some (.cells #[.slice none 0 0, .slice none 0 0] 26) := by have := heap_alloc_new (w.alloc (.cells #[.slice sa nS sk, .slice ca nC ck] 26)) (.cells #[.slice none 0 0, .slice none 0 0] 26); rwa [World.size_alloc] at this
  generalize ((w.alloc (.cells #[.slice sa nS sk, .slice ca nC ck] 26)).alloc (.cells #[.slice none 0 0, .slice none 0 0] 26)) = W2 at *
  have I2 : dskI W2 W2.heap.size (.agg #[.slice sa nS sk, .slice ca nC ck]) nS S nC A X := (HI.out.below q0).wide (by omega)
  refine (imp_diskRight _ nS S nC A X W2 hS hC I2).mono ?_
  rintro e w1 ⟨⟨r, rfl, hr⟩, hb1⟩
  obtain rfl : r = true := hr.2 HOK.out
  have r1 := (hb1.block w.heap.size (by omega)).trans q1
  have r2 := (hb1.block (w.heap.size + 1) (by omega)).trans q2
  have c0 : w1.cell? ⟨w.heap.size, 0, none⟩ = some (.slice sa nS sk) := by simp [World.cell?, r1]
  have c1 : w1.cell? ⟨w.heap.size, 1, none⟩ = some (.slice ca nC ck) := by simp [World.cell?, r1]
  have hs1 := hb1.size
  have I3 := hide (show dskI w1 w1.heap.size (.agg #[.slice sa nS sk, .slice ca nC ck]) nS S nC A X from (I2.below hb1).wide hs1)
  have B1 := hide (q0.trans (hb1.mono (by omega)))
  have HR := hide r2
  clear hr hb1 r1 r2 q0 q1 q2 I2
  go_wp2_with fail
  refine (imp_settled _ nS S nC A X w1 HOK.out I3.out).mono ?_
  rintro e w2 ⟨o, rfl, hd, hb2⟩
  obtain ⟨a, b, c, d, eo⟩ := hd.shape
  subst eo
  have r2 := (hb2.block (w.heap.size + 1) (by omega)).trans HR.out
  have c10 : w2.cell? ⟨w.heap.size + 1, 0, none⟩ = some (.slice none 0 0) := by simp [World.cell?, r2]
  have c11 : w2.cell? ⟨w.heap.size + 1, 1, none⟩ = some (.slice none 0 0) := by simp [World.cell?, r2]
  have f10 : w2.frozen? ⟨w.heap.size + 1, 0, none⟩ = false := by simp [World.frozen?, r2]
  have f11 : w2.frozen? ⟨w.heap.size + 1, 1, none⟩ = false := by simp [World.frozen?, r2]
  have HD := hide hd
  have B2 := hide (B1.out.trans (hb2.mono (by omega)))
  have HR2 := hide r2
  clear hd hb2 r2 c0 c1 HR
  go_wp2_with fail
  have u1 : ((w2.setCell ⟨w.heap.size + 1, 0, none⟩ (.slice a nS b)).setCell ⟨w.heap.size + 1, 1, none⟩ (.slice c 0 d)).heap[w.heap.size + 1]? = some (.cells #[.slice a nS b, .slice c 0 d] 26) := by simp [World.setCell, Array.getElem?_modify, HR2.out]
  have u2 : ((w2.setCell ⟨w.heap.size + 1, 0, none⟩ (.slice a nS b)).setCell ⟨w.heap.size + 1, 1, none⟩ (.slice c 0 d)).heap.size = w2.heap.size := by simp [World.setCell]
  have u4 := HD.out.set2 (w.heap.size + 1) (by omega) (.slice a nS b) (.slice c 0 d)
  have u6 : Below w.heap.size w ((w2.setCell ⟨w.heap.size + 1, 0, none⟩ (.slice a nS b)).setCell ⟨w.heap.size + 1, 1, none⟩ (.slice c 0 d)) := below_set (below_set B2.out _ 0 (by omega) _) _ 1 (by omega) _
  generalize ((w2.setCell ⟨w.heap.size + 1, 0, none⟩ (.slice a nS b)).setCell ⟨w.heap.size + 1, 1, none⟩ (.slice c 0 d)) = w9 at *
  exact bodyPost_ret (results_cell_row Try.results13 _ _ (w.heap.size + 1) 26 #[.slice a nS b, .slice c 0 d] (0, 0) _ rfl u1 Try.underlying26 rfl (by kernel_rfl)) rfl ⟨_, rfl, u4.span (by omega) (by omega), u6⟩
set_option maxRecDepth 100000 in
set_option maxHeartbeats 1600000 in
theorem imp_diskFlush_no (v : Value) (nS : Nat) (S : Nat → ByteArray) (nC : Nat) (A : Nat → Int) (X : Nat → ByteArray) (w : World) (hS : nS ≤ 1048576) (hC : nC ≤ 1048576) (hno : ¬ dskOk nS S nC A X) (hSs : ∀ j, j < nS → (S j).size ≤ 1048576) (hXs : ∀ j, j < nC → (X j).size ≤ 1048576) (h : dskI w w.heap.size v nS S nC A X) :
    Calls Try.prog 13 #[v] w fun e w' => ∃ o, e = .returned o ∧ dskV w' o w.heap.size w'.heap.size nS (sC S) nC (wF A X) ∧ Below w.heap.size w w' := by
  obtain ⟨sv, cv, rfl, hs, hc⟩ := h
  have HI := hide (show dskI w w.heap.size (.agg #[sv, cv]) nS S nC A X from ⟨sv, cv, rfl, hs, hc⟩)
  obtain ⟨sa, sk, e1⟩ : ∃ a c, sv = .slice a nS c := by obtain ⟨a, c, e, _⟩ := hs; exact ⟨a, c, e⟩
  obtain ⟨ca, ck, e2⟩ : ∃ a c, cv = .slice a nC c := by obtain ⟨a, c, e, _⟩ := hc; exact ⟨a, c, e⟩
  clear hs hc
  subst e1 e2
  have HNO := hide hno
  have HZ := hide (And.intro hSs hXs)
  clear hno hSs hXs
  go_enter Try.func13, Try.ntmps13
  go_wp2_with fail
  have q0 : Below w.heap.size w ((w.alloc (.cells #[.slice sa nS sk, .slice ca nC ck] 26)).alloc (.cells #[.slice none 0 0, .slice none 0 0] 26)) := ((Below.refl _ w).alloc (Nat.le_refl _) _).alloc (by simp) _
  have qs : ((w.alloc (.cells #[.slice sa nS sk, .slice ca nC ck] 26)).alloc (.cells #[.slice none 0 0, .slice none 0 0] 26)).heap.size = w.heap.size + 2 := by simp
  have q1 : ((w.alloc (.cells #[.slice sa nS sk, .slice ca nC ck] 26)).alloc (.cells #[.slice none 0 0, .slice none 0 0] 26)).heap[w.heap.size]? = some (.cells #[.slice sa nS sk, .slice ca nC ck] 26) := (Below.heap_alloc _ _ _ (by simp)).trans (heap_alloc_new _ _)
  have q2 : ((w.alloc (.cells #[.slice sa nS sk, .slice ca nC ck] 26)).alloc (.cells #[.slice none 0 0, .slice none 0 0] 26)).heap[w.heap.size + 1]? = some (.cells #[.slice none 0 0, .slice none 0 0] 26) := by have := heap_alloc_new (w.alloc (.cells #[.slice sa nS sk, .slice ca nC ck] 26)) (.cells #[.slice none 0 0, .slice none 0 0] 26); rwa [World.size_alloc] at this
  generalize ((w.alloc (.cells #[.slice sa nS sk, .slice ca nC ck] 26)).alloc (.cells #[.slice none 0 0, .slice none 0 0] 26)) = W2 at *
  have I2 : dskI W2 W2.heap.size (.agg #[.slice sa nS sk, .slice ca nC ck]) nS S nC A X := (HI.out.below q0).wide (by omega)
  refine (imp_diskRight _ nS S nC A X W2 hS hC I2).mono ?_
  rintro e w1 ⟨⟨r, rfl, hr⟩, hb1⟩
  obtain rfl : r = false := by
    cases r with
    | false => rfl
    | true => exact absurd (hr.1 rfl) HNO.out
  have r1 := (hb1.block w.heap.size (by omega)).trans q1
  have r2 := (hb1.block (w.heap.size + 1) (by omega)).trans q2
  have c0 : w1.cell? ⟨w.heap.size, 0, none⟩ = some (.slice sa nS sk) := by simp [World.cell?, r1]
  have c1 : w1.cell? ⟨w.heap.size, 1, none⟩ = some (.slice ca nC ck) := by simp [World.cell?, r1]
  have hs1 := hb1.size
  have I3 := hide (show dskI w1 w1.heap.size (.agg #[.slice sa nS sk, .slice ca nC ck]) nS S nC A X from (I2.below hb1).wide hs1)
  have B1 := hide (q0.trans (hb1.mono (by omega)))
  have HR := hide r2
  clear hr hb1 r1 r2 q0 q1 q2 I2
  go_wp2_with fail
  refine (imp_copied _ nS S nC A X w1 hS hC HZ.out.1 HZ.out.2 I3.out).mono ?_
  rintro e w2 ⟨o, rfl, hd, hb2⟩
  obtain ⟨a, b, c, d, eo⟩ := hd.shape
  subst eo
  have r2 := (hb2.block (w.heap.size + 1) (by omega)).trans HR.out
  have c10 : w2.cell? ⟨w.heap.size + 1, 0, none⟩ = some (.slice none 0 0) := by simp [World.cell?, r2]
  have c11 : w2.cell? ⟨w.heap.size + 1, 1, none⟩ = some (.slice none 0 0) := by simp [World.cell?, r2]
  have f10 : w2.frozen? ⟨w.heap.size + 1, 0, none⟩ = false := by simp [World.frozen?, r2]
  have f11 : w2.frozen? ⟨w.heap.size + 1, 1, none⟩ = false := by simp [World.frozen?, r2]
  have HD := hide hd
  have B2 := hide (B1.out.trans (hb2.mono (by omega)))
  have HR2 := hide r2
  clear hd hb2 r2 c0 c1 HR
  go_wp2_with fail
  have u1 : ((w2.setCell ⟨w.heap.size + 1, 0, none⟩ (.slice a nS b)).setCell ⟨w.heap.size + 1, 1, none⟩ (.slice c nC d)).heap[w.heap.size + 1]? = some (.cells #[.slice a nS b, .slice c nC d] 26) := by simp [World.setCell, Array.getElem?_modify, HR2.out]
  have u2 : ((w2.setCell ⟨w.heap.size + 1, 0, none⟩ (.slice a nS b)).setCell ⟨w.heap.size + 1, 1, none⟩ (.slice c nC d)).heap.size = w2.heap.size := by simp [World.setCell]
  have u4 := HD.out.set2 (w.heap.size + 1) (by omega) (.slice a nS b) (.slice c nC d)
  have u6 : Below w.heap.size w ((w2.setCell ⟨w.heap.size + 1, 0, none⟩ (.slice a nS b)).setCell ⟨w.heap.size + 1, 1, none⟩ (.slice c nC d)) := below_set (below_set B2.out _ 0 (by omega) _) _ 1 (by omega) _
  generalize ((w2.setCell ⟨w.heap.size + 1, 0, none⟩ (.slice a nS b)).setCell ⟨w.heap.size + 1, 1, none⟩ (.slice c nC d)) = w9 at *
  exact bodyPost_ret (results_cell_row Try.results13 _ _ (w.heap.size + 1) 26 #[.slice a nS b, .slice c nC d] (0, 0) _ rfl u1 Try.underlying26 rfl (by kernel_rfl)) rfl ⟨_, rfl, u4.span (by omega) (by omega), u6⟩
end Go.Proofs.Ytipeelkmmjgehab
/- The contracts that the law of disks calls, in one form; its state. -/
namespace Go.Proofs.Ytipeelkmmjgehab
open Go Go.RowKit
theorem dskI_shape {w : World} {B : Nat} {v : Value} {nS : Nat} {S : Nat → ByteArray} {nC : Nat} {A : Nat → Int} {X : Nat → ByteArray} (h : dskI w B v nS S nC A X) : ∃ sa sk ca ck, v = .agg #[.slice sa nS sk, .slice ca nC ck] := by
  obtain ⟨sv, cv, rfl, ⟨a, c, rfl, _⟩, b, d, rfl, _⟩ := h
  exact ⟨a, c, b, d, rfl⟩
/-- A disk in memory, whose slices are known. -/
def dkA (w : World) (sa : Option Addr) (sk : Nat) (ca : Option Addr) (ck : Nat) (nS : Nat) (S : Nat → ByteArray) (nC : Nat) (A : Nat → Int) (X : Nat → ByteArray) : Prop := dskI w w.heap.size (.agg #[.slice sa nS sk, .slice ca nC ck]) nS S nC A X
theorem dkA.below {w w' : World} {sa ca : Option Addr} {sk ck nS nC : Nat} {S : Nat → ByteArray} {A : Nat → Int} {X : Nat → ByteArray} (h : dkA w sa sk ca ck nS S nC A X) (hb : Below w.heap.size w w') : dkA w' sa sk ca ck nS S nC A X := (dskI.below h hb).wide hb.size
theorem imp_flushF (sa : Option Addr) (sk : Nat) (ca : Option Addr) (ck : Nat) (nS : Nat) (S : Nat → ByteArray) (nC : Nat) (A : Nat → Int) (X : Nat → ByteArray) (w : World) (hok : dskOk nS S nC A X) (h : dkA w sa sk ca ck nS S nC A X) :
    Calls Try.prog 13 #[.agg #[.slice sa nS sk, .slice ca nC ck]] w fun e w' => ∃ pa pk qa qk, e = .returned (.agg #[.slice pa nS pk, .slice qa 0 qk]) ∧ dkA w' pa pk qa qk nS (flS S A X (fun _ => true) nC) 0 A X ∧ Below w.heap.size w w' :=
  (imp_diskFlush_yes _ nS S nC A X w hok h).mono fun _ w' ⟨o, k1, k2, k3⟩ => by
    obtain ⟨pa, pk, qa, qk, e⟩ := dskI_shape k2.sli
    subst e
    exact ⟨pa, pk, qa, qk, k1, k2.sli, k3⟩
theorem imp_crashF (sa : Option Addr) (sk : Nat) (ca : Option Addr) (ck : Nat) (nS : Nat) (S : Nat → ByteArray) (nC : Nat) (A : Nat → Int) (X : Nat → ByteArray) (ka : Option Addr) (nK kk : Nat) (Kf : Nat → Bool) (w : World) (hK4 : nK ≤ 400) (hkb : booI w w.heap.size (.slice ka nK kk) nK Kf) (hok : dskOk nS S nC A X) (h : dkA w sa sk ca ck nS S nC A X) :
    Calls Try.prog 15 #[.agg #[.slice sa nS sk, .slice ca nC ck], .slice ka nK kk] w fun e w' => ∃ pa pk qa qk, e = .returned (.agg #[.slice pa nS pk, .slice qa 0 qk]) ∧ dkA w' pa pk qa qk nS (flS S A X (fun j => decide (j < nK) && Kf j) nC) 0 A X ∧ Below w.heap.size w w' :=
  (imp_diskCrash_yes _ nS S nC A X ka nK kk Kf w hK4 hkb hok h).mono fun _ w' ⟨o, k1, k2, k3⟩ => by
    obtain ⟨pa, pk, qa, qk, e⟩ := dskI_shape k2.sli
    subst e
    exact ⟨pa, pk, qa, qk, k1, k2.sli, k3⟩
/-- What DiskRead tells. -/
def rdT (S : Nat → ByteArray) (nC : Nat) (A : Nat → Int) (X : Nat → ByteArray) (a m : Nat) : ByteArray := ⟨(catL (flS S A X (fun _ => true) nC) a m).toArray⟩
theorem imp_readF (sa : Option Addr) (sk : Nat) (ca : Option Addr) (ck : Nat) (nS : Nat) (S : Nat → ByteArray) (nC : Nat) (A : Nat → Int) (X : Nat → ByteArray) (a m : Nat) (w : World) (hok : dskOk nS S nC A X) (hm : m ≤ 300) (ham : a + m ≤ nS) (h : dkA w sa sk ca ck nS S nC A X) :
    Calls Try.prog 12 #[.agg #[.slice sa nS sk, .slice ca nC ck], .int .i64 (a : Int), .int .i64 (m : Int)] w fun e w' => e = .returned (.agg #[.slice none 0 0, .slice none 0 0, .string (rdT S nC A X a m), .int .i64 0]) ∧ Below w.heap.size w w' :=
  imp_diskRead_good _ nS S nC A X a m w hok ⟨by omega, by omega, by omega, by omega⟩ h
theorem rdT_one (S : Nat → ByteArray) (nC : Nat) (A : Nat → Int) (X : Nat → ByteArray) (k : Nat) : rdT S nC A X k 1 = flS S A X (fun _ => true) nC k := catF_one _ k
theorem rdT_flushed (S S2 : Nat → ByteArray) (nC : Nat) (A : Nat → Int) (X : Nat → ByteArray) (A2 : Nat → Int) (X2 : Nat → ByteArray) (a m : Nat) (h : ∀ i, i < m → S2 (a + i) = flS S A X (fun _ => true) nC (a + i)) : rdT S2 0 A2 X2 a m = rdT S nC A X a m := by
  unfold rdT
  rw [catF_congr (flS S2 A2 X2 (fun _ => true) 0) (flS S A X (fun _ => true) nC) a m (fun i hi => h i hi)]
theorem rdT_written (S : Nat → ByteArray) (nC : Nat) (A : Nat → Int) (X : Nat → ByteArray) (a : Nat) (t : ByteArray) : rdT S (nC + manyW t) (wrA A nC (a : Int)) (wrX X nC t) a (manyW t) = ⟨((List.range (64 * manyW t)).map (padF t)).toArray⟩ := by
  unfold rdT
  rw [catF_pieces _ a t (manyW t) (fun i hi => by rw [flF_new, if_pos (by omega), show a + i - a = i by omega])]
theorem rdT_size (S : Nat → ByteArray) (nC : Nat) (A : Nat → Int) (X : Nat → ByteArray) (a : Nat) (t : ByteArray) : (rdT S (nC + manyW t) (wrA A nC (a : Int)) (wrX X nC t) a (manyW t)).size = 64 * manyW t := by
  rw [rdT_written]
  show ((List.range (64 * manyW t)).map (padF t)).toArray.size = _
  simp
theorem rdT_take (S : Nat → ByteArray) (nC : Nat) (A : Nat → Int) (X : Nat → ByteArray) (a : Nat) (t : ByteArray) : (rdT S (nC + manyW t) (wrA A nC (a : Int)) (wrX X nC t) a (manyW t)).extract 0 t.size = t := by
  rw [rdT_written]
  exact padF_take t _ (manyW_le t)
theorem okF_flush {nS : Nat} {S : Nat → ByteArray} {nC : Nat} {A : Nat → Int} {X : Nat → ByteArray} (kp : Nat → Bool) (h : dskOk nS S nC A X) : dskOk nS (flS S A X kp nC) 0 A X :=
  ⟨h.1, Nat.zero_le _, flS_size S A X _ nS h.2.2.1 nC (fun j hj => (h.2.2.2 j hj).2.2), fun j hj => by omega⟩
theorem blk_below {w w' : World} {b : Nat} {o : Obj} (h : w.heap[b]? = some o) (hb : Below w.heap.size w w') : w'.heap[b]? = some o := (hb.block b (Array.getElem?_eq_some_iff.1 h).1).trans h
/-- The law under way: the disk in block D, what the write gave in block E. -/
structure FdSt (w : World) (a1 : Option Addr) (len1 : Nat) (D E : Nat) (wx : World) (sa : Option Addr) (sk : Nat) (ca : Option Addr) (ck : Nat) (xa : Option Addr) (xk : Nat) (ya : Option Addr) (yk : Nat) (nS : Nat) (S : Nat → ByteArray) (nC : Nat) (A : Nat → Int) (X : Nat → ByteArray) (nC2 : Nat) (A2 : Nat → Int) (X2 : Nat → ByteArray) : Prop where
  d : wx.heap[D]? = some (.cells #[.slice sa nS sk, .slice ca nC ck] 26)
  e : wx.heap[E]? = some (.cells #[.slice xa nS xk, .slice ya nC2 yk, .string ⟨#[]⟩, .int .i64 0] 30)
  i : dkA wx sa sk ca ck nS S nC A X
  j : dkA wx xa xk ya yk nS S nC2 A2 X2
  m : BytesIn wx wx.heap.size a1 len1
  b : Below w.heap.size w wx
theorem FdSt.below {w : World} {a1 : Option Addr} {len1 : Nat} {D E : Nat} {wx wy : World} {sa : Option Addr} {sk : Nat} {ca : Option Addr} {ck : Nat} {xa : Option Addr} {xk : Nat} {ya : Option Addr} {yk : Nat} {nS : Nat} {S : Nat → ByteArray} {nC : Nat} {A : Nat → Int} {X : Nat → ByteArray} {nC2 : Nat} {A2 : Nat → Int} {X2 : Nat → ByteArray}
    (h : FdSt w a1 len1 D E wx sa sk ca ck xa xk ya yk nS S nC A X nC2 A2 X2) (hb : Below wx.heap.size wx wy) : FdSt w a1 len1 D E wy sa sk ca ck xa xk ya yk nS S nC A X nC2 A2 X2 :=
  ⟨blk_below h.d hb, blk_below h.e hb, h.i.below hb, h.j.below hb, by
    rcases h.m.below hb (Nat.le_refl _) with h1 | ⟨b, off, rfl, h2, h3⟩
    · exact .inl h1
    · exact .inr ⟨b, off, rfl, Nat.lt_of_lt_of_le h2 hb.size, h3⟩, h.b.trans (hb.mono h.b.size)⟩
end Go.Proofs.Ytipeelkmmjgehab
/- A row of truth values, filled from its start. -/
namespace Go.Proofs.Ytipeelkmmjgehab
open Go Go.RowKit
def bolL (n k : Nat) : List Value := (List.range n).map fun j => .bool (decide (j < k))
theorem Try.infoBoF : (Try.prog.info? 4).map (fun i => (i.zero, i.size, i.bytes)) = some (some (.bool false), 1, 1) := by kernel_rfl
theorem bolL_made (n : Nat) : (madeCells #[Value.bool false] n).toList = bolL n 0 := by
  rw [toList_madeCells_one]
  apply List.ext_getElem?
  intro j
  unfold bolL
  by_cases h : j < n
  · simp [h]
  · simp [h]
theorem bolL_set (n k : Nat) (h : k < n) : (bolL n k).set k (.bool true) = bolL n (k + 1) := by
  unfold bolL
  apply List.ext_getElem?
  intro j
  rw [List.getElem?_set]
  simp only [List.length_map, List.length_range, List.getElem?_map]
  by_cases e : k = j
  · subst e
    rw [if_pos rfl, if_pos h]
    simp [h]
  · rw [if_neg e]
    by_cases hj : j < n
    · simp [hj, show (j < k + 1) ↔ (j < k) by omega]
    · simp [hj]
theorem bolL_at (n k j : Nat) (h : j < n) : (bolL n k)[j]? = some (.bool (decide (j < k))) := by simp [bolL, h]
theorem booI_of {w : World} {base L n c : Nat} {e : TypeId} (h : w.ownsRow base e 1 (.slice (some ⟨L, 0, none⟩) n c) n (bolL n n)) : booI w w.heap.size (.slice (some ⟨L, 0, none⟩) n c) n (fun _ => true) := by
  have hc : n ≤ c := by
    rcases h.2 with ⟨h', _⟩ | ⟨g', cap', cur, h', _, hg, hn, _⟩
    · simp at h'
    · simp only [Value.slice.injEq] at h'
      obtain ⟨_, _, rfl⟩ := h'
      exact hn
  refine ⟨_, _, rfl, hc, .inr ⟨L, 0, rfl, (h.lt L rfl).2, fun j hj => ?_⟩⟩
  rw [Nat.zero_add, h.cellAt j (by omega), bolL_at n n j hj, decide_eq_true hj]
theorem imp_read1 (sa : Option Addr) (sk : Nat) (ca : Option Addr) (ck : Nat) (nS : Nat) (S : Nat → ByteArray) (nC : Nat) (A : Nat → Int) (X : Nat → ByteArray) (k : Nat) (w : World) (hok : dskOk nS S nC A X) (hk : k < nS) (h : dkA w sa sk ca ck nS S nC A X) :
    Calls Try.prog 12 #[.agg #[.slice sa nS sk, .slice ca nC ck], .int .i64 (k : Int), .int .i64 1] w fun e w' => e = .returned (.agg #[.slice none 0 0, .slice none 0 0, .string (flS S A X (fun _ => true) nC k), .int .i64 0]) ∧ Below w.heap.size w w' := by
  have h1 := imp_readF sa sk ca ck nS S nC A X k 1 w hok (by omega) (by omega) h
  rw [rdT_one] at h1
  exact h1
theorem spec_read1 (sa : Option Addr) (sk : Nat) (ca : Option Addr) (ck : Nat) (nS : Nat) (S : Nat → ByteArray) (nC : Nat) (A : Nat → Int) (X : Nat → ByteArray) (k : Nat) (w : World) (hok : dskOk nS S nC A X) (hk : k < nS) (h : dkA w sa sk ca ck nS S nC A X) :
    Calls Try.prog 17 #[.agg #[.slice sa nS sk, .slice ca nC ck], .int .i64 (k : Int), .int .i64 1] w fun e w' => e = .returned (.agg #[.slice none 0 0, .slice none 0 0, .string (flS S A X (fun _ => true) nC k), .int .i64 0]) ∧ Below w.heap.size w w' := by
  have h1 := spec_diskRead_good _ nS S nC A X k 1 w hok ⟨by omega, by omega, by omega, by omega⟩ h
  rw [catF_one] at h1
  exact h1
theorem dkA_cell {w : World} {sa : Option Addr} {sk : Nat} {ca : Option Addr} {ck : Nat} {nS : Nat} {S : Nat → ByteArray} {nC : Nat} {A : Nat → Int} {X : Nat → ByteArray} (h : dkA w sa sk ca ck nS S nC A X) (hn : 0 < nS) : ∃ r o, sa = some ⟨r, o, none⟩ ∧ r < w.heap.size ∧ ∀ j, j < nS → w.cell? ⟨r, o + j, none⟩ = some (.string (S j)) := by
  obtain ⟨sv, cv, e, ⟨a, c, e2, _, h0⟩, _⟩ := h
  rw [e2] at e
  simp only [Value.agg.injEq] at e
  have e3 := congrArg (fun x : Array Value => x[0]?) e
  simp only [List.getElem?_toArray, List.getElem?_cons_zero, Option.some.injEq, Value.slice.injEq] at e3
  obtain ⟨e4, _, _⟩ := e3
  subst e4
  rcases h0 with h0 | ⟨r, o, h1, h2, h3⟩
  · omega
  · exact ⟨r, o, h1, h2, h3⟩
theorem dkA_cells {w w' : World} {r : Nat} (hr : r < w.heap.size) (hb : Below w.heap.size w w') (o : Nat) : w'.cell? ⟨r, o, none⟩ = w.cell? ⟨r, o, none⟩ := hb.cell (p := ⟨r, o, none⟩) hr
end Go.Proofs.Ytipeelkmmjgehab
/- The walk over a source's edge. -/
namespace Go.Proofs.Ytipeelkmmjgehab
open Go.RowKit

/-- The numbers at some limit. -/
def edges : Array Value := #[.int .i64 0, .int .i64 1, .int .i64 (-1), .int .i64 2, .int .i64 1000, .int .i64 1001, .int .i64 2147483648, .int .i64 2147483647, .int .i64 (-2147483648), .int .i64 4611686018427387904, .int .i64 9223372036854775807, .int .i64 (-9223372036854775808), .int .i64 1000000, .int .i64 1000001]
theorem edges_at (k : Nat) (hk : k < 14) : ∃ x : Int, -9223372036854775808 ≤ x ∧ x ≤ 9223372036854775807 ∧ edges[k]? = some (.int .i64 x) := by
  have h : k = 0 ∨ k = 1 ∨ k = 2 ∨ k = 3 ∨ k = 4 ∨ k = 5 ∨ k = 6 ∨ k = 7 ∨ k = 8 ∨ k = 9 ∨ k = 10 ∨ k = 11 ∨ k = 12 ∨ k = 13 := by omega
  rcases h with rfl | rfl | rfl | rfl | rfl | rfl | rfl | rfl | rfl | rfl | rfl | rfl | rfl | rfl
  all_goals exact ⟨_, by decide, by decide, rfl⟩

set_option maxRecDepth 100000 in
set_option maxHeartbeats 800000 in
theorem src_edge (B : Nat) (w : World) (g : Nat) (a : Option Addr) (len cap : Nat) (hs : Src 88 B w g a len cap) :
    Calls Try.prog 36 #[.pointer (some ⟨g, 0, none⟩)] w fun e w' => ∃ x : Int, e = .returned (.int .i64 x) ∧ -9223372036854775808 ≤ x ∧ x ≤ 9223372036854775807 ∧ Src 88 B w' g a len cap ∧ w.grownBy w' (some g) := by
  have hlt := hs.lt
  have hBg := hs.1
  have HS := hide (hs.kept (grownBy_alloc (World.grownBy.refl w none) (.cells #[.int .i64 0, .int .i64 1, .int .i64 (-1), .int .i64 2, .int .i64 1000, .int .i64 1001, .int .i64 2147483648, .int .i64 2147483647, .int .i64 (-2147483648), .int .i64 4611686018427387904, .int .i64 9223372036854775807, .int .i64 (-9223372036854775808), .int .i64 1000000, .int .i64 1000001] 2)) (fun k hk => by cases hk) (by omega))
  clear hs
  go_enter Try.func36, Try.ntmps36
  go_wp2_with fail
  refine (src_n B _ g a len cap 14 (by omega) HS.out).mono ?_
  rintro e w1 ⟨v, rfl, v0, v1, hs1, hg1⟩
  obtain ⟨k, rfl⟩ := Int.eq_ofNat_of_zero_le v0
  have hk : k < 14 := by omega
  have hk' : (k : Int) < 14 := by omega
  obtain ⟨x, x0, x1, hx⟩ := edges_at k hk
  have hc : w1.cell? ⟨w.heap.size, k, none⟩ = some (.int .i64 x) := by
    have hb := hg1.block w.heap.size (by simp) (by simp; omega)
    rw [heap_alloc_new] at hb
    unfold World.cell?
    rw [hb]
    exact hx
  have HS1 := hide hs1
  have hg2 := grownBy_trans (grownBy_alloc (World.grownBy.refl w (some g)) _) hg1
  clear hs1 hg1 hx HS v1
  go_wp2_with fail
  go_ret
  exact ⟨x, rfl, x0, x1, HS1.out, hg2⟩

end Go.Proofs.Ytipeelkmmjgehab
/- A draw of a disk under way (written by mkdraww.py). -/
namespace Go.Proofs.Ytipeelkmmjgehab
open Go Go.RowKit
theorem BytesIn.lowD {w w' : World} {a : Option Addr} {len : Nat} (h : BytesIn w w.heap.size a len) (hb : Below w.heap.size w w') : BytesIn w' w'.heap.size a len := by
  rcases h.below hb (Nat.le_refl _) with h1 | ⟨b, off, rfl, h2, h3⟩
  · exact .inl h1
  · exact .inr ⟨b, off, rfl, Nat.lt_of_lt_of_le h2 hb.size, h3⟩
theorem results_cell_two {P : Program} {fn : Func} {p x y : Tmp} {ty : TypeId} (h : fn.results = #[.cell p ty, .tmp x, .tmp y]) (tmps : Array Value) (w : World) (g : Nat) (t : TypeId) (cs : Array Value) (fr : Nat × Nat) (d : TypeDesc)
    (hp : tmps.getD p undef = .pointer (some ⟨g, 0, none⟩)) (hg : w.heap[g]? = some (.cells cs t fr))
    (hu : P.underlying ty = some d) (hd : (match d with | .struct _ | .array _ _ => true | _ => false) = true) (hi : (P.info? ty).map (·.size) = some cs.size) :
    (results fn tmps).run P w = .ok (.tuple #[.agg cs, tmps.getD x undef, tmps.getD y undef]) w := by
  have hp' : tmps[p]?.getD undef = .pointer (some ⟨g, 0, none⟩) := by simpa using hp
  simp [results, h, hp', asAddr, run_loadVar_row w g t ty cs fr d hg hu hd hi]
/-- The draw under way: the source in block G, the disk in block Z. -/
structure DwSt (w : World) (G Z : Nat) (a : Option Addr) (len cap : Nat) (wx : World) (sv cv : Value) (nS : Nat) (S : Nat → ByteArray) (nC : Nat) (A : Nat → Int) (X : Nat → ByteArray) : Prop where
  src : Src 88 G wx G a len cap
  z : wx.heap[Z]? = some (.cells #[sv, cv] 26)
  r : wx.heap[w.heap.size]? = some (.cells #[.slice none 0 0, .slice none 0 0] 26)
  o1 : wx.ownsRow (G + 1) 9 1 sv nS (sL S nS)
  o2 : wx.ownsRow (G + 1) 70 2 cv nC (wL A X nC)
  gr : w.grownBy wx none
  gl : w.heap.size < G
  zl : G < Z
section
variable {w : World} {G Z : Nat} {a : Option Addr} {len cap : Nat} {wx wy : World} {sv cv : Value} {nS : Nat} {S : Nat → ByteArray} {nC : Nat} {A : Nat → Int} {X : Nat → ByteArray}
theorem DwSt.zs (h : DwSt w G Z a len cap wx sv cv nS S nC A X) : Z < wx.heap.size := (Array.getElem?_eq_some_iff.1 h.z).1
theorem DwSt.step (h : DwSt w G Z a len cap wx sv cv nS S nC A X) (hs : Src 88 G wy G a len cap) (hg : wx.grownBy wy (some G)) : DwSt w G Z a len cap wy sv cv nS S nC A X := by
  have hl := h.gl
  have hz := h.zl
  have hs2 := h.zs
  have q : ∀ b, b ≠ G → b < wx.heap.size → wy.heap[b]? = wx.heap[b]? := fun b h1 h2 => hg.block b h2 (by simp; omega)
  exact ⟨hs, (q Z (by omega) hs2).trans h.z, (q _ (by omega) (by omega)).trans h.r, own_of_block h.o1 (fun b hb => q b (by have := (h.o1.lt b hb).1; omega) (h.o1.lt b hb).2),
    own_of_block h.o2 (fun b hb => q b (by have := (h.o2.lt b hb).1; omega) (h.o2.lt b hb).2), grownBy_new h.gr hg (by omega), h.gl, h.zl⟩
theorem DwSt.nz (h : DwSt w G Z a len cap wx sv cv nS S nC A X) : Z ≠ w.heap.size := by have := h.gl; have := h.zl; omega
theorem DwSt.draw (h : DwSt w G Z a len cap wx sv cv nS S nC A X) : DwSt w G Z a len cap wx.drew sv cv nS S nC A X := ⟨h.src, h.z, h.r, h.o1, h.o2, grownBy_drew h.gr, h.gl, h.zl⟩
theorem DwSt.endOf (h : DwSt w G Z a len cap wx sv cv nS S nC A X) (x y : Value) :
    ((wx.setCell ⟨w.heap.size, 0, none⟩ x).setCell ⟨w.heap.size, 1, none⟩ y).ownsRow w.heap.size 9 1 sv nS (sL S nS) ∧ ((wx.setCell ⟨w.heap.size, 0, none⟩ x).setCell ⟨w.heap.size, 1, none⟩ y).ownsRow w.heap.size 70 2 cv nC (wL A X nC) ∧
    w.grownBy ((wx.setCell ⟨w.heap.size, 0, none⟩ x).setCell ⟨w.heap.size, 1, none⟩ y) none := by
  have hl := h.gl
  have q : ∀ k, k ≠ w.heap.size → ((wx.setCell ⟨w.heap.size, 0, none⟩ x).setCell ⟨w.heap.size, 1, none⟩ y).heap[k]? = wx.heap[k]? := fun k hk => (set1_o _ _ _ _ _ hk).trans (set1_o _ _ _ _ _ hk)
  have hs : ((wx.setCell ⟨w.heap.size, 0, none⟩ x).setCell ⟨w.heap.size, 1, none⟩ y).heap.size = wx.heap.size := by simp [World.setCell]
  exact ⟨own_base (own_of_block h.o1 (fun b hb => q b (by have := (h.o1.lt b hb).1; omega))) (by omega), own_base (own_of_block h.o2 (fun b hb => q b (by have := (h.o2.lt b hb).1; omega))) (by omega),
    ⟨h.gr.os, h.gr.tape, h.gr.output, by rw [hs]; exact h.gr.size, fun i hi hne => (q i (by omega)).trans (h.gr.block i hi hne)⟩⟩
end
end Go.Proofs.Ytipeelkmmjgehab
/- The draw DrawDiskWrite (written by mkdraww.py). -/
namespace Go.Proofs.Ytipeelkmmjgehab
open Go Go.RowKit
set_option maxRecDepth 100000 in
set_option maxHeartbeats 1600000 in
theorem drawDiskWrite_any (w : World) (a : Option Addr) (len cap : Nat) (hl : len ≤ 1048576) (hby : BytesIn w w.heap.size a len) :
    Calls Try.prog 9 #[.slice a len cap] w fun e w' => ∃ sv cv nS S nC A X an tx, e = .returned (.tuple #[.agg #[sv, cv], .int .i64 an, .string tx]) ∧ w'.ownsRow w.heap.size 9 1 sv nS (sL S nS) ∧ w'.ownsRow w.heap.size 70 2 cv nC (wL A X nC) ∧ apartV sv cv ∧ nS ≤ 6 ∧ nC ≤ 402 ∧ dkSmall nS S nC X ∧ -9223372036854775808 ≤ an ∧ an ≤ 9223372036854775807 ∧ tx.size ≤ 199 ∧ w.grownBy w' none := by
  have HB := hide hby
  clear hby
  have al0 : Below w.heap.size w (w.alloc (.cells #[.slice none 0 0, .slice none 0 0] 26)) := (Below.refl _ _).alloc (Nat.le_refl _) _
  have al1 := heap_alloc_new w (.cells #[.slice none 0 0, .slice none 0 0] 26)
  have HA := hide (And.intro al0 al1)
  have al2 : w.heap.size < (w.alloc (.cells #[.slice none 0 0, .slice none 0 0] 26)).heap.size := by simp
  clear al0 al1
  go_enter Try.func9, Try.ntmps9
  go_wp2_with fail
  generalize w.alloc (.cells #[.slice none 0 0, .slice none 0 0] 26) = W0 at *
  refine (source_any W0 a len cap hl (HB.out.lowD HA.out.1)).mono ?_
  rintro e w1 ⟨rfl, hs1, hg1⟩
  obtain ⟨G, hG⟩ : ∃ G, G = W0.heap.size := ⟨_, rfl⟩
  rw [← hG] at hs1 al2
  have H1 := hide (And.intro hs1 (And.intro (grownBy_none (below_grownBy HA.out.1) hg1) ((hg1.block w.heap.size (by omega) (by simp)).trans HA.out.2)))
  have hB1 : G < w1.heap.size := hs1.lt
  have HG := hide hG
  clear hs1 hg1 hG
  go_wp2_with fail
  rw [← HG.out]
  refine (src_disk G w1 G a len cap H1.out.1 (by omega)).mono ?_
  rintro e w2 ⟨sv, cv, nS, S, nC, A, X, rfl, o1, o2, hap, hnS, hnC, hsm, hs2, hg2⟩
  obtain ⟨sa, sk, e1⟩ := own_slice o1
  obtain ⟨ca, ck, e2⟩ := own_slice o2
  subst e1 e2
  have y0 : Below w2.heap.size w2 (w2.alloc (.cells #[.slice sa nS sk, .slice ca nC ck] 26)) := (Below.refl _ _).alloc (Nat.le_refl _) _
  have y1 := heap_alloc_new w2 (.cells #[.slice sa nS sk, .slice ca nC ck] 26)
  have z2 := hg2.size
  have ST := hide (show DwSt w G w2.heap.size a len cap (w2.alloc (.cells #[.slice sa nS sk, .slice ca nC ck] 26)) (.slice sa nS sk) (.slice ca nC ck) nS S nC A X from
    ⟨hs2.kept (below_grownBy y0) (fun k hk => by cases hk) (by omega), y1, (y0.block _ (by omega)).trans ((hg2.block _ (by omega) (by simp; omega)).trans H1.out.2.2),
     own_base (own_of_block o1 (fun b hb => y0.block b (o1.lt b hb).2)) (by omega), own_base (own_of_block o2 (fun b hb => y0.block b (o2.lt b hb).2)) (by omega), grownBy_none (grownBy_new H1.out.2.1 hg2 (by omega)) (below_grownBy y0), by omega, by omega⟩)
  have FX := hide (And.intro hap hsm)
  clear y0 y1 hs2 hg2 o1 o2 H1 hap hsm
  go_wp2_with fail
  generalize w2.alloc (.cells #[.slice sa nS sk, .slice ca nC ck] 26) = W3 at *
  obtain ⟨Z, hZ⟩ : ∃ Z, Z = w2.heap.size := ⟨_, rfl⟩
  rw [← hZ] at ST ⊢
  clear hZ z2
  refine (src_n G W3 G a len cap 6 (by omega) ST.out.src).mono ?_
  rintro e w3 ⟨y, rfl, y0, y1, hs3, hg3⟩
  replace ST := hide (ST.out.step hs3 hg3)
  clear hs3 hg3
  have hwr : IntKind.i64.wrap (y - 1) = y - 1 := by simp only [IntKind.wrap_i64]; omega
  go_wp2_with fail
  refine (src_one G w3 G a len cap 12 (by omega) ST.out.src).mono ?_
  rintro e w4 ⟨r, rfl, hs4, hg4⟩
  replace ST := hide (ST.out.step hs4 hg4)
  clear hs4 hg4
  cases r with
  | false =>
    go_wp2_with fail
    refine wp_region_held_drew (S := fun u => u.cell? ⟨Z, 0, none⟩ = some (.slice sa nS sk) ∧ u.cell? ⟨Z, 1, none⟩ = some (.slice ca nC ck)) (by kernel_rfl) (by have h := ST.out.draw.z; exact ⟨by simp [World.cell?, h], by simp [World.cell?, h]⟩) (fun hHeld => ?_)
    replace ST := hide ST.out.draw
    generalize w4.drew = Wd at *
    refine takeD (i := 0) (v := .agg #[.slice sa nS sk, .slice ca nC ck]) (some 19) rfl rfl (by kernel_rfl) (by kernel_rfl) (by kernel_rfl) (fun _ _ _ h => h) (Or.inl ⟨by rfl, fun w hSw => by obtain ⟨s0, s1⟩ := hSw; go_simp⟩) hHeld ?_
    simp only [Act.put, List.setIfInBounds_toArray, List.set_cons_zero, List.set_cons_succ]
    refine takeD (i := 1) (v := .int .i64 (y - 1)) (some 20) rfl rfl (by kernel_rfl) (by kernel_rfl) (by kernel_rfl) (fun _ _ _ h => h) (Or.inl ⟨by rfl, fun w hSw => by go_simp⟩) hHeld ?_
    simp only [Act.put, List.setIfInBounds_toArray, List.set_cons_zero, List.set_cons_succ]
    refine takeD (i := 2) (v := .pointer (some ⟨G, 0, none⟩)) (some 21) rfl rfl (by kernel_rfl) (by kernel_rfl) (by kernel_rfl) (fun _ _ _ h => h) (Or.inl ⟨by rfl, fun w hSw => by go_simp⟩) hHeld ?_
    simp only [Act.put, List.setIfInBounds_toArray, List.set_cons_zero, List.set_cons_succ]
    refine takeD (i := 3) (v := .pointer (some ⟨G, 0, none⟩)) (some 22) rfl rfl (by kernel_rfl) (by kernel_rfl) (by kernel_rfl) (fun _ _ _ h => h) (Or.inl ⟨by rfl, fun w hSw => by go_simp⟩) hHeld ?_
    simp only [Act.put, List.setIfInBounds_toArray, List.set_cons_zero, List.set_cons_succ]
    refine wpAnyH_ready (rs := [4]) (by kernel_rfl) (by simp) ?_
    refine AllReadyH.cons rfl (fun KK hK => ?_) AllReadyH.nil
    go_simp
    refine (src_n _ _ _ a len cap 200 (by omega) ST.out.src).mono ?_
    rintro e w6 ⟨k, rfl, k0, k1, hs9, hg9⟩
    replace ST := hide (ST.out.step hs9 hg9)
    clear hs9 hg9
    obtain ⟨k, rfl⟩ := Int.eq_ofNat_of_zero_le k0
    have hk : k ≤ 199 := by omega
    go_wp2_with fail
    refine hK.out _ _ (by have h := ST.out.z; exact ⟨by simp [World.cell?, h], by simp [World.cell?, h]⟩) (fun hHeld => ?_)
    clear hK KK k0 k1
    refine wpAnyH_ready (rs := [5]) (by kernel_rfl) (by simp) ?_
    refine AllReadyH.cons rfl (fun KK hK => ?_) AllReadyH.nil
    go_simp
    refine (src_bytes _ _ _ a len cap k (by omega) ST.out.src).mono ?_
    rintro e w7 ⟨tx, rfl, htx, hs9, hg9⟩
    replace ST := hide (ST.out.step hs9 hg9)
    have TZ := hide (show tx.size ≤ 199 by omega)
    clear hs9 hg9 htx
    go_wp2_with fail
    refine hK.out _ _ (by have h := ST.out.z; exact ⟨by simp [World.cell?, h], by simp [World.cell?, h]⟩) (fun hHeld => ?_)
    clear hK KK
    have r0 : w7.cell? ⟨w.heap.size, 0, none⟩ = some (.slice none 0 0) := by have h := ST.out.r; simp [World.cell?, h]
    have r1 : w7.cell? ⟨w.heap.size, 1, none⟩ = some (.slice none 0 0) := by have h := ST.out.r; simp [World.cell?, h]
    have r2 : w7.frozen? ⟨w.heap.size, 0, none⟩ = false := by have h := ST.out.r; simp [World.frozen?, h]
    have r3 : w7.frozen? ⟨w.heap.size, 1, none⟩ = false := by have h := ST.out.r; simp [World.frozen?, h]
    have FE := ST.out.endOf (.slice sa nS sk) (.slice ca nC ck)
    have u1 : ((w7.setCell ⟨w.heap.size, 0, none⟩ (.slice sa nS sk)).setCell ⟨w.heap.size, 1, none⟩ (.slice ca nC ck)).heap[w.heap.size]? = some (.cells #[.slice sa nS sk, .slice ca nC ck] 26) := set2_blk _ _ _ _ _ _ _ ST.out.r
    have nz := ST.out.nz
    have zz : ((w7.setCell ⟨w.heap.size, 0, none⟩ (.slice sa nS sk)).setCell ⟨w.heap.size, 1, none⟩ (.slice ca nC ck)).heap[Z]? = some (.cells #[.slice sa nS sk, .slice ca nC ck] 26) := (set1_o _ _ _ _ _ nz).trans ((set1_o _ _ _ _ _ nz).trans ST.out.z)
    refine wpAnyH_ready (rs := [6]) (by kernel_rfl) (by simp) ?_
    refine AllReadyH.cons rfl (fun KK hK => ?_) AllReadyH.nil
    go_simp
    generalize ((w7.setCell ⟨w.heap.size, 0, none⟩ (.slice sa nS sk)).setCell ⟨w.heap.size, 1, none⟩ (.slice ca nC ck)) = w9 at *
    refine hK.out _ _ (by exact ⟨by simp [World.cell?, zz], by simp [World.cell?, zz]⟩) (fun hHeld => ?_)
    clear hK KK r0 r1 r2 r3 zz
    refine takeD (i := 7) (v := .int .i64 (y - 1)) (some 3) rfl rfl (by kernel_rfl) (by kernel_rfl) (by kernel_rfl) (fun _ _ _ h => h) (Or.inl ⟨by rfl, fun w hSw => by go_simp⟩) hHeld ?_
    simp only [Act.put, List.setIfInBounds_toArray, List.set_cons_zero, List.set_cons_succ]
    refine takeD (i := 8) (v := .string tx) (some 4) rfl rfl (by kernel_rfl) (by kernel_rfl) (by kernel_rfl) (fun _ _ _ h => h) (Or.inl ⟨by rfl, fun w hSw => by go_simp⟩) hHeld ?_
    simp only [Act.put, List.setIfInBounds_toArray, List.set_cons_zero, List.set_cons_succ]
    refine wpAnyH_done (by kernel_rfl) ?_ _
    try go_wp2_with fail
    exact bodyPost_ret (results_cell_two Try.results9 _ _ w.heap.size 26 #[.slice sa nS sk, .slice ca nC ck] (0, 0) _ rfl u1 Try.underlying26 rfl (by kernel_rfl)) rfl ⟨_, _, _, _, _, _, _, (y - 1), tx, rfl, FE.1, FE.2.1, FX.out.1, by omega, by omega, FX.out.2, (by omega), (by omega), TZ.out, FE.2.2⟩
  | true =>
    go_wp2_with fail
    refine (src_edge G w4 G a len cap ST.out.src).mono ?_
    rintro e w5 ⟨x, rfl, x0, x1, hs5, hg5⟩
    replace ST := hide (ST.out.step hs5 hg5)
    clear hs5 hg5
    go_wp2_with fail
    refine wp_region_held_drew (S := fun u => u.cell? ⟨Z, 0, none⟩ = some (.slice sa nS sk) ∧ u.cell? ⟨Z, 1, none⟩ = some (.slice ca nC ck)) (by kernel_rfl) (by have h := ST.out.draw.z; exact ⟨by simp [World.cell?, h], by simp [World.cell?, h]⟩) (fun hHeld => ?_)
    replace ST := hide ST.out.draw
    generalize w5.drew = Wd at *
    refine takeD (i := 0) (v := .agg #[.slice sa nS sk, .slice ca nC ck]) (some 19) rfl rfl (by kernel_rfl) (by kernel_rfl) (by kernel_rfl) (fun _ _ _ h => h) (Or.inl ⟨by rfl, fun w hSw => by obtain ⟨s0, s1⟩ := hSw; go_simp⟩) hHeld ?_
    simp only [Act.put, List.setIfInBounds_toArray, List.set_cons_zero, List.set_cons_succ]
    refine takeD (i := 1) (v := .int .i64 x) (some 20) rfl rfl (by kernel_rfl) (by kernel_rfl) (by kernel_rfl) (fun _ _ _ h => h) (Or.inl ⟨by rfl, fun w hSw => by go_simp⟩) hHeld ?_
    simp only [Act.put, List.setIfInBounds_toArray, List.set_cons_zero, List.set_cons_succ]
    refine takeD (i := 2) (v := .pointer (some ⟨G, 0, none⟩)) (some 21) rfl rfl (by kernel_rfl) (by kernel_rfl) (by kernel_rfl) (fun _ _ _ h => h) (Or.inl ⟨by rfl, fun w hSw => by go_simp⟩) hHeld ?_
    simp only [Act.put, List.setIfInBounds_toArray, List.set_cons_zero, List.set_cons_succ]
    refine takeD (i := 3) (v := .pointer (some ⟨G, 0, none⟩)) (some 22) rfl rfl (by kernel_rfl) (by kernel_rfl) (by kernel_rfl) (fun _ _ _ h => h) (Or.inl ⟨by rfl, fun w hSw => by go_simp⟩) hHeld ?_
    simp only [Act.put, List.setIfInBounds_toArray, List.set_cons_zero, List.set_cons_succ]
    refine wpAnyH_ready (rs := [4]) (by kernel_rfl) (by simp) ?_
    refine AllReadyH.cons rfl (fun KK hK => ?_) AllReadyH.nil
    go_simp
    refine (src_n _ _ _ a len cap 200 (by omega) ST.out.src).mono ?_
    rintro e w6 ⟨k, rfl, k0, k1, hs9, hg9⟩
    replace ST := hide (ST.out.step hs9 hg9)
    clear hs9 hg9
    obtain ⟨k, rfl⟩ := Int.eq_ofNat_of_zero_le k0
    have hk : k ≤ 199 := by omega
    go_wp2_with fail
    refine hK.out _ _ (by have h := ST.out.z; exact ⟨by simp [World.cell?, h], by simp [World.cell?, h]⟩) (fun hHeld => ?_)
    clear hK KK k0 k1
    refine wpAnyH_ready (rs := [5]) (by kernel_rfl) (by simp) ?_
    refine AllReadyH.cons rfl (fun KK hK => ?_) AllReadyH.nil
    go_simp
    refine (src_bytes _ _ _ a len cap k (by omega) ST.out.src).mono ?_
    rintro e w7 ⟨tx, rfl, htx, hs9, hg9⟩
    replace ST := hide (ST.out.step hs9 hg9)
    have TZ := hide (show tx.size ≤ 199 by omega)
    clear hs9 hg9 htx
    go_wp2_with fail
    refine hK.out _ _ (by have h := ST.out.z; exact ⟨by simp [World.cell?, h], by simp [World.cell?, h]⟩) (fun hHeld => ?_)
    clear hK KK
    have r0 : w7.cell? ⟨w.heap.size, 0, none⟩ = some (.slice none 0 0) := by have h := ST.out.r; simp [World.cell?, h]
    have r1 : w7.cell? ⟨w.heap.size, 1, none⟩ = some (.slice none 0 0) := by have h := ST.out.r; simp [World.cell?, h]
    have r2 : w7.frozen? ⟨w.heap.size, 0, none⟩ = false := by have h := ST.out.r; simp [World.frozen?, h]
    have r3 : w7.frozen? ⟨w.heap.size, 1, none⟩ = false := by have h := ST.out.r; simp [World.frozen?, h]
    have FE := ST.out.endOf (.slice sa nS sk) (.slice ca nC ck)
    have u1 : ((w7.setCell ⟨w.heap.size, 0, none⟩ (.slice sa nS sk)).setCell ⟨w.heap.size, 1, none⟩ (.slice ca nC ck)).heap[w.heap.size]? = some (.cells #[.slice sa nS sk, .slice ca nC ck] 26) := set2_blk _ _ _ _ _ _ _ ST.out.r
    have nz := ST.out.nz
    have zz : ((w7.setCell ⟨w.heap.size, 0, none⟩ (.slice sa nS sk)).setCell ⟨w.heap.size, 1, none⟩ (.slice ca nC ck)).heap[Z]? = some (.cells #[.slice sa nS sk, .slice ca nC ck] 26) := (set1_o _ _ _ _ _ nz).trans ((set1_o _ _ _ _ _ nz).trans ST.out.z)
    refine wpAnyH_ready (rs := [6]) (by kernel_rfl) (by simp) ?_
    refine AllReadyH.cons rfl (fun KK hK => ?_) AllReadyH.nil
    go_simp
    generalize ((w7.setCell ⟨w.heap.size, 0, none⟩ (.slice sa nS sk)).setCell ⟨w.heap.size, 1, none⟩ (.slice ca nC ck)) = w9 at *
    refine hK.out _ _ (by exact ⟨by simp [World.cell?, zz], by simp [World.cell?, zz]⟩) (fun hHeld => ?_)
    clear hK KK r0 r1 r2 r3 zz
    refine takeD (i := 7) (v := .int .i64 x) (some 3) rfl rfl (by kernel_rfl) (by kernel_rfl) (by kernel_rfl) (fun _ _ _ h => h) (Or.inl ⟨by rfl, fun w hSw => by go_simp⟩) hHeld ?_
    simp only [Act.put, List.setIfInBounds_toArray, List.set_cons_zero, List.set_cons_succ]
    refine takeD (i := 8) (v := .string tx) (some 4) rfl rfl (by kernel_rfl) (by kernel_rfl) (by kernel_rfl) (fun _ _ _ h => h) (Or.inl ⟨by rfl, fun w hSw => by go_simp⟩) hHeld ?_
    simp only [Act.put, List.setIfInBounds_toArray, List.set_cons_zero, List.set_cons_succ]
    refine wpAnyH_done (by kernel_rfl) ?_ _
    try go_wp2_with fail
    exact bodyPost_ret (results_cell_two Try.results9 _ _ w.heap.size 26 #[.slice sa nS sk, .slice ca nC ck] (0, 0) _ rfl u1 Try.underlying26 rfl (by kernel_rfl)) rfl ⟨_, _, _, _, _, _, _, x, tx, rfl, FE.1, FE.2.1, FX.out.1, by omega, by omega, FX.out.2, x0, x1, TZ.out, FE.2.2⟩
end Go.Proofs.Ytipeelkmmjgehab
/- The walk over the laws' lwAt: a number out of a code. -/
namespace Go.Proofs.Ytipeelkmmjgehab
open Go.RowKit

set_option maxRecDepth 100000 in
set_option maxHeartbeats 800000 in
theorem lwAt_any (w : World) (B : Nat) (a : Option Addr) (len cap : Nat) (p most : Int) (hl : len ≤ 1048576) (hp0 : 0 ≤ p) (hp1 : p ≤ 1000) (hm : most ≤ 4611686018427387904) (hby : BytesIn w B a len) :
    Calls Try.prog 16 #[.slice a len cap, .int .i64 p, .int .i64 most] w fun e w' => ∃ v : Int, e = .returned (.int .i64 v) ∧ 0 ≤ v ∧ (v < most ∨ v = 0) ∧ w = w' := by
  by_cases h1 : most ≤ 1
  · clear hby
    go_enter Try.func16, Try.ntmps16
    go_wp2_with fail
    go_ret
    exact ⟨0, rfl, by omega, .inr rfl, rfl⟩
  by_cases h2 : len = 0
  · subst h2
    clear hby
    go_enter Try.func16, Try.ntmps16
    go_wp2_with fail
    go_ret
    exact ⟨0, rfl, by omega, .inr rfl, rfl⟩
  rcases hby with h0 | ⟨b, off, rfl, hb, hc⟩
  · omega
  have hlp : (0 : Int) < (len : Int) := by omega
  have hne : ((len : Int) == 0) = false := by simp; omega
  obtain ⟨q, rfl⟩ := Int.eq_ofNat_of_zero_le hp0
  have hq : q % len < len := Nat.mod_lt _ (by omega)
  obtain ⟨z, z0, z1, hz⟩ := hc (q % len) hq
  have hq1 : (q : Int) % (len : Int) < (len : Int) := by omega
  have hq0 : 0 ≤ (q : Int) % (len : Int) := by omega
  have hqn : ((q : Int) % (len : Int)).toNat = q % len := by omega
  have m0 := Int.emod_nonneg z (show most ≠ 0 by omega)
  have m1 := Int.emod_lt_of_pos z (show 0 < most by omega)
  clear hc
  go_enter Try.func16, Try.ntmps16
  go_wp2_with fail
  go_ret
  exact ⟨_, rfl, m0, .inl m1, rfl⟩
end Go.Proofs.Ytipeelkmmjgehab
/- The walk over the law of disks (written by mkfd.py). -/
namespace Go.Proofs.Ytipeelkmmjgehab
open Go Go.RowKit
theorem field_dcode (x y : Value) (s : ByteArray) (c : Int) (w : World) : (Instr.field 30 (.agg #[x, y, .string s, .int .i64 c]) 2).run Try.prog w = .ok (.int .i64 c) w := by kernel_rfl
theorem field_dtext (x y : Value) (s : ByteArray) (c : Int) (w : World) : (Instr.field 30 (.agg #[x, y, .string s, .int .i64 c]) 1).run Try.prog w = .ok (.string s) w := by kernel_rfl
set_option maxRecDepth 100000 in
set_option maxHeartbeats 3200000 in
theorem fnDisk_main (a0 : Option Addr) (len0 cap0 : Nat) (a1 : Option Addr) (len1 cap1 : Nat) (w : World) (hl0 : len0 ≤ 1048576) (hl1 : len1 ≤ 1048576) (hb0 : BytesIn w w.heap.size a0 len0) (hb1 : BytesIn w w.heap.size a1 len1) :
    Calls Try.prog 3 #[.slice a0 len0 cap0, .slice a1 len1 cap1] w fun e w' => e = .returned (.bool true) ∧ Below w.heap.size w w' := by
  have h0' : ¬ (1048576 : Int) < (len0 : Int) := by omega
  have h0d : decide ((1048576 : Int) < (len0 : Int)) = false := decide_eq_false h0'
  have h1' : ¬ (1048576 : Int) < (len1 : Int) := by omega
  have h1d : decide ((1048576 : Int) < (len1 : Int)) = false := decide_eq_false h1'
  have HB0 := hide hb0
  have HB1 := hide hb1
  clear hb0 hb1
  go_enter Try.func3, Try.ntmps3
  go_wp2_with fail
  refine (drawDiskWrite_any _ a0 len0 cap0 hl0 HB0.out).mono ?_
  rintro e w1 ⟨sv, cv, nS, S, nC, A, X, an, tx, rfl, o1, o2, hap, hnS, hnC, hsm, an0, an1, htx, hg1⟩
  obtain ⟨sa, sk, e1⟩ := own_slice o1
  obtain ⟨ca, ck, e2⟩ := own_slice o2
  subst e1 e2
  have y0 : Below w1.heap.size w1 (w1.alloc (.cells #[.slice sa nS sk, .slice ca nC ck] 26)) := (Below.refl _ _).alloc (Nat.le_refl _) _
  have y1 := hide (heap_alloc_new w1 (.cells #[.slice sa nS sk, .slice ca nC ck] 26))
  have B1 := grownBy_toBelow hg1
  have I1 := hide (show dkA (w1.alloc (.cells #[.slice sa nS sk, .slice ca nC ck] 26)) sa sk ca ck nS S nC A X from dkA.below (own_dsk o1 o2) y0)
  have M1 := hide (show Below w.heap.size w (w1.alloc (.cells #[.slice sa nS sk, .slice ca nC ck] 26)) from B1.trans (y0.mono B1.size))
  have HSM := hide hsm
  clear hg1 o1 o2 hap y0 B1 HB0 hsm h0' h0d h1' h1d
  go_upto_region 4 with fail
  obtain ⟨D, hD⟩ : ∃ D, D = w1.heap.size := ⟨_, rfl⟩
  rw [← hD] at y1 ⊢
  clear hD
  generalize w1.alloc (.cells #[.slice sa nS sk, .slice ca nC ck] 26) = w2 at *
  have d0 : w2.cell? ⟨D, 0, none⟩ = some (.slice sa nS sk) := by have h := y1.out; simp [World.cell?, h]
  have d1 : w2.cell? ⟨D, 1, none⟩ = some (.slice ca nC ck) := by have h := y1.out; simp [World.cell?, h]
  go_wp2_with fail
  refine (imp_diskWrite_all _ nS S nC A X an tx _ (by omega) (by omega) (by omega) I1.out).mono ?_
  rintro e w3 ⟨xa, xn, xk, ya, yn, yk, c, rfl, hco, h00, hb3⟩
  clear d0 d1
  have y2 := hide (blk_below y1.out hb3)
  have I2 := hide (I1.out.below hb3)
  have M2 := hide (M1.out.trans (hb3.mono M1.out.size))
  have HCO := hide hco
  have H00 := hide h00
  clear hb3 y1 I1 M1 hco h00
  have n0 : Below w3.heap.size w3 (w3.alloc (.cells #[.slice xa xn xk, .slice ya yn yk, .string ⟨#[]⟩, .int .i64 c] 30)) := (Below.refl _ _).alloc (Nat.le_refl _) _
  have x1 := hide (heap_alloc_new w3 (.cells #[.slice xa xn xk, .slice ya yn yk, .string ⟨#[]⟩, .int .i64 c] 30))
  have N0 := hide n0
  clear n0
  go_upto_region 5 with fail
  obtain ⟨E, hE⟩ : ∃ E, E = w3.heap.size := ⟨_, rfl⟩
  rw [← hE] at x1 ⊢
  clear hE
  have y3 := hide (blk_below y2.out N0.out)
  have I3 := hide (I2.out.below N0.out)
  have M3 := hide (M2.out.trans (N0.out.mono M2.out.size))
  have J3 := hide (show c = 0 → (xn = nS ∧ yn = nC + manyW tx) ∧ dkA (w3.alloc (.cells #[.slice xa xn xk, .slice ya yn yk, .string ⟨#[]⟩, .int .i64 c] 30)) xa xk ya yk nS S (nC + manyW tx) (wrA A nC an) (wrX X nC tx) from fun h0 => by
      obtain ⟨⟨k1, k2⟩, k3⟩ := H00.out h0
      subst k1 k2
      exact ⟨⟨rfl, rfl⟩, dkA.below k3 N0.out⟩)
  clear y2 I2 M2 N0 H00
  generalize w3.alloc (.cells #[.slice xa xn xk, .slice ya yn yk, .string ⟨#[]⟩, .int .i64 c] 30) = w4 at *
  by_cases hc : c = 0
  · subst hc
    refine wp_region_held_drew (S := fun u => u.cell? ⟨D, 0, none⟩ = some (.slice sa nS sk) ∧ u.cell? ⟨D, 1, none⟩ = some (.slice ca nC ck) ∧ u.cell? ⟨E, 3, none⟩ = some (.int .i64 0)) (by kernel_rfl) (by have h := (blk_below y3.out (Below.refl _ _).drew); have k := (blk_below x1.out (Below.refl _ _).drew); exact ⟨by simp [World.cell?, h], by simp [World.cell?, h], by simp [World.cell?, k]⟩) (fun hHeld => ?_)
    replace y3 := hide (blk_below y3.out (Below.refl _ _).drew)
    replace x1 := hide (blk_below x1.out (Below.refl _ _).drew)
    replace I3 := hide (I3.out.below (Below.refl _ _).drew)
    replace M3 := hide (M3.out.trans ((Below.refl _ w4).drew.mono M3.out.size))
    replace J3 := hide (fun h0 : 0 = 0 => And.intro (J3.out h0).1 ((J3.out h0).2.below (Below.refl _ w4).drew))
    generalize w4.drew = Wd at *
    refine takeD (i := 0) (v := .pointer (some ⟨E, 3, none⟩)) (some 35) rfl rfl (by kernel_rfl) (by kernel_rfl) (by kernel_rfl) (fun _ _ _ h => h) (Or.inl ⟨by rfl, fun w hSw => by go_simp⟩) hHeld ?_
    simp only [Act.put, List.setIfInBounds_toArray, List.set_cons_zero, List.set_cons_succ]
    refine takeD (i := 1) (v := .int .i64 0) (some 36) rfl rfl (by kernel_rfl) (by kernel_rfl) (by kernel_rfl) (fun _ _ _ h => h) (Or.inl ⟨by rfl, fun w hSw => by obtain ⟨s0, s1, s2⟩ := hSw; go_simp⟩) hHeld ?_
    simp only [Act.put, List.setIfInBounds_toArray, List.set_cons_zero, List.set_cons_succ]
    refine takeD (i := 2) (v := .agg #[.slice sa nS sk, .slice ca nC ck]) (some 37) rfl rfl (by kernel_rfl) (by kernel_rfl) (by kernel_rfl) (fun _ _ _ h => h) (Or.inl ⟨by rfl, fun w hSw => by obtain ⟨s0, s1, s2⟩ := hSw; go_simp⟩) hHeld ?_
    simp only [Act.put, List.setIfInBounds_toArray, List.set_cons_zero, List.set_cons_succ]
    refine takeD (i := 3) (v := .int .i64 an) (some 38) rfl rfl (by kernel_rfl) (by kernel_rfl) (by kernel_rfl) (fun _ _ _ h => h) (Or.inl ⟨by rfl, fun w hSw => by go_simp⟩) hHeld ?_
    simp only [Act.put, List.setIfInBounds_toArray, List.set_cons_zero, List.set_cons_succ]
    refine takeD (i := 4) (v := .string tx) (some 39) rfl rfl (by kernel_rfl) (by kernel_rfl) (by kernel_rfl) (fun _ _ _ h => h) (Or.inl ⟨by rfl, fun w hSw => by go_simp⟩) hHeld ?_
    simp only [Act.put, List.setIfInBounds_toArray, List.set_cons_zero, List.set_cons_succ]
    refine wpAnyH_ready (rs := [5]) (by kernel_rfl) (by simp) ?_
    refine AllReadyH.cons rfl (fun KK hK => ?_) AllReadyH.nil
    go_simp
    refine (spec_diskWrite_all _ nS S nC A X an tx _ (by omega) (by omega) (by omega) I3.out).mono ?_
    rintro e w5 ⟨s6, c6, c2, rfl, hc2, hb5⟩
    obtain rfl := wrCode_one HCO.out hc2
    have y4 := hide (blk_below y3.out hb5)
    have x2 := hide (blk_below x1.out hb5)
    have I4 := hide (I3.out.below hb5)
    have M4 := hide (M3.out.trans (hb5.mono M3.out.size))
    have J4 := hide (fun h0 : 0 = 0 => And.intro (J3.out h0).1 ((J3.out h0).2.below hb5))
    clear hc2 hb5 y3 x1 I3 M3 J3
    go_wp2_with fail
    refine hK.out _ _ (by have h := y4.out; have k := x2.out; exact ⟨by simp [World.cell?, h], by simp [World.cell?, h], by simp [World.cell?, k]⟩) (fun hHeld => ?_)
    clear hK KK
    refine takeD (i := 6) (v := .int .i64 0) (some 41) rfl rfl (by kernel_rfl) (by kernel_rfl) (by kernel_rfl) (fun _ _ _ h => h) (Or.inl ⟨by rfl, fun w hSw => by first | exact field_dcode _ _ _ _ _ | (go_simp; rw [field_dcode]; rfl)⟩) hHeld ?_
    simp only [Act.put, List.setIfInBounds_toArray, List.set_cons_zero, List.set_cons_succ]
    refine takeD (i := 7) (v := .bool false) (some 42) rfl rfl (by kernel_rfl) (by kernel_rfl) (by kernel_rfl) (fun _ _ _ h => h) (Or.inl ⟨by rfl, fun w hSw => by go_simp⟩) hHeld ?_
    simp only [Act.put, List.setIfInBounds_toArray, List.set_cons_zero, List.set_cons_succ]
    refine takeD (i := 8) (v := .bool false) (some 43) rfl rfl (by kernel_rfl) (by kernel_rfl) (by kernel_rfl) (fun _ _ _ h => h) (Or.inl ⟨by rfl, fun w hSw => by go_simp⟩) hHeld ?_
    simp only [Act.put, List.setIfInBounds_toArray, List.set_cons_zero, List.set_cons_succ]
    refine takeD (i := 9) (v := .pointer (some ⟨E, 3, none⟩)) (some 44) rfl rfl (by kernel_rfl) (by kernel_rfl) (by kernel_rfl) (fun _ _ _ h => h) (Or.inl ⟨by rfl, fun w hSw => by go_simp⟩) hHeld ?_
    simp only [Act.put, List.setIfInBounds_toArray, List.set_cons_zero, List.set_cons_succ]
    refine takeD (i := 10) (v := .int .i64 0) (some 45) rfl rfl (by kernel_rfl) (by kernel_rfl) (by kernel_rfl) (fun _ _ _ h => h) (Or.inl ⟨by rfl, fun w hSw => by obtain ⟨s0, s1, s2⟩ := hSw; go_simp⟩) hHeld ?_
    simp only [Act.put, List.setIfInBounds_toArray, List.set_cons_zero, List.set_cons_succ]
    refine takeD (i := 11) (v := .bool false) (some 46) rfl rfl (by kernel_rfl) (by kernel_rfl) (by kernel_rfl) (fun _ _ _ h => h) (Or.inl ⟨by rfl, fun w hSw => by go_simp⟩) hHeld ?_
    simp only [Act.put, List.setIfInBounds_toArray, List.set_cons_zero, List.set_cons_succ]
    refine takeD (i := 12) (v := .bool false) (some 47) rfl rfl (by kernel_rfl) (by kernel_rfl) (by kernel_rfl) (fun _ _ _ h => h) (Or.inl ⟨by rfl, fun w hSw => by go_simp⟩) hHeld ?_
    simp only [Act.put, List.setIfInBounds_toArray, List.set_cons_zero, List.set_cons_succ]
    refine wpAnyH_done (by kernel_rfl) ?_ _
    obtain ⟨⟨k1, k2⟩, j1⟩ := J4.out (by first | rfl | trivial)
    replace k1 := k1.symm
    subst k1 k2
    obtain ⟨hok, hr, hf⟩ : dskOk nS S nC A X ∧ (0 ≤ an ∧ an ≤ (nS : Int) - (manyW tx : Int)) ∧ (nC : Int) + (manyW tx : Int) ≤ 400 := by
      rcases HCO.out with ⟨h, _⟩ | ⟨h, _⟩ | ⟨h, _⟩ | ⟨_, h1, h2, h3⟩
      · cases h
      · cases h
      · cases h
      · exact ⟨h1, h2, h3⟩
    obtain ⟨p, rfl⟩ := Int.eq_ofNat_of_zero_le hr.1
    have hOK2 := wr_ok hok hr (by omega)
    have TKE := hide (rdT_take S nC A X p tx)
    have TSZ := hide (rdT_size S nC A X p tx)
    have OUT := hide (fun k (h : ¬ (p ≤ k ∧ k < p + manyW tx)) => (flF_new S A X nC p tx (manyW tx) k).trans (if_neg h))
    obtain ⟨m, hm⟩ : ∃ m, m = manyW tx := ⟨_, rfl⟩
    have hpm : p + m ≤ nS := by omega
    have hm4 : m ≤ 4 := by rw [hm]; unfold manyW; omega
    have q0 : (tx.size : Int) + 64 - 1 = ((tx.size + 63 : Nat) : Int) := by omega
    have q1 : Int.tdiv ((tx.size : Int) + 64 - 1) 64 = (m : Int) := by rw [q0, hm]; rfl
    have hc4 : nC + m ≤ 400 := by omega
    have x2b := x2.out
    rw [← hm] at j1 hOK2 TKE TSZ OUT x2b
    clear hm q0 x2
    obtain ⟨nC2, hn2⟩ : ∃ x, x = nC + m := ⟨_, rfl⟩
    obtain ⟨A2, hA2⟩ : ∃ x, x = wrA A nC (p : Int) := ⟨_, rfl⟩
    obtain ⟨X2, hX2⟩ : ∃ x, x = wrX X nC tx := ⟨_, rfl⟩
    rw [← hn2, ← hA2, ← hX2] at j1 hOK2 TKE TSZ OUT
    rw [← hn2] at x2b
    have hn4 : nC2 ≤ 400 := by omega
    have hC0 : nC ≤ 400 := by omega
    have CUTN := hide hn2
    clear hn2 hA2 hX2 J4 HCO hr hf hc4
    have OK := hide hok
    have OK2 := hide hOK2
    clear hok hOK2
    have ST := hide (show FdSt w a1 len1 D E w5 sa sk ca ck xa xk ya yk nS S nC A X nC2 A2 X2 from ⟨y4.out, x2b, I4.out, j1, HB1.out.lowD M4.out, M4.out⟩)
    clear y4 x2b I4 j1 M4 HB1
    obtain ⟨TX, hTX⟩ : ∃ x, x = rdT S nC2 A2 X2 p m := ⟨_, rfl⟩
    rw [← hTX] at TKE TSZ
    have HTX := hide hTX
    clear hTX
    have e0 : w5.cell? ⟨E, 0, none⟩ = some (.slice xa nS xk) := by have h := ST.out.e; simp [World.cell?, h]
    have e1 : w5.cell? ⟨E, 1, none⟩ = some (.slice ya nC2 yk) := by have h := ST.out.e; simp [World.cell?, h]
    have e2 : w5.cell? ⟨E, 2, none⟩ = some (.string ⟨#[]⟩) := by have h := ST.out.e; simp [World.cell?, h]
    have e3 : w5.cell? ⟨E, 3, none⟩ = some (.int .i64 0) := by have h := ST.out.e; simp [World.cell?, h]
    go_wp2_with fail
    refine (imp_readF xa xk ya yk nS S nC2 A2 X2 p m w5 OK2.out (by omega) (by omega) ST.out.j).mono ?_
    rintro e w6 ⟨rfl, hb6⟩
    rw [← HTX.out]
    clear e0 e1 e2 e3
    replace ST := hide (ST.out.below hb6)
    clear hb6
    have n0 := hide ((Below.refl w6.heap.size w6).alloc (Nat.le_refl _) (.cells #[.slice none 0 0, .slice none 0 0, .string TX, .int .i64 0] 30))
    have f0 := hide (heap_alloc_new w6 (.cells #[.slice none 0 0, .slice none 0 0, .string TX, .int .i64 0] 30))
    go_upto_region 9 with fail
    obtain ⟨F, hF⟩ : ∃ F, F = w6.heap.size := ⟨_, rfl⟩
    rw [← hF] at f0 ⊢
    clear hF
    replace ST := hide (ST.out.below n0.out)
    clear n0
    generalize w6.alloc (.cells #[.slice none 0 0, .slice none 0 0, .string TX, .int .i64 0] 30) = w7 at *
    have e0 : w7.cell? ⟨E, 0, none⟩ = some (.slice xa nS xk) := by have h := ST.out.e; simp [World.cell?, h]
    have e1 : w7.cell? ⟨E, 1, none⟩ = some (.slice ya nC2 yk) := by have h := ST.out.e; simp [World.cell?, h]
    have e2 : w7.cell? ⟨E, 2, none⟩ = some (.string ⟨#[]⟩) := by have h := ST.out.e; simp [World.cell?, h]
    have e3 : w7.cell? ⟨E, 3, none⟩ = some (.int .i64 0) := by have h := ST.out.e; simp [World.cell?, h]
    go_wp2_with fail
    refine (imp_flushF xa xk ya yk nS S nC2 A2 X2 w7 OK2.out ST.out.j).mono ?_
    rintro e w8 ⟨pa, pk, qa, qk, rfl, hfl, hb8⟩
    clear e0 e1 e2 e3
    replace ST := hide (ST.out.below hb8)
    replace f0 := hide (blk_below f0.out hb8)
    have HFL := hide hfl
    clear hfl hb8
    go_wp2_with fail
    refine (imp_readF pa pk qa qk nS _ 0 A2 X2 p m w8 (okF_flush _ OK2.out) (by omega) (by omega) HFL.out).mono ?_
    rintro e w9 ⟨rfl, hb9⟩
    rw [rdT_flushed S _ nC2 A2 X2 A2 X2 p m (fun i hi => rfl), ← HTX.out]
    replace ST := hide (ST.out.below hb9)
    replace f0 := hide (blk_below f0.out hb9)
    clear hb9 HFL
    have n0 := hide ((Below.refl w9.heap.size w9).alloc (Nat.le_refl _) (.cells #[.slice none 0 0, .slice none 0 0, .string TX, .int .i64 0] 30))
    have g0 := hide (heap_alloc_new w9 (.cells #[.slice none 0 0, .slice none 0 0, .string TX, .int .i64 0] 30))
    go_upto_region 10 with fail
    obtain ⟨G, hF⟩ : ∃ F, F = w9.heap.size := ⟨_, rfl⟩
    rw [← hF] at g0 ⊢
    clear hF
    replace ST := hide (ST.out.below n0.out)
    replace f0 := hide (blk_below f0.out n0.out)
    clear n0
    generalize w9.alloc (.cells #[.slice none 0 0, .slice none 0 0, .string TX, .int .i64 0] 30) = w10 at *
    have e0 : w10.cell? ⟨E, 0, none⟩ = some (.slice xa nS xk) := by have h := ST.out.e; simp [World.cell?, h]
    have e1 : w10.cell? ⟨E, 1, none⟩ = some (.slice ya nC2 yk) := by have h := ST.out.e; simp [World.cell?, h]
    have e2 : w10.cell? ⟨E, 2, none⟩ = some (.string ⟨#[]⟩) := by have h := ST.out.e; simp [World.cell?, h]
    have e3 : w10.cell? ⟨E, 3, none⟩ = some (.int .i64 0) := by have h := ST.out.e; simp [World.cell?, h]
    go_wp2_with fail
    refine (imp_diskRight _ nS S nC2 A2 X2 w10 (by omega) (by omega) ST.out.j).mono ?_
    rintro e w11 ⟨⟨r, rfl, hrt⟩, hb11⟩
    obtain rfl := hrt.2 OK2.out
    clear e0 e1 e2 e3 hrt
    replace ST := hide (ST.out.below hb11)
    replace f0 := hide (blk_below f0.out hb11)
    replace g0 := hide (blk_below g0.out hb11)
    clear hb11
    have f1 : w11.cell? ⟨F, 1, none⟩ = some (.slice none 0 0) := by have h := f0.out; simp [World.cell?, h]
    have f2 : w11.cell? ⟨F, 2, none⟩ = some (.string TX) := by have h := f0.out; simp [World.cell?, h]
    have f3 : w11.cell? ⟨F, 3, none⟩ = some (.int .i64 0) := by have h := f0.out; simp [World.cell?, h]
    have g1 : w11.cell? ⟨G, 1, none⟩ = some (.slice none 0 0) := by have h := g0.out; simp [World.cell?, h]
    have g2 : w11.cell? ⟨G, 2, none⟩ = some (.string TX) := by have h := g0.out; simp [World.cell?, h]
    have g3 : w11.cell? ⟨G, 3, none⟩ = some (.int .i64 0) := by have h := g0.out; simp [World.cell?, h]
    have tt : (TX.toList == TX.toList) = true := str_eq rfl
    have tt2 : (tx.toList == tx.toList) = true := str_eq rfl
    obtain ⟨q, hq⟩ : ∃ q : Nat, q = 64 * m := ⟨_, rfl⟩
    have hTs : TX.size = q := by rw [hq]; exact TSZ.out
    have hwq : IntKind.i64.wrap ((m : Int) * 64) = (q : Int) := by simp only [IntKind.wrap_i64]; omega
    have hle : tx.size ≤ TX.size := by
      have h := congrArg ByteArray.size TKE.out
      rw [ByteArray.size_extract] at h
      omega
    have hsl := fun W => (show (Instr.slice 9 (.string TX) none (some (.int .i64 (tx.size : Int))) none).run Try.prog W = .ok (.string tx) W by rw [run_slice_string_h W 9 TX Try.underlying9 .i64 (tx.size : Int) (by omega) (by omega), Int.toNat_natCast, TKE.out])
    clear hq hle
    go_upto_region 12 with fail
    clear f1 f2 f3 g1 g2 g3 tt tt2 hsl hTs hwq f0 g0 TKE TSZ HTX
    have e0 : w11.cell? ⟨E, 0, none⟩ = some (.slice xa nS xk) := by have h := ST.out.e; simp [World.cell?, h]
    have e1 : w11.cell? ⟨E, 1, none⟩ = some (.slice ya nC2 yk) := by have h := ST.out.e; simp [World.cell?, h]
    have e2 : w11.cell? ⟨E, 2, none⟩ = some (.string ⟨#[]⟩) := by have h := ST.out.e; simp [World.cell?, h]
    have e3 : w11.cell? ⟨E, 3, none⟩ = some (.int .i64 0) := by have h := ST.out.e; simp [World.cell?, h]
    obtain ⟨ib, hib, hzb0, hzb1, hzb2⟩ := info_parts Try.infoBoF
    go_wp2_with (at_make; refine wpList_make_full _ rfl _ _ 35 rfl w11.heap.size 4 ib (.bool false) 1 Try.underlying35 hib hzb0 hzb1 .i64 .i64 _ _ nC2 rfl rfl (by omega) (by omega) ?m1 ?m2 (Nat.le_refl _) ?_)
    case m1 => rw [hzb2]; omega
    case m2 => unfold maxLen; omega
    intro w12 hown hg12
    rw [bolL_made] at hown
    have B12 := hide (grownBy_toBelow hg12)
    obtain ⟨L, hL⟩ : ∃ L, L = w11.heap.size := ⟨_, rfl⟩
    rw [← hL] at hown B12 ⊢
    have HL := hide hL
    have OW0 := hide hown
    clear hL hown hg12 e0 e1 e2 e3 hib hzb0 hzb1 hzb2
    go_wp2_with fail
    go_loopw [13] (fun i wx => ∃ k : Nat, k ≤ nC2 ∧ i = .int .i64 k ∧ Hid (wx.ownsRow L 4 1 (.slice (some ⟨L, 0, none⟩) nC2 nC2) nC2 (bolL nC2 k)) ∧ Hid (Below L w11 wx)) (fun i _ => nC2 - (intOf i).toNat)
    case atStart => exact ⟨0, by omega, rfl, OW0, B12⟩
    case round =>
      clear OW0 B12
      obtain ⟨k, hk, rfl, OW, BW⟩ := hrel
      by_cases hlt : k < nC2
      · have hd : decide ((k : Int) < (nC2 : Int)) = true := decide_eq_true (by omega)
        have hdn : decide (k < nC2) = true := decide_eq_true hlt
        have c0 := (OW.out.cellAt k (by omega)).trans (bolL_at nC2 k k hlt)
        have c1 := OW.out.frozenAt k
        have OW2 := hide (OW.out.stored k (.bool true))
        have BW2 := hide (BW.out.trans (grownBy_below OW2.out.2 (Nat.le_refl L) (Nat.le_of_lt (OW.out.lt L rfl).2)))
        go_wp2_with fail
        go_roundw
        case rel => exact ⟨k + 1, by omega, by go_num, hide (by rw [← bolL_set nC2 k hlt]; exact OW2.out.1), BW2⟩
        case measure => simp [intOf]; omega
      · have hk2 : nC2 = k := by omega
        subst hk2
        have BW2 : Below w11.heap.size w11 wr := by have h := BW.out; rw [HL.out] at h; exact h
        replace ST := hide (ST.out.below BW2)
        clear BW BW2 HL
        have e0 : wr.cell? ⟨E, 0, none⟩ = some (.slice xa nS xk) := by have h := ST.out.e; simp [World.cell?, h]
        have e1 : wr.cell? ⟨E, 1, none⟩ = some (.slice ya nC2 yk) := by have h := ST.out.e; simp [World.cell?, h]
        have e2 : wr.cell? ⟨E, 2, none⟩ = some (.string ⟨#[]⟩) := by have h := ST.out.e; simp [World.cell?, h]
        have e3 : wr.cell? ⟨E, 3, none⟩ = some (.int .i64 0) := by have h := ST.out.e; simp [World.cell?, h]
        go_wp2_with fail
        refine (imp_crashF xa xk ya yk nS S nC2 A2 X2 (some ⟨L, 0, none⟩) nC2 nC2 (fun _ => true) wr (by omega) (booI_of OW.out) OK2.out ST.out.j).mono ?_
        rintro e w14 ⟨ra, rk, ta, tk, rfl, hcr, hb14⟩
        obtain ⟨SC, hSC⟩ : ∃ SC, SC = flS S A2 X2 (fun j => decide (j < nC2) && true) nC2 := ⟨_, rfl⟩
        have OKC := hide (okF_flush (fun j => decide (j < nC2) && true) OK2.out)
        rw [← hSC] at hcr OKC
        have HSC := hide (show ∀ j, SC j = flS S A2 X2 (fun _ => true) nC2 j from fun j => by rw [hSC]; exact flF_kp S A2 X2 _ _ nC2 (fun i hi => by simp [hi]) j)
        have CR := hide hcr
        replace ST := hide (ST.out.below hb14)
        clear hSC hcr hb14 OW e0 e1 e2 e3
        have n0 := hide ((Below.refl w14.heap.size w14).alloc (Nat.le_refl _) (.cells #[.slice ra nS rk, .slice ta 0 tk] 26))
        have h0 := hide (heap_alloc_new w14 (.cells #[.slice ra nS rk, .slice ta 0 tk] 26))
        go_upto_region 18 with fail
        obtain ⟨H, hH⟩ : ∃ H, H = w14.heap.size := ⟨_, rfl⟩
        rw [← hH] at h0 ⊢
        clear hH
        replace ST := hide (ST.out.below n0.out)
        replace CR := hide (CR.out.below n0.out)
        clear n0
        generalize w14.alloc (.cells #[.slice ra nS rk, .slice ta 0 tk] 26) = w15 at *
        have d0 : w15.cell? ⟨D, 0, none⟩ = some (.slice sa nS sk) := by have h := ST.out.d; simp [World.cell?, h]
        have d1 : w15.cell? ⟨D, 1, none⟩ = some (.slice ca nC ck) := by have h := ST.out.d; simp [World.cell?, h]
        go_wp2_with fail
        refine (lwAt_any w15 _ a1 len1 cap1 0 (nS : Int) hl1 (by omega) (by omega) (by omega) ST.out.m).mono ?_
        rintro e w16 ⟨v, rfl, v0, v1, rfl⟩
        obtain ⟨v, rfl⟩ := Int.eq_ofNat_of_zero_le v0
        clear v0 d0 d1
        go_upto_region 19 with fail
        go_cut [157] from 130 to 157 (fun x wx => x = .bool false ∧ Hid (FdSt w a1 len1 D E wx sa sk ca ck xa xk ya yk nS S nC A X nC2 A2 X2) ∧ Hid (wx.heap[H]? = some (.cells #[.slice ra nS rk, .slice ta 0 tk] 26)) ∧ Hid (dkA wx ra rk ta tk nS SC 0 A2 X2))
        case first =>
          have hwp : IntKind.i64.wrap ((p : Int) + (m : Int)) = (p : Int) + (m : Int) := by simp only [IntKind.wrap_i64]; omega
          by_cases hS0 : 0 < nS
          · have b1 : decide ((0 : Int) < (nS : Int)) = true := decide_eq_true (by omega)
            have b2 : decide (0 < nS) = true := decide_eq_true (by omega)
            by_cases hvp : v < p
            · have b3 : decide ((v : Int) < (p : Int)) = true := decide_eq_true (by omega)
              have b4 : decide (v < p) = true := decide_eq_true (by omega)
              refine wp_region_held_drew (S := fun u => u.cell? ⟨D, 0, none⟩ = some (.slice sa nS sk) ∧ u.cell? ⟨D, 1, none⟩ = some (.slice ca nC ck) ∧ u.cell? ⟨E, 0, none⟩ = some (.slice xa nS xk) ∧ u.cell? ⟨E, 1, none⟩ = some (.slice ya nC2 yk)) (by kernel_rfl) (by have h := (ST.out.below (Below.refl _ _).drew).d; have k := (ST.out.below (Below.refl _ _).drew).e; exact ⟨by simp [World.cell?, h], by simp [World.cell?, h], by simp [World.cell?, k], by simp [World.cell?, k]⟩) (fun hHeld => ?_)
              replace ST := hide (ST.out.below (Below.refl _ w15).drew)
              replace h0 := hide (blk_below h0.out (Below.refl _ w15).drew)
              replace CR := hide (CR.out.below (Below.refl _ w15).drew)
              generalize w15.drew = Wd at *
              refine takeD (i := 0) (v := .pointer (some ⟨D, 0, none⟩)) (some 130) rfl rfl (by kernel_rfl) (by kernel_rfl) (by kernel_rfl) (fun _ _ _ h => h) (Or.inl ⟨by rfl, fun w hSw => by go_simp⟩) hHeld ?_
              simp only [Act.put, List.setIfInBounds_toArray, List.set_cons_zero, List.set_cons_succ]
              refine takeD (i := 1) (v := .slice sa nS sk) (some 131) rfl rfl (by kernel_rfl) (by kernel_rfl) (by kernel_rfl) (fun _ _ _ h => h) (Or.inl ⟨by rfl, fun w hSw => by obtain ⟨s0, s1, s2, s3⟩ := hSw; go_simp⟩) hHeld ?_
              simp only [Act.put, List.setIfInBounds_toArray, List.set_cons_zero, List.set_cons_succ]
              refine takeD (i := 2) (v := .int .i64 (nS : Int)) (some 132) rfl rfl (by kernel_rfl) (by kernel_rfl) (by kernel_rfl) (fun _ _ _ h => h) (Or.inl ⟨by rfl, fun w hSw => by go_simp⟩) hHeld ?_
              simp only [Act.put, List.setIfInBounds_toArray, List.set_cons_zero, List.set_cons_succ]
              refine takeD (i := 3) (v := .bool true) (some 133) rfl rfl (by kernel_rfl) (by kernel_rfl) (by kernel_rfl) (fun _ _ _ h => h) (Or.inl ⟨by rfl, fun w hSw => by go_simp⟩) hHeld ?_
              simp only [Act.put, List.setIfInBounds_toArray, List.set_cons_zero, List.set_cons_succ]
              refine takeD (i := 4) (v := .bool true) (some 134) rfl rfl (by kernel_rfl) (by kernel_rfl) (by kernel_rfl) (fun _ _ _ h => h) (Or.inl ⟨by rfl, fun w hSw => by go_simp⟩) hHeld ?_
              simp only [Act.put, List.setIfInBounds_toArray, List.set_cons_zero, List.set_cons_succ]
              refine takeD (i := 5) (v := .int .i64 (v : Int)) (some 135) rfl rfl (by kernel_rfl) (by kernel_rfl) (by kernel_rfl) (fun _ _ _ h => h) (Or.inl ⟨by rfl, fun w hSw => by go_simp⟩) hHeld ?_
              simp only [Act.put, List.setIfInBounds_toArray, List.set_cons_zero, List.set_cons_succ]
              refine takeD (i := 6) (v := .int .i64 (p : Int)) (some 136) rfl rfl (by kernel_rfl) (by kernel_rfl) (by kernel_rfl) (fun _ _ _ h => h) (Or.inl ⟨by rfl, fun w hSw => by go_simp⟩) hHeld ?_
              simp only [Act.put, List.setIfInBounds_toArray, List.set_cons_zero, List.set_cons_succ]
              refine takeD (i := 7) (v := .bool true) (some 137) rfl rfl (by kernel_rfl) (by kernel_rfl) (by kernel_rfl) (fun _ _ _ h => h) (Or.inl ⟨by rfl, fun w hSw => by go_simp⟩) hHeld ?_
              simp only [Act.put, List.setIfInBounds_toArray, List.set_cons_zero, List.set_cons_succ]
              refine takeD (i := 8) (v := .bool true) (some 138) rfl rfl (by kernel_rfl) (by kernel_rfl) (by kernel_rfl) (fun _ _ _ h => h) (Or.inl ⟨by rfl, fun w hSw => by go_simp⟩) hHeld ?_
              simp only [Act.put, List.setIfInBounds_toArray, List.set_cons_zero, List.set_cons_succ]
              refine takeD (i := 9) (v := undef) (some 139) rfl rfl (by kernel_rfl) (by kernel_rfl) (by kernel_rfl) (fun _ _ _ h => h) (Or.inr ⟨rfl, rfl⟩) hHeld ?_
              simp only [Act.put, List.setIfInBounds_toArray, List.set_cons_zero, List.set_cons_succ]
              refine takeD (i := 10) (v := undef) (some 140) rfl rfl (by kernel_rfl) (by kernel_rfl) (by kernel_rfl) (fun _ _ _ h => h) (Or.inr ⟨rfl, rfl⟩) hHeld ?_
              simp only [Act.put, List.setIfInBounds_toArray, List.set_cons_zero, List.set_cons_succ]
              refine takeD (i := 11) (v := undef) (some 141) rfl rfl (by kernel_rfl) (by kernel_rfl) (by kernel_rfl) (fun _ _ _ h => h) (Or.inr ⟨rfl, rfl⟩) hHeld ?_
              simp only [Act.put, List.setIfInBounds_toArray, List.set_cons_zero, List.set_cons_succ]
              refine takeD (i := 12) (v := undef) (some 142) rfl rfl (by kernel_rfl) (by kernel_rfl) (by kernel_rfl) (fun _ _ _ h => h) (Or.inr ⟨rfl, rfl⟩) hHeld ?_
              simp only [Act.put, List.setIfInBounds_toArray, List.set_cons_zero, List.set_cons_succ]
              refine takeD (i := 13) (v := undef) (some 143) rfl rfl (by kernel_rfl) (by kernel_rfl) (by kernel_rfl) (fun _ _ _ h => h) (Or.inr ⟨rfl, rfl⟩) hHeld ?_
              simp only [Act.put, List.setIfInBounds_toArray, List.set_cons_zero, List.set_cons_succ]
              refine takeD (i := 14) (v := .bool true) (some 144) rfl rfl (by kernel_rfl) (by kernel_rfl) (by kernel_rfl) (fun _ _ _ h => h) (Or.inl ⟨by rfl, fun w hSw => by go_simp⟩) hHeld ?_
              simp only [Act.put, List.setIfInBounds_toArray, List.set_cons_zero, List.set_cons_succ]
              refine takeD (i := 15) (v := .bool true) (some 145) rfl rfl (by kernel_rfl) (by kernel_rfl) (by kernel_rfl) (fun _ _ _ h => h) (Or.inl ⟨by rfl, fun w hSw => by go_simp⟩) hHeld ?_
              simp only [Act.put, List.setIfInBounds_toArray, List.set_cons_zero, List.set_cons_succ]
              refine takeD (i := 16) (v := .bool true) (some 146) rfl rfl (by kernel_rfl) (by kernel_rfl) (by kernel_rfl) (fun _ _ _ h => h) (Or.inl ⟨by rfl, fun w hSw => by go_simp⟩) hHeld ?_
              simp only [Act.put, List.setIfInBounds_toArray, List.set_cons_zero, List.set_cons_succ]
              refine takeD (i := 17) (v := .pointer (some ⟨E, 0, none⟩)) (some 147) rfl rfl (by kernel_rfl) (by kernel_rfl) (by kernel_rfl) (fun _ _ _ h => h) (Or.inl ⟨by rfl, fun w hSw => by go_simp⟩) hHeld ?_
              simp only [Act.put, List.setIfInBounds_toArray, List.set_cons_zero, List.set_cons_succ]
              refine takeD (i := 18) (v := .agg #[.slice xa nS xk, .slice ya nC2 yk]) (some 148) rfl rfl (by kernel_rfl) (by kernel_rfl) (by kernel_rfl) (fun _ _ _ h => h) (Or.inl ⟨by rfl, fun w hSw => by obtain ⟨s0, s1, s2, s3⟩ := hSw; go_simp⟩) hHeld ?_
              simp only [Act.put, List.setIfInBounds_toArray, List.set_cons_zero, List.set_cons_succ]
              refine takeD (i := 19) (v := .int .i64 (v : Int)) (some 149) rfl rfl (by kernel_rfl) (by kernel_rfl) (by kernel_rfl) (fun _ _ _ h => h) (Or.inl ⟨by rfl, fun w hSw => by go_simp⟩) hHeld ?_
              simp only [Act.put, List.setIfInBounds_toArray, List.set_cons_zero, List.set_cons_succ]
              refine takeD (i := 22) (v := .agg #[.slice sa nS sk, .slice ca nC ck]) (some 152) rfl rfl (by kernel_rfl) (by kernel_rfl) (by kernel_rfl) (fun _ _ _ h => h) (Or.inl ⟨by rfl, fun w hSw => by obtain ⟨s0, s1, s2, s3⟩ := hSw; go_simp⟩) hHeld ?_
              simp only [Act.put, List.setIfInBounds_toArray, List.set_cons_zero, List.set_cons_succ]
              refine takeD (i := 23) (v := .int .i64 (v : Int)) (some 153) rfl rfl (by kernel_rfl) (by kernel_rfl) (by kernel_rfl) (fun _ _ _ h => h) (Or.inl ⟨by rfl, fun w hSw => by go_simp⟩) hHeld ?_
              simp only [Act.put, List.setIfInBounds_toArray, List.set_cons_zero, List.set_cons_succ]
              refine wpAnyH_ready (rs := [20]) (by kernel_rfl) (by simp) ?_
              refine AllReadyH.cons rfl (fun KK hK => ?_) AllReadyH.nil
              go_simp
              refine (imp_read1 xa xk ya yk nS S nC2 A2 X2 v _ OK2.out (by omega) ST.out.j).mono ?_
              rintro e u1 ⟨rfl, hb9⟩
              rw [OUT.out v (by omega)]
              replace ST := hide (ST.out.below hb9)
              replace h0 := hide (blk_below h0.out hb9)
              replace CR := hide (CR.out.below hb9)
              clear hb9
              go_wp2_with fail
              refine hK.out _ _ (by have h := ST.out.d; have k := ST.out.e; exact ⟨by simp [World.cell?, h], by simp [World.cell?, h], by simp [World.cell?, k], by simp [World.cell?, k]⟩) (fun hHeld => ?_)
              clear hK KK
              obtain ⟨TT, hTT⟩ : ∃ TT, TT = flS S A X (fun _ => true) nC v := ⟨_, rfl⟩
              rw [← hTT]
              refine takeD (i := 21) (v := .string TT) (some 151) rfl rfl (by kernel_rfl) (by kernel_rfl) (by kernel_rfl) (fun _ _ _ h => h) (Or.inl ⟨by rfl, fun w hSw => by first | exact field_dtext _ _ _ _ _ | (go_simp; rw [field_dtext]; rfl)⟩) hHeld ?_
              simp only [Act.put, List.setIfInBounds_toArray, List.set_cons_zero, List.set_cons_succ]
              refine wpAnyH_ready (rs := [24]) (by kernel_rfl) (by simp) ?_
              refine AllReadyH.cons rfl (fun KK hK => ?_) AllReadyH.nil
              go_simp
              refine (spec_read1 sa sk ca ck nS S nC A X v _ OK.out (by omega) ST.out.i).mono ?_
              rintro e u2 ⟨rfl, hb9⟩
              rw [← hTT]
              replace ST := hide (ST.out.below hb9)
              replace h0 := hide (blk_below h0.out hb9)
              replace CR := hide (CR.out.below hb9)
              clear hb9 hTT
              go_wp2_with fail
              refine hK.out _ _ (by have h := ST.out.d; have k := ST.out.e; exact ⟨by simp [World.cell?, h], by simp [World.cell?, h], by simp [World.cell?, k], by simp [World.cell?, k]⟩) (fun hHeld => ?_)
              clear hK KK
              have tt := str_eq (rfl : TT = TT)
              refine takeD (i := 25) (v := .string TT) (some 155) rfl rfl (by kernel_rfl) (by kernel_rfl) (by kernel_rfl) (fun _ _ _ h => h) (Or.inl ⟨by rfl, fun w hSw => by first | exact field_dtext _ _ _ _ _ | (go_simp; rw [field_dtext]; rfl)⟩) hHeld ?_
              simp only [Act.put, List.setIfInBounds_toArray, List.set_cons_zero, List.set_cons_succ]
              refine takeD (i := 26) (v := .bool false) (some 156) rfl rfl (by kernel_rfl) (by kernel_rfl) (by kernel_rfl) (fun _ _ _ h => h) (Or.inl ⟨by rfl, fun w hSw => by go_simp⟩) hHeld ?_
              simp only [Act.put, List.setIfInBounds_toArray, List.set_cons_zero, List.set_cons_succ]
              refine takeD (i := 27) (v := .bool false) (some 157) rfl rfl (by kernel_rfl) (by kernel_rfl) (by kernel_rfl) (fun _ _ _ h => h) (Or.inl ⟨by rfl, fun w hSw => by go_simp⟩) hHeld ?_
              simp only [Act.put, List.setIfInBounds_toArray, List.set_cons_zero, List.set_cons_succ]
              refine wpAnyH_done (by kernel_rfl) ?_ _
              go_wp2_with fail
              go_meet
              case rel => exact ⟨rfl, ST, h0, CR⟩
            · have b3 : decide ((v : Int) < (p : Int)) = false := decide_eq_false (by omega)
              have b4 : decide (v < p) = false := decide_eq_false (by omega)
              by_cases hvq : p + m ≤ v
              · have b5 : decide ((p : Int) + (m : Int) ≤ (v : Int)) = true := decide_eq_true (by omega)
                have b6 : decide (p + m ≤ v) = true := decide_eq_true (by omega)
                refine wp_region_held_drew (S := fun u => u.cell? ⟨D, 0, none⟩ = some (.slice sa nS sk) ∧ u.cell? ⟨D, 1, none⟩ = some (.slice ca nC ck) ∧ u.cell? ⟨E, 0, none⟩ = some (.slice xa nS xk) ∧ u.cell? ⟨E, 1, none⟩ = some (.slice ya nC2 yk)) (by kernel_rfl) (by have h := (ST.out.below (Below.refl _ _).drew).d; have k := (ST.out.below (Below.refl _ _).drew).e; exact ⟨by simp [World.cell?, h], by simp [World.cell?, h], by simp [World.cell?, k], by simp [World.cell?, k]⟩) (fun hHeld => ?_)
                replace ST := hide (ST.out.below (Below.refl _ w15).drew)
                replace h0 := hide (blk_below h0.out (Below.refl _ w15).drew)
                replace CR := hide (CR.out.below (Below.refl _ w15).drew)
                generalize w15.drew = Wd at *
                refine takeD (i := 0) (v := .pointer (some ⟨D, 0, none⟩)) (some 130) rfl rfl (by kernel_rfl) (by kernel_rfl) (by kernel_rfl) (fun _ _ _ h => h) (Or.inl ⟨by rfl, fun w hSw => by go_simp⟩) hHeld ?_
                simp only [Act.put, List.setIfInBounds_toArray, List.set_cons_zero, List.set_cons_succ]
                refine takeD (i := 1) (v := .slice sa nS sk) (some 131) rfl rfl (by kernel_rfl) (by kernel_rfl) (by kernel_rfl) (fun _ _ _ h => h) (Or.inl ⟨by rfl, fun w hSw => by obtain ⟨s0, s1, s2, s3⟩ := hSw; go_simp⟩) hHeld ?_
                simp only [Act.put, List.setIfInBounds_toArray, List.set_cons_zero, List.set_cons_succ]
                refine takeD (i := 2) (v := .int .i64 (nS : Int)) (some 132) rfl rfl (by kernel_rfl) (by kernel_rfl) (by kernel_rfl) (fun _ _ _ h => h) (Or.inl ⟨by rfl, fun w hSw => by go_simp⟩) hHeld ?_
                simp only [Act.put, List.setIfInBounds_toArray, List.set_cons_zero, List.set_cons_succ]
                refine takeD (i := 3) (v := .bool true) (some 133) rfl rfl (by kernel_rfl) (by kernel_rfl) (by kernel_rfl) (fun _ _ _ h => h) (Or.inl ⟨by rfl, fun w hSw => by go_simp⟩) hHeld ?_
                simp only [Act.put, List.setIfInBounds_toArray, List.set_cons_zero, List.set_cons_succ]
                refine takeD (i := 4) (v := .bool true) (some 134) rfl rfl (by kernel_rfl) (by kernel_rfl) (by kernel_rfl) (fun _ _ _ h => h) (Or.inl ⟨by rfl, fun w hSw => by go_simp⟩) hHeld ?_
                simp only [Act.put, List.setIfInBounds_toArray, List.set_cons_zero, List.set_cons_succ]
                refine takeD (i := 5) (v := .int .i64 (v : Int)) (some 135) rfl rfl (by kernel_rfl) (by kernel_rfl) (by kernel_rfl) (fun _ _ _ h => h) (Or.inl ⟨by rfl, fun w hSw => by go_simp⟩) hHeld ?_
                simp only [Act.put, List.setIfInBounds_toArray, List.set_cons_zero, List.set_cons_succ]
                refine takeD (i := 6) (v := .int .i64 (p : Int)) (some 136) rfl rfl (by kernel_rfl) (by kernel_rfl) (by kernel_rfl) (fun _ _ _ h => h) (Or.inl ⟨by rfl, fun w hSw => by go_simp⟩) hHeld ?_
                simp only [Act.put, List.setIfInBounds_toArray, List.set_cons_zero, List.set_cons_succ]
                refine takeD (i := 7) (v := .bool false) (some 137) rfl rfl (by kernel_rfl) (by kernel_rfl) (by kernel_rfl) (fun _ _ _ h => h) (Or.inl ⟨by rfl, fun w hSw => by go_simp⟩) hHeld ?_
                simp only [Act.put, List.setIfInBounds_toArray, List.set_cons_zero, List.set_cons_succ]
                refine takeD (i := 8) (v := .bool false) (some 138) rfl rfl (by kernel_rfl) (by kernel_rfl) (by kernel_rfl) (fun _ _ _ h => h) (Or.inl ⟨by rfl, fun w hSw => by go_simp⟩) hHeld ?_
                simp only [Act.put, List.setIfInBounds_toArray, List.set_cons_zero, List.set_cons_succ]
                refine takeD (i := 9) (v := .int .i64 (v : Int)) (some 139) rfl rfl (by kernel_rfl) (by kernel_rfl) (by kernel_rfl) (fun _ _ _ h => h) (Or.inl ⟨by rfl, fun w hSw => by go_simp⟩) hHeld ?_
                simp only [Act.put, List.setIfInBounds_toArray, List.set_cons_zero, List.set_cons_succ]
                refine takeD (i := 10) (v := .int .i64 (p : Int)) (some 140) rfl rfl (by kernel_rfl) (by kernel_rfl) (by kernel_rfl) (fun _ _ _ h => h) (Or.inl ⟨by rfl, fun w hSw => by go_simp⟩) hHeld ?_
                simp only [Act.put, List.setIfInBounds_toArray, List.set_cons_zero, List.set_cons_succ]
                refine takeD (i := 11) (v := .int .i64 (m : Int)) (some 141) rfl rfl (by kernel_rfl) (by kernel_rfl) (by kernel_rfl) (fun _ _ _ h => h) (Or.inl ⟨by rfl, fun w hSw => by go_simp⟩) hHeld ?_
                simp only [Act.put, List.setIfInBounds_toArray, List.set_cons_zero, List.set_cons_succ]
                refine takeD (i := 12) (v := .int .i64 ((p : Int) + (m : Int))) (some 142) rfl rfl (by kernel_rfl) (by kernel_rfl) (by kernel_rfl) (fun _ _ _ h => h) (Or.inl ⟨by rfl, fun w hSw => by go_simp; try exact hwp⟩) hHeld ?_
                simp only [Act.put, List.setIfInBounds_toArray, List.set_cons_zero, List.set_cons_succ]
                refine takeD (i := 13) (v := .bool true) (some 143) rfl rfl (by kernel_rfl) (by kernel_rfl) (by kernel_rfl) (fun _ _ _ h => h) (Or.inl ⟨by rfl, fun w hSw => by go_simp⟩) hHeld ?_
                simp only [Act.put, List.setIfInBounds_toArray, List.set_cons_zero, List.set_cons_succ]
                refine takeD (i := 14) (v := .bool true) (some 144) rfl rfl (by kernel_rfl) (by kernel_rfl) (by kernel_rfl) (fun _ _ _ h => h) (Or.inl ⟨by rfl, fun w hSw => by go_simp⟩) hHeld ?_
                simp only [Act.put, List.setIfInBounds_toArray, List.set_cons_zero, List.set_cons_succ]
                refine takeD (i := 15) (v := .bool true) (some 145) rfl rfl (by kernel_rfl) (by kernel_rfl) (by kernel_rfl) (fun _ _ _ h => h) (Or.inl ⟨by rfl, fun w hSw => by go_simp⟩) hHeld ?_
                simp only [Act.put, List.setIfInBounds_toArray, List.set_cons_zero, List.set_cons_succ]
                refine takeD (i := 16) (v := .bool true) (some 146) rfl rfl (by kernel_rfl) (by kernel_rfl) (by kernel_rfl) (fun _ _ _ h => h) (Or.inl ⟨by rfl, fun w hSw => by go_simp⟩) hHeld ?_
                simp only [Act.put, List.setIfInBounds_toArray, List.set_cons_zero, List.set_cons_succ]
                refine takeD (i := 17) (v := .pointer (some ⟨E, 0, none⟩)) (some 147) rfl rfl (by kernel_rfl) (by kernel_rfl) (by kernel_rfl) (fun _ _ _ h => h) (Or.inl ⟨by rfl, fun w hSw => by go_simp⟩) hHeld ?_
                simp only [Act.put, List.setIfInBounds_toArray, List.set_cons_zero, List.set_cons_succ]
                refine takeD (i := 18) (v := .agg #[.slice xa nS xk, .slice ya nC2 yk]) (some 148) rfl rfl (by kernel_rfl) (by kernel_rfl) (by kernel_rfl) (fun _ _ _ h => h) (Or.inl ⟨by rfl, fun w hSw => by obtain ⟨s0, s1, s2, s3⟩ := hSw; go_simp⟩) hHeld ?_
                simp only [Act.put, List.setIfInBounds_toArray, List.set_cons_zero, List.set_cons_succ]
                refine takeD (i := 19) (v := .int .i64 (v : Int)) (some 149) rfl rfl (by kernel_rfl) (by kernel_rfl) (by kernel_rfl) (fun _ _ _ h => h) (Or.inl ⟨by rfl, fun w hSw => by go_simp⟩) hHeld ?_
                simp only [Act.put, List.setIfInBounds_toArray, List.set_cons_zero, List.set_cons_succ]
                refine takeD (i := 22) (v := .agg #[.slice sa nS sk, .slice ca nC ck]) (some 152) rfl rfl (by kernel_rfl) (by kernel_rfl) (by kernel_rfl) (fun _ _ _ h => h) (Or.inl ⟨by rfl, fun w hSw => by obtain ⟨s0, s1, s2, s3⟩ := hSw; go_simp⟩) hHeld ?_
                simp only [Act.put, List.setIfInBounds_toArray, List.set_cons_zero, List.set_cons_succ]
                refine takeD (i := 23) (v := .int .i64 (v : Int)) (some 153) rfl rfl (by kernel_rfl) (by kernel_rfl) (by kernel_rfl) (fun _ _ _ h => h) (Or.inl ⟨by rfl, fun w hSw => by go_simp⟩) hHeld ?_
                simp only [Act.put, List.setIfInBounds_toArray, List.set_cons_zero, List.set_cons_succ]
                refine wpAnyH_ready (rs := [20]) (by kernel_rfl) (by simp) ?_
                refine AllReadyH.cons rfl (fun KK hK => ?_) AllReadyH.nil
                go_simp
                refine (imp_read1 xa xk ya yk nS S nC2 A2 X2 v _ OK2.out (by omega) ST.out.j).mono ?_
                rintro e u1 ⟨rfl, hb9⟩
                rw [OUT.out v (by omega)]
                replace ST := hide (ST.out.below hb9)
                replace h0 := hide (blk_below h0.out hb9)
                replace CR := hide (CR.out.below hb9)
                clear hb9
                go_wp2_with fail
                refine hK.out _ _ (by have h := ST.out.d; have k := ST.out.e; exact ⟨by simp [World.cell?, h], by simp [World.cell?, h], by simp [World.cell?, k], by simp [World.cell?, k]⟩) (fun hHeld => ?_)
                clear hK KK
                obtain ⟨TT, hTT⟩ : ∃ TT, TT = flS S A X (fun _ => true) nC v := ⟨_, rfl⟩
                rw [← hTT]
                refine takeD (i := 21) (v := .string TT) (some 151) rfl rfl (by kernel_rfl) (by kernel_rfl) (by kernel_rfl) (fun _ _ _ h => h) (Or.inl ⟨by rfl, fun w hSw => by first | exact field_dtext _ _ _ _ _ | (go_simp; rw [field_dtext]; rfl)⟩) hHeld ?_
                simp only [Act.put, List.setIfInBounds_toArray, List.set_cons_zero, List.set_cons_succ]
                refine wpAnyH_ready (rs := [24]) (by kernel_rfl) (by simp) ?_
                refine AllReadyH.cons rfl (fun KK hK => ?_) AllReadyH.nil
                go_simp
                refine (spec_read1 sa sk ca ck nS S nC A X v _ OK.out (by omega) ST.out.i).mono ?_
                rintro e u2 ⟨rfl, hb9⟩
                rw [← hTT]
                replace ST := hide (ST.out.below hb9)
                replace h0 := hide (blk_below h0.out hb9)
                replace CR := hide (CR.out.below hb9)
                clear hb9 hTT
                go_wp2_with fail
                refine hK.out _ _ (by have h := ST.out.d; have k := ST.out.e; exact ⟨by simp [World.cell?, h], by simp [World.cell?, h], by simp [World.cell?, k], by simp [World.cell?, k]⟩) (fun hHeld => ?_)
                clear hK KK
                have tt := str_eq (rfl : TT = TT)
                refine takeD (i := 25) (v := .string TT) (some 155) rfl rfl (by kernel_rfl) (by kernel_rfl) (by kernel_rfl) (fun _ _ _ h => h) (Or.inl ⟨by rfl, fun w hSw => by first | exact field_dtext _ _ _ _ _ | (go_simp; rw [field_dtext]; rfl)⟩) hHeld ?_
                simp only [Act.put, List.setIfInBounds_toArray, List.set_cons_zero, List.set_cons_succ]
                refine takeD (i := 26) (v := .bool false) (some 156) rfl rfl (by kernel_rfl) (by kernel_rfl) (by kernel_rfl) (fun _ _ _ h => h) (Or.inl ⟨by rfl, fun w hSw => by go_simp⟩) hHeld ?_
                simp only [Act.put, List.setIfInBounds_toArray, List.set_cons_zero, List.set_cons_succ]
                refine takeD (i := 27) (v := .bool false) (some 157) rfl rfl (by kernel_rfl) (by kernel_rfl) (by kernel_rfl) (fun _ _ _ h => h) (Or.inl ⟨by rfl, fun w hSw => by go_simp⟩) hHeld ?_
                simp only [Act.put, List.setIfInBounds_toArray, List.set_cons_zero, List.set_cons_succ]
                refine wpAnyH_done (by kernel_rfl) ?_ _
                go_wp2_with fail
                go_meet
                case rel => exact ⟨rfl, ST, h0, CR⟩
              · have b5 : decide ((p : Int) + (m : Int) ≤ (v : Int)) = false := decide_eq_false (by omega)
                have b6 : decide (p + m ≤ v) = false := decide_eq_false (by omega)
                refine wp_region_held_drew (S := fun u => u.cell? ⟨D, 0, none⟩ = some (.slice sa nS sk) ∧ u.cell? ⟨D, 1, none⟩ = some (.slice ca nC ck) ∧ u.cell? ⟨E, 0, none⟩ = some (.slice xa nS xk) ∧ u.cell? ⟨E, 1, none⟩ = some (.slice ya nC2 yk)) (by kernel_rfl) (by have h := (ST.out.below (Below.refl _ _).drew).d; have k := (ST.out.below (Below.refl _ _).drew).e; exact ⟨by simp [World.cell?, h], by simp [World.cell?, h], by simp [World.cell?, k], by simp [World.cell?, k]⟩) (fun hHeld => ?_)
                replace ST := hide (ST.out.below (Below.refl _ w15).drew)
                replace h0 := hide (blk_below h0.out (Below.refl _ w15).drew)
                replace CR := hide (CR.out.below (Below.refl _ w15).drew)
                generalize w15.drew = Wd at *
                refine takeD (i := 0) (v := .pointer (some ⟨D, 0, none⟩)) (some 130) rfl rfl (by kernel_rfl) (by kernel_rfl) (by kernel_rfl) (fun _ _ _ h => h) (Or.inl ⟨by rfl, fun w hSw => by go_simp⟩) hHeld ?_
                simp only [Act.put, List.setIfInBounds_toArray, List.set_cons_zero, List.set_cons_succ]
                refine takeD (i := 1) (v := .slice sa nS sk) (some 131) rfl rfl (by kernel_rfl) (by kernel_rfl) (by kernel_rfl) (fun _ _ _ h => h) (Or.inl ⟨by rfl, fun w hSw => by obtain ⟨s0, s1, s2, s3⟩ := hSw; go_simp⟩) hHeld ?_
                simp only [Act.put, List.setIfInBounds_toArray, List.set_cons_zero, List.set_cons_succ]
                refine takeD (i := 2) (v := .int .i64 (nS : Int)) (some 132) rfl rfl (by kernel_rfl) (by kernel_rfl) (by kernel_rfl) (fun _ _ _ h => h) (Or.inl ⟨by rfl, fun w hSw => by go_simp⟩) hHeld ?_
                simp only [Act.put, List.setIfInBounds_toArray, List.set_cons_zero, List.set_cons_succ]
                refine takeD (i := 3) (v := .bool true) (some 133) rfl rfl (by kernel_rfl) (by kernel_rfl) (by kernel_rfl) (fun _ _ _ h => h) (Or.inl ⟨by rfl, fun w hSw => by go_simp⟩) hHeld ?_
                simp only [Act.put, List.setIfInBounds_toArray, List.set_cons_zero, List.set_cons_succ]
                refine takeD (i := 4) (v := .bool true) (some 134) rfl rfl (by kernel_rfl) (by kernel_rfl) (by kernel_rfl) (fun _ _ _ h => h) (Or.inl ⟨by rfl, fun w hSw => by go_simp⟩) hHeld ?_
                simp only [Act.put, List.setIfInBounds_toArray, List.set_cons_zero, List.set_cons_succ]
                refine takeD (i := 5) (v := .int .i64 (v : Int)) (some 135) rfl rfl (by kernel_rfl) (by kernel_rfl) (by kernel_rfl) (fun _ _ _ h => h) (Or.inl ⟨by rfl, fun w hSw => by go_simp⟩) hHeld ?_
                simp only [Act.put, List.setIfInBounds_toArray, List.set_cons_zero, List.set_cons_succ]
                refine takeD (i := 6) (v := .int .i64 (p : Int)) (some 136) rfl rfl (by kernel_rfl) (by kernel_rfl) (by kernel_rfl) (fun _ _ _ h => h) (Or.inl ⟨by rfl, fun w hSw => by go_simp⟩) hHeld ?_
                simp only [Act.put, List.setIfInBounds_toArray, List.set_cons_zero, List.set_cons_succ]
                refine takeD (i := 7) (v := .bool false) (some 137) rfl rfl (by kernel_rfl) (by kernel_rfl) (by kernel_rfl) (fun _ _ _ h => h) (Or.inl ⟨by rfl, fun w hSw => by go_simp⟩) hHeld ?_
                simp only [Act.put, List.setIfInBounds_toArray, List.set_cons_zero, List.set_cons_succ]
                refine takeD (i := 8) (v := .bool false) (some 138) rfl rfl (by kernel_rfl) (by kernel_rfl) (by kernel_rfl) (fun _ _ _ h => h) (Or.inl ⟨by rfl, fun w hSw => by go_simp⟩) hHeld ?_
                simp only [Act.put, List.setIfInBounds_toArray, List.set_cons_zero, List.set_cons_succ]
                refine takeD (i := 9) (v := .int .i64 (v : Int)) (some 139) rfl rfl (by kernel_rfl) (by kernel_rfl) (by kernel_rfl) (fun _ _ _ h => h) (Or.inl ⟨by rfl, fun w hSw => by go_simp⟩) hHeld ?_
                simp only [Act.put, List.setIfInBounds_toArray, List.set_cons_zero, List.set_cons_succ]
                refine takeD (i := 10) (v := .int .i64 (p : Int)) (some 140) rfl rfl (by kernel_rfl) (by kernel_rfl) (by kernel_rfl) (fun _ _ _ h => h) (Or.inl ⟨by rfl, fun w hSw => by go_simp⟩) hHeld ?_
                simp only [Act.put, List.setIfInBounds_toArray, List.set_cons_zero, List.set_cons_succ]
                refine takeD (i := 11) (v := .int .i64 (m : Int)) (some 141) rfl rfl (by kernel_rfl) (by kernel_rfl) (by kernel_rfl) (fun _ _ _ h => h) (Or.inl ⟨by rfl, fun w hSw => by go_simp⟩) hHeld ?_
                simp only [Act.put, List.setIfInBounds_toArray, List.set_cons_zero, List.set_cons_succ]
                refine takeD (i := 12) (v := .int .i64 ((p : Int) + (m : Int))) (some 142) rfl rfl (by kernel_rfl) (by kernel_rfl) (by kernel_rfl) (fun _ _ _ h => h) (Or.inl ⟨by rfl, fun w hSw => by go_simp; try exact hwp⟩) hHeld ?_
                simp only [Act.put, List.setIfInBounds_toArray, List.set_cons_zero, List.set_cons_succ]
                refine takeD (i := 13) (v := .bool false) (some 143) rfl rfl (by kernel_rfl) (by kernel_rfl) (by kernel_rfl) (fun _ _ _ h => h) (Or.inl ⟨by rfl, fun w hSw => by go_simp⟩) hHeld ?_
                simp only [Act.put, List.setIfInBounds_toArray, List.set_cons_zero, List.set_cons_succ]
                refine takeD (i := 14) (v := .bool false) (some 144) rfl rfl (by kernel_rfl) (by kernel_rfl) (by kernel_rfl) (fun _ _ _ h => h) (Or.inl ⟨by rfl, fun w hSw => by go_simp⟩) hHeld ?_
                simp only [Act.put, List.setIfInBounds_toArray, List.set_cons_zero, List.set_cons_succ]
                refine takeD (i := 15) (v := .bool false) (some 145) rfl rfl (by kernel_rfl) (by kernel_rfl) (by kernel_rfl) (fun _ _ _ h => h) (Or.inl ⟨by rfl, fun w hSw => by go_simp⟩) hHeld ?_
                simp only [Act.put, List.setIfInBounds_toArray, List.set_cons_zero, List.set_cons_succ]
                refine takeD (i := 16) (v := .bool false) (some 146) rfl rfl (by kernel_rfl) (by kernel_rfl) (by kernel_rfl) (fun _ _ _ h => h) (Or.inl ⟨by rfl, fun w hSw => by go_simp⟩) hHeld ?_
                simp only [Act.put, List.setIfInBounds_toArray, List.set_cons_zero, List.set_cons_succ]
                refine takeD (i := 17) (v := undef) (some 147) rfl rfl (by kernel_rfl) (by kernel_rfl) (by kernel_rfl) (fun _ _ _ h => h) (Or.inr ⟨rfl, rfl⟩) hHeld ?_
                simp only [Act.put, List.setIfInBounds_toArray, List.set_cons_zero, List.set_cons_succ]
                refine takeD (i := 18) (v := undef) (some 148) rfl rfl (by kernel_rfl) (by kernel_rfl) (by kernel_rfl) (fun _ _ _ h => h) (Or.inr ⟨rfl, rfl⟩) hHeld ?_
                simp only [Act.put, List.setIfInBounds_toArray, List.set_cons_zero, List.set_cons_succ]
                refine takeD (i := 19) (v := undef) (some 149) rfl rfl (by kernel_rfl) (by kernel_rfl) (by kernel_rfl) (fun _ _ _ h => h) (Or.inr ⟨rfl, rfl⟩) hHeld ?_
                simp only [Act.put, List.setIfInBounds_toArray, List.set_cons_zero, List.set_cons_succ]
                refine takeD (i := 22) (v := undef) (some 152) rfl rfl (by kernel_rfl) (by kernel_rfl) (by kernel_rfl) (fun _ _ _ h => h) (Or.inr ⟨rfl, rfl⟩) hHeld ?_
                simp only [Act.put, List.setIfInBounds_toArray, List.set_cons_zero, List.set_cons_succ]
                refine takeD (i := 23) (v := undef) (some 153) rfl rfl (by kernel_rfl) (by kernel_rfl) (by kernel_rfl) (fun _ _ _ h => h) (Or.inr ⟨rfl, rfl⟩) hHeld ?_
                simp only [Act.put, List.setIfInBounds_toArray, List.set_cons_zero, List.set_cons_succ]
                refine wpAnyH_ready (rs := [20]) (by kernel_rfl) (by simp) ?_
                refine AllReadyH.cons rfl (fun KK hK => ?_) AllReadyH.nil
                go_simp
                refine hK.out _ _ (by have h := ST.out.d; have k := ST.out.e; exact ⟨by simp [World.cell?, h], by simp [World.cell?, h], by simp [World.cell?, k], by simp [World.cell?, k]⟩) (fun hHeld => ?_)
                clear hK KK
                refine takeD (i := 21) (v := undef) (some 151) rfl rfl (by kernel_rfl) (by kernel_rfl) (by kernel_rfl) (fun _ _ _ h => h) (Or.inr ⟨rfl, rfl⟩) hHeld ?_
                simp only [Act.put, List.setIfInBounds_toArray, List.set_cons_zero, List.set_cons_succ]
                refine wpAnyH_ready (rs := [24]) (by kernel_rfl) (by simp) ?_
                refine AllReadyH.cons rfl (fun KK hK => ?_) AllReadyH.nil
                go_simp
                refine hK.out _ _ (by have h := ST.out.d; have k := ST.out.e; exact ⟨by simp [World.cell?, h], by simp [World.cell?, h], by simp [World.cell?, k], by simp [World.cell?, k]⟩) (fun hHeld => ?_)
                clear hK KK
                refine takeD (i := 25) (v := undef) (some 155) rfl rfl (by kernel_rfl) (by kernel_rfl) (by kernel_rfl) (fun _ _ _ h => h) (Or.inr ⟨rfl, rfl⟩) hHeld ?_
                simp only [Act.put, List.setIfInBounds_toArray, List.set_cons_zero, List.set_cons_succ]
                refine takeD (i := 26) (v := undef) (some 156) rfl rfl (by kernel_rfl) (by kernel_rfl) (by kernel_rfl) (fun _ _ _ h => h) (Or.inr ⟨rfl, rfl⟩) hHeld ?_
                simp only [Act.put, List.setIfInBounds_toArray, List.set_cons_zero, List.set_cons_succ]
                refine takeD (i := 27) (v := .bool false) (some 157) rfl rfl (by kernel_rfl) (by kernel_rfl) (by kernel_rfl) (fun _ _ _ h => h) (Or.inl ⟨by rfl, fun w hSw => by go_simp⟩) hHeld ?_
                simp only [Act.put, List.setIfInBounds_toArray, List.set_cons_zero, List.set_cons_succ]
                refine wpAnyH_done (by kernel_rfl) ?_ _
                go_wp2_with fail
                go_meet
                case rel => exact ⟨rfl, ST, h0, CR⟩
          · have b1 : decide ((0 : Int) < (nS : Int)) = false := decide_eq_false (by omega)
            have b2 : decide (0 < nS) = false := decide_eq_false (by omega)
            refine wp_region_held_drew (S := fun u => u.cell? ⟨D, 0, none⟩ = some (.slice sa nS sk) ∧ u.cell? ⟨D, 1, none⟩ = some (.slice ca nC ck) ∧ u.cell? ⟨E, 0, none⟩ = some (.slice xa nS xk) ∧ u.cell? ⟨E, 1, none⟩ = some (.slice ya nC2 yk)) (by kernel_rfl) (by have h := (ST.out.below (Below.refl _ _).drew).d; have k := (ST.out.below (Below.refl _ _).drew).e; exact ⟨by simp [World.cell?, h], by simp [World.cell?, h], by simp [World.cell?, k], by simp [World.cell?, k]⟩) (fun hHeld => ?_)
            replace ST := hide (ST.out.below (Below.refl _ w15).drew)
            replace h0 := hide (blk_below h0.out (Below.refl _ w15).drew)
            replace CR := hide (CR.out.below (Below.refl _ w15).drew)
            generalize w15.drew = Wd at *
            refine takeD (i := 0) (v := .pointer (some ⟨D, 0, none⟩)) (some 130) rfl rfl (by kernel_rfl) (by kernel_rfl) (by kernel_rfl) (fun _ _ _ h => h) (Or.inl ⟨by rfl, fun w hSw => by go_simp⟩) hHeld ?_
            simp only [Act.put, List.setIfInBounds_toArray, List.set_cons_zero, List.set_cons_succ]
            refine takeD (i := 1) (v := .slice sa nS sk) (some 131) rfl rfl (by kernel_rfl) (by kernel_rfl) (by kernel_rfl) (fun _ _ _ h => h) (Or.inl ⟨by rfl, fun w hSw => by obtain ⟨s0, s1, s2, s3⟩ := hSw; go_simp⟩) hHeld ?_
            simp only [Act.put, List.setIfInBounds_toArray, List.set_cons_zero, List.set_cons_succ]
            refine takeD (i := 2) (v := .int .i64 (nS : Int)) (some 132) rfl rfl (by kernel_rfl) (by kernel_rfl) (by kernel_rfl) (fun _ _ _ h => h) (Or.inl ⟨by rfl, fun w hSw => by go_simp⟩) hHeld ?_
            simp only [Act.put, List.setIfInBounds_toArray, List.set_cons_zero, List.set_cons_succ]
            refine takeD (i := 3) (v := .bool false) (some 133) rfl rfl (by kernel_rfl) (by kernel_rfl) (by kernel_rfl) (fun _ _ _ h => h) (Or.inl ⟨by rfl, fun w hSw => by go_simp⟩) hHeld ?_
            simp only [Act.put, List.setIfInBounds_toArray, List.set_cons_zero, List.set_cons_succ]
            refine takeD (i := 4) (v := .bool false) (some 134) rfl rfl (by kernel_rfl) (by kernel_rfl) (by kernel_rfl) (fun _ _ _ h => h) (Or.inl ⟨by rfl, fun w hSw => by go_simp⟩) hHeld ?_
            simp only [Act.put, List.setIfInBounds_toArray, List.set_cons_zero, List.set_cons_succ]
            refine takeD (i := 5) (v := undef) (some 135) rfl rfl (by kernel_rfl) (by kernel_rfl) (by kernel_rfl) (fun _ _ _ h => h) (Or.inr ⟨rfl, rfl⟩) hHeld ?_
            simp only [Act.put, List.setIfInBounds_toArray, List.set_cons_zero, List.set_cons_succ]
            refine takeD (i := 6) (v := undef) (some 136) rfl rfl (by kernel_rfl) (by kernel_rfl) (by kernel_rfl) (fun _ _ _ h => h) (Or.inr ⟨rfl, rfl⟩) hHeld ?_
            simp only [Act.put, List.setIfInBounds_toArray, List.set_cons_zero, List.set_cons_succ]
            refine takeD (i := 7) (v := undef) (some 137) rfl rfl (by kernel_rfl) (by kernel_rfl) (by kernel_rfl) (fun _ _ _ h => h) (Or.inr ⟨rfl, rfl⟩) hHeld ?_
            simp only [Act.put, List.setIfInBounds_toArray, List.set_cons_zero, List.set_cons_succ]
            refine takeD (i := 8) (v := undef) (some 138) rfl rfl (by kernel_rfl) (by kernel_rfl) (by kernel_rfl) (fun _ _ _ h => h) (Or.inr ⟨rfl, rfl⟩) hHeld ?_
            simp only [Act.put, List.setIfInBounds_toArray, List.set_cons_zero, List.set_cons_succ]
            refine takeD (i := 9) (v := undef) (some 139) rfl rfl (by kernel_rfl) (by kernel_rfl) (by kernel_rfl) (fun _ _ _ h => h) (Or.inr ⟨rfl, rfl⟩) hHeld ?_
            simp only [Act.put, List.setIfInBounds_toArray, List.set_cons_zero, List.set_cons_succ]
            refine takeD (i := 10) (v := undef) (some 140) rfl rfl (by kernel_rfl) (by kernel_rfl) (by kernel_rfl) (fun _ _ _ h => h) (Or.inr ⟨rfl, rfl⟩) hHeld ?_
            simp only [Act.put, List.setIfInBounds_toArray, List.set_cons_zero, List.set_cons_succ]
            refine takeD (i := 11) (v := undef) (some 141) rfl rfl (by kernel_rfl) (by kernel_rfl) (by kernel_rfl) (fun _ _ _ h => h) (Or.inr ⟨rfl, rfl⟩) hHeld ?_
            simp only [Act.put, List.setIfInBounds_toArray, List.set_cons_zero, List.set_cons_succ]
            refine takeD (i := 12) (v := undef) (some 142) rfl rfl (by kernel_rfl) (by kernel_rfl) (by kernel_rfl) (fun _ _ _ h => h) (Or.inr ⟨rfl, rfl⟩) hHeld ?_
            simp only [Act.put, List.setIfInBounds_toArray, List.set_cons_zero, List.set_cons_succ]
            refine takeD (i := 13) (v := undef) (some 143) rfl rfl (by kernel_rfl) (by kernel_rfl) (by kernel_rfl) (fun _ _ _ h => h) (Or.inr ⟨rfl, rfl⟩) hHeld ?_
            simp only [Act.put, List.setIfInBounds_toArray, List.set_cons_zero, List.set_cons_succ]
            refine takeD (i := 14) (v := undef) (some 144) rfl rfl (by kernel_rfl) (by kernel_rfl) (by kernel_rfl) (fun _ _ _ h => h) (Or.inr ⟨rfl, rfl⟩) hHeld ?_
            simp only [Act.put, List.setIfInBounds_toArray, List.set_cons_zero, List.set_cons_succ]
            refine takeD (i := 15) (v := .bool false) (some 145) rfl rfl (by kernel_rfl) (by kernel_rfl) (by kernel_rfl) (fun _ _ _ h => h) (Or.inl ⟨by rfl, fun w hSw => by go_simp⟩) hHeld ?_
            simp only [Act.put, List.setIfInBounds_toArray, List.set_cons_zero, List.set_cons_succ]
            refine takeD (i := 16) (v := .bool false) (some 146) rfl rfl (by kernel_rfl) (by kernel_rfl) (by kernel_rfl) (fun _ _ _ h => h) (Or.inl ⟨by rfl, fun w hSw => by go_simp⟩) hHeld ?_
            simp only [Act.put, List.setIfInBounds_toArray, List.set_cons_zero, List.set_cons_succ]
            refine takeD (i := 17) (v := undef) (some 147) rfl rfl (by kernel_rfl) (by kernel_rfl) (by kernel_rfl) (fun _ _ _ h => h) (Or.inr ⟨rfl, rfl⟩) hHeld ?_
            simp only [Act.put, List.setIfInBounds_toArray, List.set_cons_zero, List.set_cons_succ]
            refine takeD (i := 18) (v := undef) (some 148) rfl rfl (by kernel_rfl) (by kernel_rfl) (by kernel_rfl) (fun _ _ _ h => h) (Or.inr ⟨rfl, rfl⟩) hHeld ?_
            simp only [Act.put, List.setIfInBounds_toArray, List.set_cons_zero, List.set_cons_succ]
            refine takeD (i := 19) (v := undef) (some 149) rfl rfl (by kernel_rfl) (by kernel_rfl) (by kernel_rfl) (fun _ _ _ h => h) (Or.inr ⟨rfl, rfl⟩) hHeld ?_
            simp only [Act.put, List.setIfInBounds_toArray, List.set_cons_zero, List.set_cons_succ]
            refine takeD (i := 22) (v := undef) (some 152) rfl rfl (by kernel_rfl) (by kernel_rfl) (by kernel_rfl) (fun _ _ _ h => h) (Or.inr ⟨rfl, rfl⟩) hHeld ?_
            simp only [Act.put, List.setIfInBounds_toArray, List.set_cons_zero, List.set_cons_succ]
            refine takeD (i := 23) (v := undef) (some 153) rfl rfl (by kernel_rfl) (by kernel_rfl) (by kernel_rfl) (fun _ _ _ h => h) (Or.inr ⟨rfl, rfl⟩) hHeld ?_
            simp only [Act.put, List.setIfInBounds_toArray, List.set_cons_zero, List.set_cons_succ]
            refine wpAnyH_ready (rs := [20]) (by kernel_rfl) (by simp) ?_
            refine AllReadyH.cons rfl (fun KK hK => ?_) AllReadyH.nil
            go_simp
            refine hK.out _ _ (by have h := ST.out.d; have k := ST.out.e; exact ⟨by simp [World.cell?, h], by simp [World.cell?, h], by simp [World.cell?, k], by simp [World.cell?, k]⟩) (fun hHeld => ?_)
            clear hK KK
            refine takeD (i := 21) (v := undef) (some 151) rfl rfl (by kernel_rfl) (by kernel_rfl) (by kernel_rfl) (fun _ _ _ h => h) (Or.inr ⟨rfl, rfl⟩) hHeld ?_
            simp only [Act.put, List.setIfInBounds_toArray, List.set_cons_zero, List.set_cons_succ]
            refine wpAnyH_ready (rs := [24]) (by kernel_rfl) (by simp) ?_
            refine AllReadyH.cons rfl (fun KK hK => ?_) AllReadyH.nil
            go_simp
            refine hK.out _ _ (by have h := ST.out.d; have k := ST.out.e; exact ⟨by simp [World.cell?, h], by simp [World.cell?, h], by simp [World.cell?, k], by simp [World.cell?, k]⟩) (fun hHeld => ?_)
            clear hK KK
            refine takeD (i := 25) (v := undef) (some 155) rfl rfl (by kernel_rfl) (by kernel_rfl) (by kernel_rfl) (fun _ _ _ h => h) (Or.inr ⟨rfl, rfl⟩) hHeld ?_
            simp only [Act.put, List.setIfInBounds_toArray, List.set_cons_zero, List.set_cons_succ]
            refine takeD (i := 26) (v := undef) (some 156) rfl rfl (by kernel_rfl) (by kernel_rfl) (by kernel_rfl) (fun _ _ _ h => h) (Or.inr ⟨rfl, rfl⟩) hHeld ?_
            simp only [Act.put, List.setIfInBounds_toArray, List.set_cons_zero, List.set_cons_succ]
            refine takeD (i := 27) (v := .bool false) (some 157) rfl rfl (by kernel_rfl) (by kernel_rfl) (by kernel_rfl) (fun _ _ _ h => h) (Or.inl ⟨by rfl, fun w hSw => by go_simp⟩) hHeld ?_
            simp only [Act.put, List.setIfInBounds_toArray, List.set_cons_zero, List.set_cons_succ]
            refine wpAnyH_done (by kernel_rfl) ?_ _
            go_wp2_with fail
            go_meet
            case rel => exact ⟨rfl, ST, h0, CR⟩
        case rest =>
          obtain ⟨rfl, ST, h0, CR⟩ := hcut
          go_wp2_with fail
          go_loopw [16] (fun i wx => ∃ k : Nat, k ≤ nS ∧ i = .int .i64 k ∧ Hid (FdSt w a1 len1 D E wx sa sk ca ck xa xk ya yk nS S nC A X nC2 A2 X2) ∧ Hid (wx.heap[H]? = some (.cells #[.slice ra nS rk, .slice ta 0 tk] 26)) ∧ Hid (dkA wx ra rk ta tk nS SC 0 A2 X2)) (fun i _ => nS - (intOf i).toNat)
          case atStart => exact ⟨0, by omega, rfl, ST, h0, CR⟩
          case round =>
            clear ST h0 CR
            obtain ⟨k, hk, rfl, ST, h0, CR⟩ := hrel
            have d0 : wr.cell? ⟨D, 0, none⟩ = some (.slice sa nS sk) := by have h := ST.out.d; simp [World.cell?, h]
            have d1 : wr.cell? ⟨D, 1, none⟩ = some (.slice ca nC ck) := by have h := ST.out.d; simp [World.cell?, h]
            by_cases hlt : k < nS
            · have hd : decide ((k : Int) < (nS : Int)) = true := decide_eq_true (by omega)
              have hdn : decide (k < nS) = true := decide_eq_true hlt
              obtain ⟨rr, oo, rfl, hrr, hcl⟩ := dkA_cell ST.out.i (by omega)
              have ck0 := hcl k hlt
              clear hcl
              have HCK := hide (And.intro hrr ck0)
              clear hrr ck0
              go_upto_region 24 with fail
              clear d0 d1
              refine wp_region_held_drew (S := fun u => u.cell? ⟨D, 0, none⟩ = some (.slice (some ⟨rr, oo, none⟩) nS sk) ∧ u.cell? ⟨D, 1, none⟩ = some (.slice ca nC ck) ∧ u.cell? ⟨E, 0, none⟩ = some (.slice xa nS xk) ∧ u.cell? ⟨E, 1, none⟩ = some (.slice ya nC2 yk) ∧ u.cell? ⟨H, 0, none⟩ = some (.slice ra nS rk) ∧ u.cell? ⟨H, 1, none⟩ = some (.slice ta 0 tk) ∧ u.cell? ⟨rr, oo + k, none⟩ = some (.string (S k))) (by kernel_rfl) (by have h := (ST.out.below (Below.refl _ _).drew).d; have k := (ST.out.below (Below.refl _ _).drew).e; have q := (blk_below h0.out (Below.refl _ _).drew); exact ⟨by simp [World.cell?, h], by simp [World.cell?, h], by simp [World.cell?, k], by simp [World.cell?, k], by simp [World.cell?, q], by simp [World.cell?, q], HCK.out.2⟩) (fun hHeld => ?_)
              replace HCK := hide (And.intro (Nat.lt_of_lt_of_le HCK.out.1 ((Below.refl wr.heap.size wr).drew).size) ((dkA_cells HCK.out.1 (Below.refl wr.heap.size wr).drew _).trans HCK.out.2))
              replace ST := hide (ST.out.below (Below.refl wr.heap.size wr).drew)
              replace h0 := hide (blk_below h0.out (Below.refl wr.heap.size wr).drew)
              replace CR := hide (CR.out.below (Below.refl wr.heap.size wr).drew)
              generalize wr.drew = Wd at *
              refine takeD (i := 0) (v := .agg #[.slice ra nS rk, .slice ta 0 tk]) (some 165) rfl rfl (by kernel_rfl) (by kernel_rfl) (by kernel_rfl) (fun _ _ _ h => h) (Or.inl ⟨by rfl, fun w hSw => by obtain ⟨s0, s1, s2, s3, s4, s5, s6⟩ := hSw; go_simp⟩) hHeld ?_
              simp only [Act.put, List.setIfInBounds_toArray, List.set_cons_zero, List.set_cons_succ]
              refine takeD (i := 1) (v := .int .i64 (k : Int)) (some 166) rfl rfl (by kernel_rfl) (by kernel_rfl) (by kernel_rfl) (fun _ _ _ h => h) (Or.inl ⟨by rfl, fun w hSw => by go_simp⟩) hHeld ?_
              simp only [Act.put, List.setIfInBounds_toArray, List.set_cons_zero, List.set_cons_succ]
              refine takeD (i := 4) (v := .pointer (some ⟨E, 0, none⟩)) (some 169) rfl rfl (by kernel_rfl) (by kernel_rfl) (by kernel_rfl) (fun _ _ _ h => h) (Or.inl ⟨by rfl, fun w hSw => by go_simp⟩) hHeld ?_
              simp only [Act.put, List.setIfInBounds_toArray, List.set_cons_zero, List.set_cons_succ]
              refine takeD (i := 5) (v := .agg #[.slice xa nS xk, .slice ya nC2 yk]) (some 170) rfl rfl (by kernel_rfl) (by kernel_rfl) (by kernel_rfl) (fun _ _ _ h => h) (Or.inl ⟨by rfl, fun w hSw => by obtain ⟨s0, s1, s2, s3, s4, s5, s6⟩ := hSw; go_simp⟩) hHeld ?_
              simp only [Act.put, List.setIfInBounds_toArray, List.set_cons_zero, List.set_cons_succ]
              refine takeD (i := 6) (v := .int .i64 (k : Int)) (some 171) rfl rfl (by kernel_rfl) (by kernel_rfl) (by kernel_rfl) (fun _ _ _ h => h) (Or.inl ⟨by rfl, fun w hSw => by go_simp⟩) hHeld ?_
              simp only [Act.put, List.setIfInBounds_toArray, List.set_cons_zero, List.set_cons_succ]
              refine wpAnyH_ready (rs := [2]) (by kernel_rfl) (by simp) ?_
              refine AllReadyH.cons rfl (fun KK hK => ?_) AllReadyH.nil
              go_simp
              refine (imp_read1 ra rk ta tk nS SC 0 A2 X2 k _ OKC.out hlt CR.out).mono ?_
              rintro e u1 ⟨rfl, hb9⟩
              rw [show flS SC A2 X2 (fun _ => true) 0 k = flS S A2 X2 (fun _ => true) nC2 k from HSC.out k]
              obtain ⟨TT, hTT⟩ : ∃ TT, TT = flS S A2 X2 (fun _ => true) nC2 k := ⟨_, rfl⟩
              rw [← hTT]
              have HTT := hide hTT
              clear hTT
              replace HCK := hide (And.intro (Nat.lt_of_lt_of_le HCK.out.1 (hb9).size) ((dkA_cells HCK.out.1 hb9 _).trans HCK.out.2))
              replace ST := hide (ST.out.below hb9)
              replace h0 := hide (blk_below h0.out hb9)
              replace CR := hide (CR.out.below hb9)
              clear hb9
              go_wp2_with fail
              refine hK.out _ _ (by have h := ST.out.d; have k := ST.out.e; have q := h0.out; exact ⟨by simp [World.cell?, h], by simp [World.cell?, h], by simp [World.cell?, k], by simp [World.cell?, k], by simp [World.cell?, q], by simp [World.cell?, q], HCK.out.2⟩) (fun hHeld => ?_)
              clear hK KK
              refine takeD (i := 3) (v := .string TT) (some 168) rfl rfl (by kernel_rfl) (by kernel_rfl) (by kernel_rfl) (fun _ _ _ h => h) (Or.inl ⟨by rfl, fun w hSw => by first | exact field_dtext _ _ _ _ _ | (go_simp; rw [field_dtext]; rfl)⟩) hHeld ?_
              simp only [Act.put, List.setIfInBounds_toArray, List.set_cons_zero, List.set_cons_succ]
              refine wpAnyH_ready (rs := [7]) (by kernel_rfl) (by simp) ?_
              refine AllReadyH.cons rfl (fun KK hK => ?_) AllReadyH.nil
              go_simp
              refine (imp_read1 xa xk ya yk nS S nC2 A2 X2 k _ OK2.out hlt ST.out.j).mono ?_
              rintro e u2 ⟨rfl, hb9⟩
              rw [← HTT.out]
              clear HTT
              replace HCK := hide (And.intro (Nat.lt_of_lt_of_le HCK.out.1 (hb9).size) ((dkA_cells HCK.out.1 hb9 _).trans HCK.out.2))
              replace ST := hide (ST.out.below hb9)
              replace h0 := hide (blk_below h0.out hb9)
              replace CR := hide (CR.out.below hb9)
              clear hb9
              go_wp2_with fail
              refine hK.out _ _ (by have h := ST.out.d; have k := ST.out.e; have q := h0.out; exact ⟨by simp [World.cell?, h], by simp [World.cell?, h], by simp [World.cell?, k], by simp [World.cell?, k], by simp [World.cell?, q], by simp [World.cell?, q], HCK.out.2⟩) (fun hHeld => ?_)
              clear hK KK
              have tt := str_eq (rfl : TT = TT)
              refine takeD (i := 8) (v := .string TT) (some 173) rfl rfl (by kernel_rfl) (by kernel_rfl) (by kernel_rfl) (fun _ _ _ h => h) (Or.inl ⟨by rfl, fun w hSw => by first | exact field_dtext _ _ _ _ _ | (go_simp; rw [field_dtext]; rfl)⟩) hHeld ?_
              simp only [Act.put, List.setIfInBounds_toArray, List.set_cons_zero, List.set_cons_succ]
              refine takeD (i := 9) (v := .bool false) (some 174) rfl rfl (by kernel_rfl) (by kernel_rfl) (by kernel_rfl) (fun _ _ _ h => h) (Or.inl ⟨by rfl, fun w hSw => by go_simp⟩) hHeld ?_
              simp only [Act.put, List.setIfInBounds_toArray, List.set_cons_zero, List.set_cons_succ]
              refine takeD (i := 10) (v := .bool false) (some 175) rfl rfl (by kernel_rfl) (by kernel_rfl) (by kernel_rfl) (fun _ _ _ h => h) (Or.inl ⟨by rfl, fun w hSw => by go_simp⟩) hHeld ?_
              simp only [Act.put, List.setIfInBounds_toArray, List.set_cons_zero, List.set_cons_succ]
              clear tt
              refine takeD (i := 11) (v := .agg #[.slice (some ⟨rr, oo, none⟩) nS sk, .slice ca nC ck]) (some 176) rfl rfl (by kernel_rfl) (by kernel_rfl) (by kernel_rfl) (fun _ _ _ h => h) (Or.inl ⟨by rfl, fun w hSw => by obtain ⟨s0, s1, s2, s3, s4, s5, s6⟩ := hSw; go_simp⟩) hHeld ?_
              simp only [Act.put, List.setIfInBounds_toArray, List.set_cons_zero, List.set_cons_succ]
              refine takeD (i := 13) (v := .int .i64 (k : Int)) (some 178) rfl rfl (by kernel_rfl) (by kernel_rfl) (by kernel_rfl) (fun _ _ _ h => h) (Or.inl ⟨by rfl, fun w hSw => by go_simp⟩) hHeld ?_
              simp only [Act.put, List.setIfInBounds_toArray, List.set_cons_zero, List.set_cons_succ]
              refine takeD (i := 16) (v := .pointer (some ⟨D, 0, none⟩)) (some 181) rfl rfl (by kernel_rfl) (by kernel_rfl) (by kernel_rfl) (fun _ _ _ h => h) (Or.inl ⟨by rfl, fun w hSw => by go_simp⟩) hHeld ?_
              simp only [Act.put, List.setIfInBounds_toArray, List.set_cons_zero, List.set_cons_succ]
              refine takeD (i := 17) (v := .slice (some ⟨rr, oo, none⟩) nS sk) (some 182) rfl rfl (by kernel_rfl) (by kernel_rfl) (by kernel_rfl) (fun _ _ _ h => h) (Or.inl ⟨by rfl, fun w hSw => by obtain ⟨s0, s1, s2, s3, s4, s5, s6⟩ := hSw; go_simp⟩) hHeld ?_
              simp only [Act.put, List.setIfInBounds_toArray, List.set_cons_zero, List.set_cons_succ]
              refine takeD (i := 18) (v := .int .i64 (k : Int)) (some 183) rfl rfl (by kernel_rfl) (by kernel_rfl) (by kernel_rfl) (fun _ _ _ h => h) (Or.inl ⟨by rfl, fun w hSw => by go_simp⟩) hHeld ?_
              simp only [Act.put, List.setIfInBounds_toArray, List.set_cons_zero, List.set_cons_succ]
              refine takeD (i := 19) (v := .pointer (some ⟨rr, oo + k, none⟩)) (some 184) rfl rfl (by kernel_rfl) (by kernel_rfl) (by kernel_rfl) (fun _ _ _ h => h) (Or.inl ⟨by rfl, fun w hSw => by (go_simp; try simp [addr_add])⟩) hHeld ?_
              simp only [Act.put, List.setIfInBounds_toArray, List.set_cons_zero, List.set_cons_succ]
              refine takeD (i := 20) (v := .string (S k)) (some 185) rfl rfl (by kernel_rfl) (by kernel_rfl) (by kernel_rfl) (fun _ _ _ h => h) (Or.inl ⟨by rfl, fun w hSw => by obtain ⟨s0, s1, s2, s3, s4, s5, s6⟩ := hSw; go_simp⟩) hHeld ?_
              simp only [Act.put, List.setIfInBounds_toArray, List.set_cons_zero, List.set_cons_succ]
              refine wpAnyH_ready (rs := [12]) (by kernel_rfl) (by simp) ?_
              refine AllReadyH.cons rfl (fun KK hK => ?_) AllReadyH.nil
              go_simp
              refine (imp_crashF (some ⟨rr, oo, none⟩) sk ca ck nS S nC A X none 0 0 (fun _ => true) _ (by omega) ⟨none, 0, rfl, Nat.le_refl _, .inl rfl⟩ OK.out ST.out.i).mono ?_
              rintro e u3 ⟨va, vk, ua, uk, rfl, hcr, hb9⟩
              have OKD := hide (okF_flush (fun j => decide (j < 0) && true) OK.out)
              have HSD := hide (flF_off S A X (fun j => decide (j < 0) && true) nC (fun i _ => by simp))
              generalize flS S A X (fun j => decide (j < 0) && true) nC = SD at *
              have CD := hide hcr
              clear hcr
              replace HCK := hide (And.intro (Nat.lt_of_lt_of_le HCK.out.1 (hb9).size) ((dkA_cells HCK.out.1 hb9 _).trans HCK.out.2))
              replace ST := hide (ST.out.below hb9)
              replace h0 := hide (blk_below h0.out hb9)
              replace CR := hide (CR.out.below hb9)
              clear hb9
              go_wp2_with fail
              refine hK.out _ _ (by have h := ST.out.d; have k := ST.out.e; have q := h0.out; exact ⟨by simp [World.cell?, h], by simp [World.cell?, h], by simp [World.cell?, k], by simp [World.cell?, k], by simp [World.cell?, q], by simp [World.cell?, q], HCK.out.2⟩) (fun hHeld => ?_)
              clear hK KK
              refine wpAnyH_ready (rs := [14]) (by kernel_rfl) (by simp) ?_
              refine AllReadyH.cons rfl (fun KK hK => ?_) AllReadyH.nil
              go_simp
              refine (imp_read1 va vk ua uk nS SD 0 A X k _ OKD.out hlt CD.out).mono ?_
              rintro e u4 ⟨rfl, hb9⟩
              rw [show flS SD A X (fun _ => true) 0 k = S k from HSD.out k]
              replace HCK := hide (And.intro (Nat.lt_of_lt_of_le HCK.out.1 (hb9).size) ((dkA_cells HCK.out.1 hb9 _).trans HCK.out.2))
              replace ST := hide (ST.out.below hb9)
              replace h0 := hide (blk_below h0.out hb9)
              replace CR := hide (CR.out.below hb9)
              clear hb9
              go_wp2_with fail
              refine hK.out _ _ (by have h := ST.out.d; have k := ST.out.e; have q := h0.out; exact ⟨by simp [World.cell?, h], by simp [World.cell?, h], by simp [World.cell?, k], by simp [World.cell?, k], by simp [World.cell?, q], by simp [World.cell?, q], HCK.out.2⟩) (fun hHeld => ?_)
              clear hK KK
              have tt := str_eq (rfl : S k = S k)
              refine takeD (i := 15) (v := .string (S k)) (some 180) rfl rfl (by kernel_rfl) (by kernel_rfl) (by kernel_rfl) (fun _ _ _ h => h) (Or.inl ⟨by rfl, fun w hSw => by first | exact field_dtext _ _ _ _ _ | (go_simp; rw [field_dtext]; rfl)⟩) hHeld ?_
              simp only [Act.put, List.setIfInBounds_toArray, List.set_cons_zero, List.set_cons_succ]
              refine takeD (i := 21) (v := .bool false) (some 186) rfl rfl (by kernel_rfl) (by kernel_rfl) (by kernel_rfl) (fun _ _ _ h => h) (Or.inl ⟨by rfl, fun w hSw => by go_simp⟩) hHeld ?_
              simp only [Act.put, List.setIfInBounds_toArray, List.set_cons_zero, List.set_cons_succ]
              refine takeD (i := 22) (v := .bool false) (some 187) rfl rfl (by kernel_rfl) (by kernel_rfl) (by kernel_rfl) (fun _ _ _ h => h) (Or.inl ⟨by rfl, fun w hSw => by go_simp⟩) hHeld ?_
              simp only [Act.put, List.setIfInBounds_toArray, List.set_cons_zero, List.set_cons_succ]
              refine wpAnyH_done (by kernel_rfl) ?_ _
              clear tt
              go_wp2_with fail
              go_roundw
              case rel => exact ⟨k + 1, by omega, by go_num, ST, h0, CR⟩
              case measure => simp [intOf]; omega
            · have hd : decide ((k : Int) < (nS : Int)) = false := decide_eq_false (by omega)
              have hdn : decide (k < nS) = false := decide_eq_false hlt
              go_wp2_with fail
              go_ret
              exact ⟨rfl, ST.out.b⟩
  · have dc : (c == 0) = false := by simp [hc]
    refine wp_region_held_drew (S := fun u => u.cell? ⟨D, 0, none⟩ = some (.slice sa nS sk) ∧ u.cell? ⟨D, 1, none⟩ = some (.slice ca nC ck) ∧ u.cell? ⟨E, 3, none⟩ = some (.int .i64 c)) (by kernel_rfl) (by have h := (blk_below y3.out (Below.refl _ _).drew); have k := (blk_below x1.out (Below.refl _ _).drew); exact ⟨by simp [World.cell?, h], by simp [World.cell?, h], by simp [World.cell?, k]⟩) (fun hHeld => ?_)
    replace y3 := hide (blk_below y3.out (Below.refl _ _).drew)
    replace x1 := hide (blk_below x1.out (Below.refl _ _).drew)
    replace I3 := hide (I3.out.below (Below.refl _ _).drew)
    replace M3 := hide (M3.out.trans ((Below.refl _ w4).drew.mono M3.out.size))
    replace J3 := hide (fun h0 : c = 0 => And.intro (J3.out h0).1 ((J3.out h0).2.below (Below.refl _ w4).drew))
    generalize w4.drew = Wd at *
    refine takeD (i := 0) (v := .pointer (some ⟨E, 3, none⟩)) (some 35) rfl rfl (by kernel_rfl) (by kernel_rfl) (by kernel_rfl) (fun _ _ _ h => h) (Or.inl ⟨by rfl, fun w hSw => by go_simp⟩) hHeld ?_
    simp only [Act.put, List.setIfInBounds_toArray, List.set_cons_zero, List.set_cons_succ]
    refine takeD (i := 1) (v := .int .i64 c) (some 36) rfl rfl (by kernel_rfl) (by kernel_rfl) (by kernel_rfl) (fun _ _ _ h => h) (Or.inl ⟨by rfl, fun w hSw => by obtain ⟨s0, s1, s2⟩ := hSw; go_simp⟩) hHeld ?_
    simp only [Act.put, List.setIfInBounds_toArray, List.set_cons_zero, List.set_cons_succ]
    refine takeD (i := 2) (v := .agg #[.slice sa nS sk, .slice ca nC ck]) (some 37) rfl rfl (by kernel_rfl) (by kernel_rfl) (by kernel_rfl) (fun _ _ _ h => h) (Or.inl ⟨by rfl, fun w hSw => by obtain ⟨s0, s1, s2⟩ := hSw; go_simp⟩) hHeld ?_
    simp only [Act.put, List.setIfInBounds_toArray, List.set_cons_zero, List.set_cons_succ]
    refine takeD (i := 3) (v := .int .i64 an) (some 38) rfl rfl (by kernel_rfl) (by kernel_rfl) (by kernel_rfl) (fun _ _ _ h => h) (Or.inl ⟨by rfl, fun w hSw => by go_simp⟩) hHeld ?_
    simp only [Act.put, List.setIfInBounds_toArray, List.set_cons_zero, List.set_cons_succ]
    refine takeD (i := 4) (v := .string tx) (some 39) rfl rfl (by kernel_rfl) (by kernel_rfl) (by kernel_rfl) (fun _ _ _ h => h) (Or.inl ⟨by rfl, fun w hSw => by go_simp⟩) hHeld ?_
    simp only [Act.put, List.setIfInBounds_toArray, List.set_cons_zero, List.set_cons_succ]
    refine wpAnyH_ready (rs := [5]) (by kernel_rfl) (by simp) ?_
    refine AllReadyH.cons rfl (fun KK hK => ?_) AllReadyH.nil
    go_simp
    refine (spec_diskWrite_all _ nS S nC A X an tx _ (by omega) (by omega) (by omega) I3.out).mono ?_
    rintro e w5 ⟨s6, c6, c2, rfl, hc2, hb5⟩
    obtain rfl := wrCode_one HCO.out hc2
    have y4 := hide (blk_below y3.out hb5)
    have x2 := hide (blk_below x1.out hb5)
    have I4 := hide (I3.out.below hb5)
    have M4 := hide (M3.out.trans (hb5.mono M3.out.size))
    have J4 := hide (fun h0 : c = 0 => And.intro (J3.out h0).1 ((J3.out h0).2.below hb5))
    clear hc2 hb5 y3 x1 I3 M3 J3
    go_wp2_with fail
    refine hK.out _ _ (by have h := y4.out; have k := x2.out; exact ⟨by simp [World.cell?, h], by simp [World.cell?, h], by simp [World.cell?, k]⟩) (fun hHeld => ?_)
    clear hK KK
    refine takeD (i := 6) (v := .int .i64 c) (some 41) rfl rfl (by kernel_rfl) (by kernel_rfl) (by kernel_rfl) (fun _ _ _ h => h) (Or.inl ⟨by rfl, fun w hSw => by first | exact field_dcode _ _ _ _ _ | (go_simp; rw [field_dcode]; rfl)⟩) hHeld ?_
    simp only [Act.put, List.setIfInBounds_toArray, List.set_cons_zero, List.set_cons_succ]
    refine takeD (i := 7) (v := .bool false) (some 42) rfl rfl (by kernel_rfl) (by kernel_rfl) (by kernel_rfl) (fun _ _ _ h => h) (Or.inl ⟨by rfl, fun w hSw => by go_simp⟩) hHeld ?_
    simp only [Act.put, List.setIfInBounds_toArray, List.set_cons_zero, List.set_cons_succ]
    refine takeD (i := 8) (v := .bool false) (some 43) rfl rfl (by kernel_rfl) (by kernel_rfl) (by kernel_rfl) (fun _ _ _ h => h) (Or.inl ⟨by rfl, fun w hSw => by go_simp⟩) hHeld ?_
    simp only [Act.put, List.setIfInBounds_toArray, List.set_cons_zero, List.set_cons_succ]
    refine takeD (i := 9) (v := .pointer (some ⟨E, 3, none⟩)) (some 44) rfl rfl (by kernel_rfl) (by kernel_rfl) (by kernel_rfl) (fun _ _ _ h => h) (Or.inl ⟨by rfl, fun w hSw => by go_simp⟩) hHeld ?_
    simp only [Act.put, List.setIfInBounds_toArray, List.set_cons_zero, List.set_cons_succ]
    refine takeD (i := 10) (v := .int .i64 c) (some 45) rfl rfl (by kernel_rfl) (by kernel_rfl) (by kernel_rfl) (fun _ _ _ h => h) (Or.inl ⟨by rfl, fun w hSw => by obtain ⟨s0, s1, s2⟩ := hSw; go_simp⟩) hHeld ?_
    simp only [Act.put, List.setIfInBounds_toArray, List.set_cons_zero, List.set_cons_succ]
    refine takeD (i := 11) (v := .bool true) (some 46) rfl rfl (by kernel_rfl) (by kernel_rfl) (by kernel_rfl) (fun _ _ _ h => h) (Or.inl ⟨by rfl, fun w hSw => by go_simp⟩) hHeld ?_
    simp only [Act.put, List.setIfInBounds_toArray, List.set_cons_zero, List.set_cons_succ]
    refine takeD (i := 12) (v := .bool true) (some 47) rfl rfl (by kernel_rfl) (by kernel_rfl) (by kernel_rfl) (fun _ _ _ h => h) (Or.inl ⟨by rfl, fun w hSw => by go_simp⟩) hHeld ?_
    simp only [Act.put, List.setIfInBounds_toArray, List.set_cons_zero, List.set_cons_succ]
    refine wpAnyH_done (by kernel_rfl) ?_ _
    go_wp2_with fail
    refine wp_region_held_drew (S := fun u => u.cell? ⟨D, 0, none⟩ = some (.slice sa nS sk) ∧ u.cell? ⟨D, 1, none⟩ = some (.slice ca nC ck) ∧ u.cell? ⟨E, 3, none⟩ = some (.int .i64 c)) (by kernel_rfl) (by have h := (blk_below y4.out (Below.refl _ _).drew); have k := (blk_below x2.out (Below.refl _ _).drew); exact ⟨by simp [World.cell?, h], by simp [World.cell?, h], by simp [World.cell?, k]⟩) (fun hHeld => ?_)
    replace y4 := hide (blk_below y4.out (Below.refl _ _).drew)
    replace x2 := hide (blk_below x2.out (Below.refl _ _).drew)
    replace I4 := hide (I4.out.below (Below.refl _ _).drew)
    replace M4 := hide (M4.out.trans ((Below.refl _ w5).drew.mono M4.out.size))
    clear J4
    generalize w5.drew = We at *
    refine takeD (i := 0) (v := .pointer (some ⟨E, 3, none⟩)) (some 48) rfl rfl (by kernel_rfl) (by kernel_rfl) (by kernel_rfl) (fun _ _ _ h => h) (Or.inl ⟨by rfl, fun w hSw => by go_simp⟩) hHeld ?_
    simp only [Act.put, List.setIfInBounds_toArray, List.set_cons_zero, List.set_cons_succ]
    refine takeD (i := 1) (v := .int .i64 c) (some 49) rfl rfl (by kernel_rfl) (by kernel_rfl) (by kernel_rfl) (fun _ _ _ h => h) (Or.inl ⟨by rfl, fun w hSw => by obtain ⟨s0, s1, s2⟩ := hSw; go_simp⟩) hHeld ?_
    simp only [Act.put, List.setIfInBounds_toArray, List.set_cons_zero, List.set_cons_succ]
    refine takeD (i := 2) (v := .agg #[.slice sa nS sk, .slice ca nC ck]) (some 50) rfl rfl (by kernel_rfl) (by kernel_rfl) (by kernel_rfl) (fun _ _ _ h => h) (Or.inl ⟨by rfl, fun w hSw => by obtain ⟨s0, s1, s2⟩ := hSw; go_simp⟩) hHeld ?_
    simp only [Act.put, List.setIfInBounds_toArray, List.set_cons_zero, List.set_cons_succ]
    refine takeD (i := 3) (v := .int .i64 an) (some 51) rfl rfl (by kernel_rfl) (by kernel_rfl) (by kernel_rfl) (fun _ _ _ h => h) (Or.inl ⟨by rfl, fun w hSw => by go_simp⟩) hHeld ?_
    simp only [Act.put, List.setIfInBounds_toArray, List.set_cons_zero, List.set_cons_succ]
    refine takeD (i := 4) (v := .string tx) (some 52) rfl rfl (by kernel_rfl) (by kernel_rfl) (by kernel_rfl) (fun _ _ _ h => h) (Or.inl ⟨by rfl, fun w hSw => by go_simp⟩) hHeld ?_
    simp only [Act.put, List.setIfInBounds_toArray, List.set_cons_zero, List.set_cons_succ]
    refine wpAnyH_ready (rs := [5]) (by kernel_rfl) (by simp) ?_
    refine AllReadyH.cons rfl (fun KK hK => ?_) AllReadyH.nil
    go_simp
    refine (spec_diskWrite_all _ nS S nC A X an tx _ (by omega) (by omega) (by omega) I4.out).mono ?_
    rintro e w6 ⟨s6, c6, c2, rfl, hc2, hb5⟩
    obtain rfl := wrCode_one HCO.out hc2
    have y5 := hide (blk_below y4.out hb5)
    have x3 := hide (blk_below x2.out hb5)
    have M5 := hide (M4.out.trans (hb5.mono M4.out.size))
    clear hc2 hb5 y4 x2 I4 M4
    go_wp2_with fail
    refine hK.out _ _ (by have h := y5.out; have k := x3.out; exact ⟨by simp [World.cell?, h], by simp [World.cell?, h], by simp [World.cell?, k]⟩) (fun hHeld => ?_)
    clear hK KK
    refine takeD (i := 6) (v := .int .i64 c) (some 54) rfl rfl (by kernel_rfl) (by kernel_rfl) (by kernel_rfl) (fun _ _ _ h => h) (Or.inl ⟨by rfl, fun w hSw => by first | exact field_dcode _ _ _ _ _ | (go_simp; rw [field_dcode]; rfl)⟩) hHeld ?_
    simp only [Act.put, List.setIfInBounds_toArray, List.set_cons_zero, List.set_cons_succ]
    refine takeD (i := 7) (v := .bool true) (some 55) rfl rfl (by kernel_rfl) (by kernel_rfl) (by kernel_rfl) (fun _ _ _ h => h) (Or.inl ⟨by rfl, fun w hSw => by go_simp⟩) hHeld ?_
    simp only [Act.put, List.setIfInBounds_toArray, List.set_cons_zero, List.set_cons_succ]
    refine takeD (i := 8) (v := .bool true) (some 4) rfl rfl (by kernel_rfl) (by kernel_rfl) (by kernel_rfl) (fun _ _ _ h => h) (Or.inl ⟨by rfl, fun w hSw => by go_simp⟩) hHeld ?_
    simp only [Act.put, List.setIfInBounds_toArray, List.set_cons_zero, List.set_cons_succ]
    refine wpAnyH_done (by kernel_rfl) ?_ _
    go_wp2_with fail
    go_ret
    exact ⟨rfl, M5.out⟩
end Go.Proofs.Ytipeelkmmjgehab
/- The walk over the law FnDisk. -/
namespace Go.Proofs.Ytipeelkmmjgehab
open Go Go.RowKit
set_option maxRecDepth 100000 in
set_option maxHeartbeats 800000 in
theorem fnDisk_walk (a0 : Option Addr) (len0 cap0 : Nat) (z0 : List Int) (a1 : Option Addr) (len1 cap1 : Nat) (z1 : List Int) (w : World) (w0 : IsRow .u8 w a0 len0 cap0 z0) (w1 : IsRow .u8 w a1 len1 cap1 z1) :
    Calls Try.prog 3 #[.slice a0 len0 cap0, .slice a1 len1 cap1] w fun e w' => e = .returned (.bool true) ∧ Below w.heap.size w w' := by
  have hb0 := bytesIn_of_row w0
  have hb1 := bytesIn_of_row w1
  have hm0 : len0 ≤ 9223372036854775807 := by
    rcases w0 with ⟨_, h, _⟩ | ⟨x, _, h, h2, _⟩
    · omega
    · unfold maxLen at h2; omega
  have hm1 : len1 ≤ 9223372036854775807 := by
    rcases w1 with ⟨_, h, _⟩ | ⟨x, _, h, h2, _⟩
    · omega
    · unfold maxLen at h2; omega
  clear w0 w1
  by_cases h0 : 1048576 < len0
  · clear hb0 hb1
    have h0d : decide ((1048576 : Int) < (len0 : Int)) = true := decide_eq_true (by omega)
    go_enter Try.func3, Try.ntmps3
    go_wp2_with fail
    go_ret
    exact ⟨rfl, Below.refl _ _⟩
  · by_cases h1 : 1048576 < len1
    · have h0d : decide ((1048576 : Int) < (len0 : Int)) = false := decide_eq_false (by omega)
      have h1d : decide ((1048576 : Int) < (len1 : Int)) = true := decide_eq_true (by omega)
      clear hb0 hb1
      go_enter Try.func3, Try.ntmps3
      go_wp2_with fail
      go_ret
      exact ⟨rfl, Below.refl _ _⟩
    · exact fnDisk_main a0 len0 cap0 a1 len1 cap1 w (by omega) (by omega) hb0 hb1
end Go.Proofs.Ytipeelkmmjgehab

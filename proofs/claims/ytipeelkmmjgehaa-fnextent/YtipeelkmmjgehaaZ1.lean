/- TextRow, ExtPp, FdM, ExtJ, DkL, DkVw, SecStep, ExtK, ExtT, ExtRs, one behind the other. -/
import Derived.Test.YtipeelkmmjgehaaArr
import Derived.Test.YtipeelkmmjgehaaExtM
import Derived.Test.YtipeelkmmjgehaaDkW
import Derived.Test.YtipeelkmmjgehaaDskP
import Derived.Test.YtipeelkmmjgehaaExtI
import Derived.Test.YtipeelkmmjgehaaSecI
import Derived.Test.YtipeelkmmjgehaaDskC
import Derived.Test.YtipeelkmmjgehaaDkR
import Derived.Test.YtipeelkmmjgehaaSecA
import Derived.Test.YtipeelkmmjgehaaDskB
import Derived.Test.YtipeelkmmjgehaaHeldOne
import Derived.Deep.DeepCutAuto
import Derived.Test.YtipeelkmmjgehaaExtS
/- '[]byte(text)': what it lays; a text copied into it. No program is named here. -/
namespace Go.Proofs.Ytipeelkmmjgehaa
open Go Go.RowKit
theorem text_row {P : Program} (w : World) (src dst e : TypeId) (t : ByteArray) (n : Nat) (hn : t.size = n) (hb : n ≤ 1048576) (hs : P.underlying src = some .string) (hd : P.underlying dst = some (.slice e)) (he : P.underlying e = some (.int .u8)) :
    ∃ cap w', (convert src dst (.string t)).run P w = .ok (.slice (some ⟨w.heap.size, 0, none⟩) n cap) w' ∧ n ≤ cap ∧ cap ≤ maxLen ∧ w'.heap.size = w.heap.size + 1 ∧ Below w.heap.size w w' ∧ rowC w' w.heap.size n (bF t) := by
  subst hn
  have hcap := grownCap_ge w t.size 0 e
  have hrow := hasRow.of_text w.drew w.heap.size e (grownCap w t.size 0 e) t hcap (Nat.le_refl _)
  exact ⟨_, _, run_bytes_of_string w src dst e t hs hd he, hcap, grownCap_le_maxLen w t.size 0 e (by unfold maxLen; omega), World.size_alloc _ _, (Below.refl w.heap.size w).drew.alloc (Nat.le_refl _) _, rowC.of_text hrow (bF_at t t.size rfl)⟩
theorem rowC.range {w : World} {g n : Nat} {f : Nat → UInt8} (h : rowC w g n f) : w.rangeAt g 0 (bL n f) := fun j v hj => by
  obtain ⟨hj2, rfl⟩ := bL_get hj
  rw [Nat.zero_add]
  exact (h.2 j hj2).1
theorem rowC.there {w : World} {g n o m : Nat} {f : Nat → UInt8} (h : rowC w g n f) (hm : o + m ≤ n) : w.there g o m := fun j hj => ⟨by rw [(h.2 (o + j) (by omega)).1]; rfl, (h.2 (o + j) (by omega)).2⟩
/-- What lies there behind a copy, byte by byte. -/
theorem rowC.copied {w : World} {g n o m : Nat} {f k : Nat → UInt8} (h : rowC w g n f) (hm : o + m ≤ n) (j : Nat) (hj : j < n) :
    (w.setCells g o (bL m k)).cell? ⟨g, j, none⟩ = some (.int .u8 (((if o ≤ j ∧ j < o + m then k (j - o) else f j).toNat : Nat) : Int)) := by
  by_cases c : o ≤ j ∧ j < o + m
  · rw [if_pos c]
    have h1 := World.rangeAt_setCells_same w g o (bL m k) (by rw [bL_len]; exact h.there hm) (j - o) (u8V k (j - o)) (bL_at m k (j - o) (by omega))
    rwa [show o + (j - o) = j by omega] at h1
  · rw [if_neg c]
    have h1 := World.rangeAt_setCells_apart (w := w) (b' := g) (o' := j) (cs := [.int .u8 ((f j).toNat : Int)]) (fun i v hi => by
      match i, hi with
      | 0, hi => simp at hi; subst hi; exact (h.2 j hj).1) g o (bL m k) (.inr (by rw [bL_len]; simp; omega)) 0 _ rfl
    exact h1
end Go.Proofs.Ytipeelkmmjgehaa
/- What a patch answers. -/
namespace Go.Proofs.Ytipeelkmmjgehaa
open Go Go.RowKit
/-- The first fault of a patch. -/
def ptCode (nS : Nat) (S : Nat → ByteArray) (nC : Nat) (A : Nat → Int) (X : Nat → ByteArray) (a : Int) (n : Nat) (c : Int) : Prop :=
  (c = 1 ∧ ¬ dskOk nS S nC A X) ∨ (c = 8 ∧ dskOk nS S nC A X ∧ ¬ (0 ≤ a ∧ a ≤ 64 * (nS : Int) - (n : Int))) ∨ (c = 9 ∧ dskOk nS S nC A X ∧ (0 ≤ a ∧ a ≤ 64 * (nS : Int) - (n : Int)) ∧ 400 < nC + touchN a.toNat n) ∨ (c = 0 ∧ dskOk nS S nC A X ∧ (0 ≤ a ∧ a ≤ 64 * (nS : Int) - (n : Int)) ∧ nC + touchN a.toNat n ≤ 400)
/-- What ExtentPatch answers where there is no fault: the lists, as rows of their own. -/
def ptGood (nS : Nat) (S : Nat → ByteArray) (nC : Nat) (A : Nat → Int) (X : Nat → ByteArray) (a : Int) (t : ByteArray) (w w' : World) (sv cv : Value) : Prop :=
  w'.ownsRow w.heap.size 9 1 sv nS (sL S nS) ∧ w'.ownsRow w.heap.size 74 2 cv (nC + touchN a.toNat t.size) (wL (wrA A nC ((a.toNat / 64 : Nat) : Int)) (patX X nC (flS S A X (fun _ => true) nC) a.toNat t) (nC + touchN a.toNat t.size)) ∧ apartV sv cv
theorem wL_app (A : Nat → Int) (X : Nat → ByteArray) (nC : Nat) (F : Nat → ByteArray) (p0 : Nat) (t : ByteArray) : ∀ K, wL (wrA A nC ((p0 / 64 : Nat) : Int)) (patX X nC F p0 t) (nC + K) = wL A X nC ++ wL (fun j => ((p0 / 64 + j : Nat) : Int)) (fun j => patS F p0 t (p0 / 64 + j)) K
  | 0 => by
    rw [Nat.add_zero, show wL (fun j => ((p0 / 64 + j : Nat) : Int)) (fun j => patS F p0 t (p0 / 64 + j)) 0 = [] from rfl, List.append_nil]
    unfold wL
    apply List.map_congr_left
    intro j hj
    have hj2 := List.mem_range.1 hj
    show cWr _ _ (j / 2) (j % 2) = cWr _ _ (j / 2) (j % 2)
    unfold cWr wrA patX
    rw [if_pos (show j / 2 < nC by omega), if_pos (show j / 2 < nC by omega)]
  | K + 1 => by
    rw [← Nat.add_assoc, wL_snoc, wL_snoc, wL_app A X nC F p0 t K, List.append_assoc]
    congr 3
    · unfold wrA
      rw [if_neg (by omega), show nC + K - nC = K by omega]
      congr 1
    · unfold patX
      rw [if_neg (by omega), show nC + K - nC = K by omega]
end Go.Proofs.Ytipeelkmmjgehaa
/- What the law of disks needs to know of written pieces; the contracts of DiskWrite in one form. -/
namespace Go.Proofs.Ytipeelkmmjgehaa
open Go Go.RowKit
theorem flF_kp (S : Nat → ByteArray) (A : Nat → Int) (X : Nat → ByteArray) (kp kq : Nat → Bool) : ∀ n, (∀ i, i < n → kp i = kq i) → ∀ j, flS S A X kp n j = flS S A X kq n j
  | 0, _, _ => rfl
  | n + 1, h, j => by
    show (if kp n = true ∧ (j : Int) = A n then X n else flS S A X kp n j) = if kq n = true ∧ (j : Int) = A n then X n else flS S A X kq n j
    rw [h n (by omega), flF_kp S A X kp kq n (fun i hi => h i (by omega)) j]
theorem flF_off (S : Nat → ByteArray) (A : Nat → Int) (X : Nat → ByteArray) (kp : Nat → Bool) : ∀ n, (∀ i, i < n → kp i = false) → ∀ j, flS S A X kp n j = S j
  | 0, _, _ => rfl
  | n + 1, h, j => by
    show (if kp n = true ∧ (j : Int) = A n then X n else flS S A X kp n j) = _
    rw [h n (by omega), if_neg (by simp)]
    exact flF_off S A X kp n (fun i hi => h i (by omega)) j
theorem flF_old (S : Nat → ByteArray) (A : Nat → Int) (X : Nat → ByteArray) (nC : Nat) (a : Int) (t : ByteArray) : ∀ n, n ≤ nC → ∀ j, flS S (wrA A nC a) (wrX X nC t) (fun _ => true) n j = flS S A X (fun _ => true) n j
  | 0, _, _ => rfl
  | n + 1, h, j => by
    show (if true = true ∧ (j : Int) = wrA A nC a n then wrX X nC t n else flS S (wrA A nC a) (wrX X nC t) (fun _ => true) n j) = if true = true ∧ (j : Int) = A n then X n else flS S A X (fun _ => true) n j
    have e1 : wrA A nC a n = A n := if_pos (by omega)
    have e2 : wrX X nC t n = X n := if_pos (by omega)
    rw [flF_old S A X nC a t n (by omega) j, e1, e2]
theorem flF_new (S : Nat → ByteArray) (A : Nat → Int) (X : Nat → ByteArray) (nC a : Nat) (t : ByteArray) : ∀ m j, flS S (wrA A nC (a : Int)) (wrX X nC t) (fun _ => true) (nC + m) j = if a ≤ j ∧ j < a + m then pieceS t (j - a) else flS S A X (fun _ => true) nC j
  | 0, j => by
    rw [if_neg (by omega)]
    exact flF_old S A X nC a t nC (Nat.le_refl _) j
  | m + 1, j => by
    show (if true = true ∧ (j : Int) = wrA A nC (a : Int) (nC + m) then wrX X nC t (nC + m) else flS S (wrA A nC (a : Int)) (wrX X nC t) (fun _ => true) (nC + m) j) = _
    have e1 : wrA A nC (a : Int) (nC + m) = (a : Int) + (m : Int) := by unfold wrA; rw [if_neg (by omega), show nC + m - nC = m by omega]
    have e2 : wrX X nC t (nC + m) = pieceS t m := by unfold wrX; rw [if_neg (by omega), show nC + m - nC = m by omega]
    rw [flF_new S A X nC a t m j, e1, e2]
    by_cases h : j = a + m
    · rw [if_pos ⟨rfl, by omega⟩, if_pos (by omega), show j - a = m by omega]
    · rw [if_neg (show ¬ (true = true ∧ (j : Int) = (a : Int) + (m : Int)) by omega)]
      by_cases h2 : a ≤ j ∧ j < a + m
      · rw [if_pos h2, if_pos (by omega)]
      · rw [if_neg h2, if_neg (by omega)]
/-- The text and zeros behind it. -/
def padF (t : ByteArray) (j : Nat) : UInt8 := if j < t.size then bF t j else 0
theorem catF_pieces (F : Nat → ByteArray) (a : Nat) (t : ByteArray) : ∀ m, (∀ i, i < m → F (a + i) = pieceS t i) → catL F a m = (List.range (64 * m)).map (padF t)
  | 0, _ => rfl
  | m + 1, h => by
    show catL F a m ++ (F (a + m)).data.toList = _
    rw [catF_pieces F a t m (fun i hi => h i (by omega)), h m (by omega), show 64 * (m + 1) = 64 * m + 64 by omega, List.range_add, List.map_append, List.map_map]
    congr 1
theorem catF_congr (F G : Nat → ByteArray) (a : Nat) : ∀ m, (∀ i, i < m → F (a + i) = G (a + i)) → catL F a m = catL G a m
  | 0, _ => rfl
  | m + 1, h => by
    show catL F a m ++ (F (a + m)).data.toList = catL G a m ++ (G (a + m)).data.toList
    rw [catF_congr F G a m (fun i hi => h i (by omega)), h m (by omega)]
theorem catF_one (F : Nat → ByteArray) (a : Nat) : (⟨(catL F a 1).toArray⟩ : ByteArray) = F a := by
  show (⟨(catL F a 0 ++ (F (a + 0)).data.toList).toArray⟩ : ByteArray) = F a
  simp [catL]
theorem padF_take (t : ByteArray) (m : Nat) (h : t.size ≤ 64 * m) : (⟨((List.range (64 * m)).map (padF t)).toArray⟩ : ByteArray).extract 0 t.size = t := by
  apply ByteArray.ext
  rw [ByteArray.data_extract]
  apply Array.ext
  · simp only [Array.size_extract, List.size_toArray, List.length_map, List.length_range]
    show min t.size (64 * m) - 0 = t.size
    omega
  · intro j h1 h2
    have h3 : j < t.size := h2
    simp only [Array.getElem_extract, List.getElem_toArray, List.getElem_map, List.getElem_range, Nat.zero_add]
    unfold padF
    rw [if_pos h3]
    have e := bF_at t t.size rfl j h3
    have h' : j < t.data.toList.length := h2
    rw [List.getElem?_eq_getElem h'] at e
    have e2 := Option.some.inj e
    rw [← e2]
    rfl
theorem manyW_le (t : ByteArray) : t.size ≤ 64 * manyW t := by unfold manyW; omega
theorem wrCode_one {nS : Nat} {S : Nat → ByteArray} {nC : Nat} {A : Nat → Int} {X : Nat → ByteArray} {a m c d : Int} (h : wrCode nS S nC A X a m c) (k : wrCode nS S nC A X a m d) : c = d := by
  unfold wrCode at h k
  rcases h with ⟨rfl, h1⟩ | ⟨rfl, h1, h2⟩ | ⟨rfl, h1, h2, h3⟩ | ⟨rfl, h1, h2, h3⟩ <;> rcases k with ⟨rfl, k1⟩ | ⟨rfl, k1, k2⟩ | ⟨rfl, k1, k2, k3⟩ | ⟨rfl, k1, k2, k3⟩ <;> first | rfl | exact absurd h1 k1 | exact absurd k1 h1 | exact absurd h2 k2 | exact absurd k2 h2 | omega
theorem imp_diskWrite_all (v : Value) (nS : Nat) (S : Nat → ByteArray) (nC : Nat) (A : Nat → Int) (X : Nat → ByteArray) (a : Int) (t : ByteArray) (w : World) (hts : t.size ≤ 20000) (hS : nS ≤ 1048576) (hC : nC ≤ 1048576) (h : dskI w w.heap.size v nS S nC A X) :
    Calls Try.prog 48 #[v, .int .i64 a, .string t] w fun e w' => ∃ x1 y1 z1 x2 y2 z2 c, e = .returned (.agg #[.slice x1 y1 z1, .slice x2 y2 z2, .string ⟨#[]⟩, .int .i64 c]) ∧ wrCode nS S nC A X a (manyW t : Int) c ∧
      (c = 0 → (y1 = nS ∧ y2 = nC + manyW t) ∧ dskI w' w'.heap.size (.agg #[.slice x1 y1 z1, .slice x2 y2 z2]) nS S (nC + manyW t) (wrA A nC a) (wrX X nC t)) ∧ Below w.heap.size w w' := by
  by_cases hg : dskOk nS S nC A X ∧ (0 ≤ a ∧ a ≤ (nS : Int) - (manyW t : Int)) ∧ (nC : Int) + (manyW t : Int) ≤ 400
  · exact (imp_diskWrite_good v nS S nC A X a t w hg.1 hts hg.2.1.1 hg.2.1.2 (by have := hg.2.2; omega) h).mono fun _ w' ⟨sv, cv, k1, k2, k3, k4, k5⟩ => by
      obtain ⟨q1, q2, e1⟩ := own_slice k2
      obtain ⟨q3, q4, e2⟩ := own_slice k3
      subst e1 e2
      exact ⟨_, _, _, _, _, _, 0, k1, .inr (.inr (.inr ⟨rfl, hg⟩)), fun _ => ⟨⟨rfl, rfl⟩, _, _, rfl, (own_val1 k2).strI, (own_val2 k3).sli.congr (fun j _ i hi => by show cWr _ _ ((2 * j + i) / 2) ((2 * j + i) % 2) = _; rw [show (2 * j + i) / 2 = j by omega, show (2 * j + i) % 2 = i by omega])⟩, k5⟩
  · exact (imp_diskWrite_bad v nS S nC A X a t w hts hS hC hg h).mono fun _ w' ⟨c, k1, k2, k3⟩ => ⟨_, _, _, _, _, _, c, k1, k2, fun h0 => by
      subst h0
      rcases k2 with ⟨e, _⟩ | ⟨e, _⟩ | ⟨e, _⟩ | ⟨_, k⟩
      · cases e
      · cases e
      · cases e
      · exact absurd k hg, k3⟩
theorem spec_diskWrite_all (v : Value) (nS : Nat) (S : Nat → ByteArray) (nC : Nat) (A : Nat → Int) (X : Nat → ByteArray) (a : Int) (t : ByteArray) (w : World) (hts : t.size ≤ 20000) (hS : nS ≤ 1048576) (hC : nC ≤ 1048576) (h : dskI w w.heap.size v nS S nC A X) :
    Calls Try.prog 61 #[v, .int .i64 a, .string t] w fun e w' => ∃ sv cv c, e = .returned (.agg #[sv, cv, .string ⟨#[]⟩, .int .i64 c]) ∧ wrCode nS S nC A X a (manyW t : Int) c ∧ Below w.heap.size w w' := by
  by_cases hok : dskOk nS S nC A X
  · by_cases hr : 0 ≤ a ∧ a ≤ (nS : Int) - (manyW t : Int)
    · by_cases hf : (nC : Int) + (manyW t : Int) ≤ 400
      · exact (spec_diskWrite_ok v nS S nC A X a t w hts hok h (fun sv cv c _ _ => c = 0)
          (fun u2 x2 h2_ => (spec_write_good x2 nS S nC A X a t u2 hok hts hr.1 hr.2 (by omega) h2_).mono fun _ _ ⟨sv, cv, k1, k2, k3, k4, k5⟩ => ⟨sv, cv, 0, k1, by
            obtain ⟨q1, q2, e1⟩ := own_slice k2
            obtain ⟨q3, q4, e2⟩ := own_slice k3
            exact ⟨_, _, _, _, _, _, e1, e2⟩, rfl, k5⟩)).mono fun _ w' ⟨sv, cv, c, _, _, k1, k2, _, _, _, k9⟩ => ⟨sv, cv, c, k1, .inr (.inr (.inr ⟨k2, hok, hr, hf⟩)), k9⟩
      · exact (spec_diskWrite_ok v nS S nC A X a t w hts hok h (fun sv cv c _ _ => c = 9)
          (fun u2 x2 h2_ => (spec_write_full x2 nS S nC A X a t u2 hok hts hr.1 ⟨hr.2, by omega⟩ h2_).mono fun _ _ ⟨k1, k2⟩ => ⟨_, _, 9, k1, ⟨_, _, _, _, _, _, rfl, rfl⟩, rfl, k2⟩)).mono fun _ w' ⟨sv, cv, c, _, _, k1, k2, _, _, _, k9⟩ => ⟨sv, cv, c, k1, .inr (.inr (.inl ⟨k2, hok, hr, by omega⟩)), k9⟩
    · exact (spec_diskWrite_ok v nS S nC A X a t w hts hok h (fun sv cv c _ _ => c = 8)
        (fun u2 x2 h2_ => (spec_write_range x2 nS S nC A X a t u2 hok hts (by omega) h2_).mono fun _ _ ⟨k1, k2⟩ => ⟨_, _, 8, k1, ⟨_, _, _, _, _, _, rfl, rfl⟩, rfl, k2⟩)).mono fun _ w' ⟨sv, cv, c, _, _, k1, k2, _, _, _, k9⟩ => ⟨sv, cv, c, k1, .inr (.inl ⟨k2, hok, hr⟩), k9⟩
  · exact (spec_diskWrite_form v nS S nC A X a t w hts hS hC hok h).mono fun _ _ ⟨k1, k2⟩ => ⟨_, _, 1, k1, .inl ⟨rfl, hok⟩, k2⟩
end Go.Proofs.Ytipeelkmmjgehaa
/- The walks over the program's patchCode, partAt. -/
namespace Go.Proofs.Ytipeelkmmjgehaa
open Go Go.RowKit
set_option maxRecDepth 100000 in
set_option maxHeartbeats 1600000 in
theorem imp_patchCode (v : Value) (nS : Nat) (S : Nat → ByteArray) (nC : Nat) (A : Nat → Int) (X : Nat → ByteArray) (a : Int) (n : Nat) (w : World) (hS : nS ≤ 1048576) (hC : nC ≤ 1048576) (hn : n ≤ 20000) (h : dskI w w.heap.size v nS S nC A X) :
    Calls Try.prog 36 #[v, .int .i64 a, .int .i64 (n : Int)] w fun e w' => ∃ c : Int, e = .returned (.int .i64 c) ∧ ptCode nS S nC A X a n c ∧ Below w.heap.size w w' := by
  obtain ⟨sv, cv, rfl, hs, hc⟩ := h
  have HI := hide (show dskI w w.heap.size (.agg #[sv, cv]) nS S nC A X from ⟨sv, cv, rfl, hs, hc⟩)
  obtain ⟨sa, sk, e1⟩ : ∃ a c, sv = .slice a nS c := by obtain ⟨a, c, e, _⟩ := hs; exact ⟨a, c, e⟩
  obtain ⟨ca, ck, e2⟩ : ∃ a c, cv = .slice a nC c := by obtain ⟨a, c, e, _⟩ := hc; exact ⟨a, c, e⟩
  subst e1 e2
  clear hs hc
  have q0 : Below w.heap.size w (w.alloc (.cells #[.slice sa nS sk, .slice ca nC ck] 26)) := (Below.refl _ w).alloc (Nat.le_refl _) _
  have q1 : (w.alloc (.cells #[.slice sa nS sk, .slice ca nC ck] 26)).heap[w.heap.size]? = some (.cells #[.slice sa nS sk, .slice ca nC ck] 26) := heap_alloc_new _ _
  have qs : (w.alloc (.cells #[.slice sa nS sk, .slice ca nC ck] 26)).heap.size = w.heap.size + 1 := by simp
  have HQ := hide (And.intro q0 q1)
  clear q0 q1
  obtain ⟨m64, hm64⟩ : ∃ m : Nat, m = 64 * nS := ⟨_, rfl⟩
  have s1 : (nS : Int) * 64 = (m64 : Int) := by omega
  have hmb : (m64 : Int) ≤ 67108864 := by omega
  have HM := hide hm64
  clear hm64
  go_enter Try.func36, Try.ntmps36
  go_wp2_with fail
  obtain ⟨q0, q1⟩ := HQ.out
  generalize w.alloc (.cells #[.slice sa nS sk, .slice ca nC ck] 26) = W2 at *
  have I2 : dskI W2 W2.heap.size (.agg #[.slice sa nS sk, .slice ca nC ck]) nS S nC A X := (HI.out.below q0).wide (by omega)
  refine (imp_diskRight _ nS S nC A X W2 hS hC I2).mono ?_
  rintro e w1 ⟨⟨r, rfl, hr⟩, hb1⟩
  have r2 := (hb1.block w.heap.size (by omega)).trans q1
  have b0 : w1.cell? ⟨w.heap.size, 0, none⟩ = some (.slice sa nS sk) := by simp [World.cell?, r2]
  have HB := hide (q0.trans (hb1.mono (by omega)))
  have R2 := hide r2
  clear hb1 q0 q1 I2 HQ r2
  cases r with
  | false =>
    have R := hide (show ¬ dskOk nS S nC A X from fun h => by have := hr.2 h; cases this)
    clear hr
    go_wp2_with fail
    go_ret
    exact ⟨1, rfl, .inl ⟨rfl, R.out⟩, HB.out⟩
  | true =>
    have R := hide (hr.1 rfl)
    clear hr
    go_wp2_with fail
    refine (imp_lieIn a (n : Int) (m64 : Int) w1 (by omega) (by omega) (by omega) (by omega)).mono ?_
    rintro e w2 ⟨⟨r, rfl, hr⟩, hb2⟩
    have hw1 : w.heap.size < w1.heap.size := World.block_lt_of_cell? w1 _ b0
    have r2 := (hb2.block w.heap.size hw1).trans R2.out
    have c1 : w2.cell? ⟨w.heap.size, 1, none⟩ = some (.slice ca nC ck) := by simp [World.cell?, r2]
    have HB2 := hide (HB.out.trans (hb2.mono (by omega)))
    clear hb2 b0 HB R2 r2
    cases r with
    | false =>
      have R3 := hide (show ¬ (0 ≤ a ∧ a ≤ 64 * (nS : Int) - (n : Int)) from fun h => by have := hr.2 (by have := HM.out; omega); cases this)
      clear hr
      go_wp2_with fail
      go_ret
      exact ⟨8, rfl, .inr (.inl ⟨rfl, R.out, R3.out⟩), HB2.out⟩
    | true =>
      have h3 := hr.1 rfl
      have hn6 := R.out.1
      have hn4 := R.out.2.1
      obtain ⟨p, rfl⟩ : ∃ p : Nat, a = (p : Int) := ⟨a.toNat, by omega⟩
      have R3 := hide (show 0 ≤ (p : Int) ∧ (p : Int) ≤ 64 * (nS : Int) - (n : Int) from by have := HM.out; omega)
      have hc : ∀ w, Calls Try.prog 63 #[.int .i64 (p : Int), .int .i64 (n : Int)] w fun e w' => e = .returned (.int .i64 (touchN p n : Int)) ∧ w' = w := fun w => imp_touched p n w (by omega)
      obtain ⟨k, hk⟩ : ∃ k, k = touchN p n := ⟨_, rfl⟩
      have hkb : k ≤ 20063 := by rw [hk]; unfold touchN; split <;> omega
      rw [← hk] at hc
      have HC := hide hc
      have HK := hide (show touchN (p : Int).toNat n = k from by rw [hk]; rfl)
      obtain ⟨nm, hnm⟩ : ∃ nm : Nat, nm = nC + k := ⟨_, rfl⟩
      have s2 : IntKind.i64.wrap ((nC : Int) + (k : Int)) = (nm : Int) := by simp only [IntKind.wrap_i64]; omega
      have s3 : (nC : Int) + (k : Int) = (nm : Int) := by omega
      have HNM := hide hnm
      have hnb : (nm : Int) ≤ 30000 := by omega
      clear hr h3 hc hk hnm
      by_cases g : 400 < nm
      · have dg : decide ((400 : Int) < (nm : Int)) = true := decide_eq_true (by omega)
        have dgn : decide (400 < nm) = true := decide_eq_true g
        have G := hide g
        clear g
        go_wp2_with fail
        go_quiet ((go_at_call 63; exact Calls.quiet_of_same (HC.out _)))
        go_wp2_with fail
        go_ret
        exact ⟨9, rfl, .inr (.inr (.inl ⟨rfl, R.out, R3.out, by rw [HK.out, ← HNM.out]; exact G.out⟩)), below_drewN HB2.out _⟩
      · have dg : decide ((400 : Int) < (nm : Int)) = false := decide_eq_false (by omega)
        have dgn : decide (400 < nm) = false := decide_eq_false g
        have G := hide g
        clear g
        go_wp2_with fail
        go_quiet ((go_at_call 63; exact Calls.quiet_of_same (HC.out _)))
        go_wp2_with fail
        go_ret
        exact ⟨0, rfl, .inr (.inr (.inr ⟨rfl, R.out, R3.out, by rw [HK.out, ← HNM.out]; have := G.out; omega⟩)), below_drewN HB2.out _⟩
set_option maxRecDepth 100000 in
set_option maxHeartbeats 1600000 in
theorem imp_partAt (p g o n cap m : Nat) (w : World) (hp : p ≤ 1048576) (hn0 : 0 < n) (hn : n ≤ cap) (hcap : cap ≤ 9223372036854775807) (hm : m = min n (64 - p % 64)) :
    Calls Try.prog 65 #[.int .i64 (p : Int), .slice (some ⟨g, o, none⟩) n cap] w fun e w' => e = .returned (.agg #[.int .i64 ((p / 64 : Nat) : Int), .int .i64 ((p % 64 : Nat) : Int), .slice (some ⟨g, o, none⟩) m cap]) ∧ Below w.heap.size w w' := by
  obtain ⟨f, hf⟩ : ∃ f, f = p % 64 := ⟨_, rfl⟩
  obtain ⟨d, hd⟩ : ∃ d, d = p / 64 := ⟨_, rfl⟩
  have s1 : Int.tmod (p : Int) 64 = (f : Int) := by rw [hf]; rfl
  have s2 : (p : Int) % 64 = (f : Int) := by omega
  have s3 : Int.tdiv (p : Int) 64 = (d : Int) := by rw [hd]; rfl
  have s4 : (p : Int) / 64 = (d : Int) := by omega
  have hf64 : f < 64 := by omega
  rw [← hf] at hm
  rw [← hf, ← hd]
  obtain ⟨r, hr⟩ : ∃ r, r = 64 - f := ⟨_, rfl⟩
  have s5 : (64 : Int) - (f : Int) = (r : Int) := by omega
  have s6 : min (n : Int) (r : Int) = (m : Int) := by omega
  have hm1 : m ≤ n := by omega
  have hm2 : (m : Int) ≤ (cap : Int) := by omega
  have hcb : (cap : Int) ≤ 9223372036854775807 := by omega
  have hc1 : 1 ≤ cap := by omega
  have hf64' : (f : Int) < 64 := by omega
  have q0 := hide ((Below.refl w.heap.size w).alloc (Nat.le_refl _) (.cells #[.int .i64 0, .int .i64 0, .slice none 0 0] 93))
  clear hf hd
  by_cases hrn : r < n
  · obtain rfl : m = r := by omega
    clear hr hm s6
    go_enter Try.func65, Try.ntmps65
    go_wp2_with fail
    go_returns
    exact ⟨rfl, by go_grown⟩
  · obtain rfl : m = n := by omega
    clear hr hm s6
    go_enter Try.func65, Try.ntmps65
    go_wp2_with fail
    go_returns
    exact ⟨rfl, by go_grown⟩
end Go.Proofs.Ytipeelkmmjgehaa
/- The walk over the program's latest (written by mkdkl.py). -/
namespace Go.Proofs.Ytipeelkmmjgehaa
open Go Go.RowKit
/-- Of each number the last write of it. -/
def latM (A : Nat → Int) (X : Nat → ByteArray) : Nat → Int → Option ByteArray
  | 0 => fun _ => none
  | k + 1 => updM (latM A X k) (A k) (X k)
section
variable {P : Program} {ops : Array Oper} {Q : Exit → Act → World → Prop}
theorem step_sec_update {o : Oper} {a : Act} {w : World} {K : Act → World → Prop} {E : Prop} (d : Option Nat) (hd : o.dst = d) (hgd : o.guard = none) (t : TypeId) (m x v : Operand) (ho : o.op = .mapUpdate t m x v)
    (k e : TypeId) (hk : P.underlying k = some (.int .i64)) (ht : P.underlying t = some (.map k e)) (mb n : Nat) (M : Int → Option ByteArray)
    (hm : a.eval m = .map (some mb)) (h : SecM P k w mb n M) (hn : n < maxLen) (A : Int) (T : ByteArray) (hx : a.eval x = .int .i64 A) (hwf : (Lit.int .i64 A).wf = true) (hv : a.eval v = secV T)
    (hK : ∀ w', SecM P k w' mb (n + 1) (updM M A T) → w.grownBy w' (some mb) → K (a.put d undef) w') : if Region.wanted o (yielded ops a.tmps) = true then Oper.wp P o a w K Q else E := by
  subst hd
  obtain ⟨w', hrun, h1, h2⟩ := h.update hk ht hn A hwf T
  rw [if_pos (by simp [Region.wanted, hgd])]
  unfold Oper.wp
  simp [execOp, ho, hm, hx, hv, hrun, Result.andThen]
  exact hK w' h1 h2
end
theorem i64_wf {a : Int} (h0 : 0 ≤ a) (h1 : a ≤ 4611686018427387904) : (Lit.int .i64 a).wf = true := by
  simp [Lit.wf]; exact ⟨Int.le_trans (by decide) h0, Int.le_trans h1 (by decide)⟩
set_option maxRecDepth 100000 in
set_option maxHeartbeats 1600000 in
theorem imp_latest (cv : Value) (nC : Nat) (A : Nat → Int) (X : Nat → ByteArray) (w : World) (hC : nC ≤ 1048576) (hA : ∀ j, j < nC → 0 ≤ A j ∧ A j ≤ 1048576) (hX : ∀ j, j < nC → (X j).size = 64) (h : sliI 2 w w.heap.size cv nC (cWr A X)) :
    Calls Try.prog 64 #[cv] w fun e w' => ∃ mb, e = .returned (.map (some mb)) ∧ SecM Try.prog 2 w' mb nC (latM A X nC) ∧ w.heap.size ≤ mb ∧ Below w.heap.size w w' := by
  obtain ⟨ca, ck, rfl, hck, hc⟩ := h
  have HC := hide hc
  have HA := hide (And.intro hA hX)
  clear hc hA hX
  have hck' : (nC : Int) ≤ (ck : Int) := by omega
  have hmm := @run_makeMap Try.prog
  have q0 := (Below.refl w.heap.size w).alloc (Nat.le_refl _) (.map #[] 0)
  have q1 := hide (SecM.made w Try.prog 2)
  have qs : (w.alloc (.map #[] 0)).heap.size = w.heap.size + 1 := by simp
  go_enter Try.func64, Try.ntmps64
  go_wp2_with fail
  generalize w.alloc (.map #[] 0) = W1 at *
  clear hmm
  have Q0 := hide q0
  clear q0
  go_loopw [9] (fun i wx => ∃ k : Nat, k ≤ nC ∧ i = .int .i64 k ∧ Hid (SecM Try.prog 2 wx w.heap.size k (latM A X k)) ∧ Hid (Below w.heap.size w wx) ∧ w.heap.size < wx.heap.size) (fun i _ => nC - (intOf i).toNat)
  case atStart => exact ⟨0, Nat.zero_le _, rfl, q1, Q0, by omega⟩
  case round =>
    obtain ⟨k, hk, rfl, HM, HB0, hsz⟩ := hrel
    by_cases hlt : k < nC
    · have hlt' : (k : Int) < (nC : Int) := by omega
      obtain h00 | ⟨r, o, rfl, hr, hcells⟩ := HC.out
      · omega
      obtain ⟨a, ha⟩ : ∃ a, a = A k := ⟨_, rfl⟩
      obtain ⟨x, hx⟩ : ∃ x, x = X k := ⟨_, rfl⟩
      obtain ⟨q, hq⟩ : ∃ q, q = o + 2 * k := ⟨_, rfl⟩
      have y0 : wr.cell? ⟨r, q, none⟩ = some (.int .i64 a) := by rw [hq, ha]; exact (HB0.out.cell (p := ⟨r, o + 2 * k, none⟩) hr).trans (hcells k hlt 0 (by omega))
      have y1 : wr.cell? ⟨r, q + 1, none⟩ = some (.string x) := by rw [hq, hx]; exact (HB0.out.cell (p := ⟨r, o + 2 * k + 1, none⟩) hr).trans (hcells k hlt 1 (by omega))
      have n1 : o + 2 * k = q := hq.symm
      have n2 : o + k * 2 = q := by omega
      have ha2 : 0 ≤ a ∧ a ≤ 1048576 := by rw [ha]; exact HA.out.1 k hlt
      have hxs : x.size = 64 := by rw [hx]; exact HA.out.2 k hlt
      have hwf := i64_wf ha2.1 (by omega)
      have HX := hide (And.intro ha hx)
      have HB := hide (HB0.out.alloc HB0.out.size (.cells #[.int .i64 a, .string x] 74))
      clear hcells HC ha hx hq
      go_wp2_with fail
      have t0 : (wr.alloc (.cells #[.int .i64 a, .string x] 74)).drew.cell? ⟨wr.heap.size, 0, none⟩ = some (.int .i64 a) := by rw [World.cell?_drew]; go_simp
      have t1 : (wr.alloc (.cells #[.int .i64 a, .string x] 74)).drew.cell? ⟨wr.heap.size, 1, none⟩ = some (.string x) := by rw [World.cell?_drew]; go_simp
      refine wp_region_held_drew (S := fun u => u.cell? ⟨wr.heap.size, 0, none⟩ = some (.int .i64 a) ∧ u.cell? ⟨wr.heap.size, 1, none⟩ = some (.string x)) (by kernel_rfl) ⟨t0, t1⟩ (fun hHeld => ?_)
      clear t0 t1 y0 y1
      refine takeD (i := 0) (v := .map (some w.heap.size)) (some 13) rfl rfl (by kernel_rfl) (by kernel_rfl) (by kernel_rfl) (fun _ _ _ h => h) (Or.inl ⟨by rfl, fun w hSw => by go_simp⟩) hHeld ?_
      simp only [Act.put, List.setIfInBounds_toArray, List.set_cons_zero, List.set_cons_succ]
      refine takeD (i := 1) (v := .pointer (some ⟨wr.heap.size, 0, none⟩)) (some 14) rfl rfl (by kernel_rfl) (by kernel_rfl) (by kernel_rfl) (fun _ _ _ h => h) (Or.inl ⟨by rfl, fun w hSw => by go_simp⟩) hHeld ?_
      simp only [Act.put, List.setIfInBounds_toArray, List.set_cons_zero, List.set_cons_succ]
      refine takeD (i := 2) (v := .int .i64 a) (some 15) rfl rfl (by kernel_rfl) (by kernel_rfl) (by kernel_rfl) (fun _ _ _ h => h) (Or.inl ⟨by rfl, fun w hSw => by obtain ⟨s0, s1⟩ := hSw; go_simp⟩) hHeld ?_
      simp only [Act.put, List.setIfInBounds_toArray, List.set_cons_zero, List.set_cons_succ]
      refine takeD (i := 3) (v := .pointer (some ⟨wr.heap.size, 1, none⟩)) (some 16) rfl rfl (by kernel_rfl) (by kernel_rfl) (by kernel_rfl) (fun _ _ _ h => h) (Or.inl ⟨by rfl, fun w hSw => by go_simp⟩) hHeld ?_
      simp only [Act.put, List.setIfInBounds_toArray, List.set_cons_zero, List.set_cons_succ]
      refine takeD (i := 4) (v := .string x) (some 17) rfl rfl (by kernel_rfl) (by kernel_rfl) (by kernel_rfl) (fun _ _ _ h => h) (Or.inl ⟨by rfl, fun w hSw => by obtain ⟨s0, s1⟩ := hSw; go_simp⟩) hHeld ?_
      simp only [Act.put, List.setIfInBounds_toArray, List.set_cons_zero, List.set_cons_succ]
      refine wpAnyH_ready (rs := [5]) (by kernel_rfl) (by simp) ?_
      refine AllReadyH.cons rfl (fun KK hK => ?_) AllReadyH.nil
      go_simp
      refine (imp_sectorOf x _ (by omega)).mono ?_
      rintro e w2 ⟨rfl, hb2⟩
      have hb3 := HB.out.drew.trans (hb2.mono (by simp; omega))
      have e2 : w2.heap[w.heap.size]? = wr.heap[w.heap.size]? := (hb2.block w.heap.size (by simp; omega)).trans (Below.heap_alloc _ _ _ (by omega))
      have e0 : w2.heap[wr.heap.size]? = some (.cells #[.int .i64 a, .string x] 74) := (hb2.block wr.heap.size (by simp)).trans (heap_alloc_new _ _)
      have s0 : w2.cell? ⟨wr.heap.size, 0, none⟩ = some (.int .i64 a) := by simp [World.cell?, e0]
      have s1 : w2.cell? ⟨wr.heap.size, 1, none⟩ = some (.string x) := by simp [World.cell?, e0]
      have M2 := hide (HM.out.blk e2)
      clear e2 e0 hb2
      go_wp2_with fail
      refine hK.out _ _ ⟨s0, s1⟩ (fun hHeld => ?_)
      clear hK KK
      refine wpAnyH_ready (rs := [6]) (by kernel_rfl) (by simp) ?_
      refine AllReadyH.cons rfl (fun KK hK => ?_) AllReadyH.nil
      refine step_sec_update none rfl rfl _ (.tmp 13) (.tmp 15) (.tmp 18) rfl 2 97 Try.underlying2 Try.underlying60 w.heap.size k (latM A X k) rfl M2.out (by unfold maxLen; omega) a x rfl hwf rfl ?_
      intro w3 hm3 hg3
      have hne : wr.heap.size ≠ w.heap.size := by omega
      have hs2 : wr.heap.size < w2.heap.size := World.block_lt_of_cell? w2 _ s0
      have e3 := hg3.block wr.heap.size hs2 (by simp; omega)
      have u0 : w3.cell? ⟨wr.heap.size, 0, none⟩ = some (.int .i64 a) := (World.cell?_of_block (w := w2) (a := ⟨wr.heap.size, 0, none⟩) e3).trans s0
      have u1 : w3.cell? ⟨wr.heap.size, 1, none⟩ = some (.string x) := (World.cell?_of_block (w := w2) (a := ⟨wr.heap.size, 1, none⟩) e3).trans s1
      have R1 := hide (show SecM Try.prog 2 w3 w.heap.size (k + 1) (latM A X (k + 1)) by show SecM Try.prog 2 w3 w.heap.size (k + 1) (updM (latM A X k) (A k) (X k)); rw [← HX.out.1, ← HX.out.2]; exact hm3)
      have R2 := hide (show Below w.heap.size w w3 from ⟨hg3.os.trans hb3.os, hg3.tape.trans hb3.tape, hg3.output.trans hb3.output, Nat.le_trans hb3.size hg3.size, fun g hg => (hg3.block g (Nat.lt_of_lt_of_le hg hb3.size) (by intro e; cases e; omega)).trans (hb3.block g hg)⟩)
      have R3 := R1.out.lt
      simp only [Act.put]
      refine hK.out _ _ ⟨u0, u1⟩ (fun hHeld => ?_)
      clear hK KK hm3 hg3 hb3 e3 M2 HM HB s0 s1 u0 u1 hne hs2
      refine wpAnyH_done (by kernel_rfl) ?_ _
      go_wp2_with fail
      go_roundw
      case rel => exact ⟨k + 1, by omega, by go_num, R1, R2, R3⟩
      case measure => simp [intOf]; omega
    · have hlt' : ¬ (k : Int) < (nC : Int) := by omega
      have hkn : k = nC := by omega
      subst hkn
      go_wp2_with fail
      go_ret
      exact ⟨w.heap.size, rfl, HM.out, Nat.le_refl _, HB0.out⟩
end Go.Proofs.Ytipeelkmmjgehaa
/- The walks over the program's viewOf, has: a disk as it is read. -/
namespace Go.Proofs.Ytipeelkmmjgehaa
open Go Go.RowKit
theorem flS_lat2 (S : Nat → ByteArray) (A : Nat → Int) (X : Nat → ByteArray) : ∀ n j, flS S A X (fun _ => true) n j = (latM A X n (j : Int)).getD (S j)
  | 0, _ => rfl
  | n + 1, j => by
    show (if true = true ∧ (j : Int) = A n then X n else flS S A X (fun _ => true) n j) = (if (j : Int) = A n then some (X n) else latM A X n j).getD (S j)
    by_cases e : (j : Int) = A n
    · rw [if_pos ⟨rfl, e⟩, if_pos e]; rfl
    · rw [if_neg (fun h => e h.2), if_neg e]; exact flS_lat2 S A X n j
/-- A disk as it is read: its sectors, and the writes of its cache. -/
def vwI (w : World) (B : Nat) (v : Value) (nS : Nat) (S : Nat → ByteArray) (nC : Nat) (M : Int → Option ByteArray) : Prop :=
  ∃ sa sk mb, v = .agg #[.slice sa nS sk, .map (some mb)] ∧ strI w B (.slice sa nS sk) nS S ∧ mb < B ∧ SecM Try.prog 2 w mb nC M
theorem vwI.below {w w' : World} {B : Nat} {v : Value} {nS : Nat} {S : Nat → ByteArray} {nC : Nat} {M : Int → Option ByteArray} (h : vwI w B v nS S nC M) (hb : Below B w w') : vwI w' B v nS S nC M := by
  obtain ⟨sa, sk, mb, rfl, h1, h2, h3⟩ := h
  exact ⟨sa, sk, mb, rfl, h1.below hb, h2, h3.blk (hb.block mb h2)⟩
theorem vwI.wide {w : World} {B C : Nat} {v : Value} {nS : Nat} {S : Nat → ByteArray} {nC : Nat} {M : Int → Option ByteArray} (h : vwI w B v nS S nC M) (hb : B ≤ C) : vwI w C v nS S nC M := by
  obtain ⟨sa, sk, mb, rfl, h1, h2, h3⟩ := h
  exact ⟨sa, sk, mb, rfl, h1.wide hb, Nat.lt_of_lt_of_le h2 hb, h3⟩
set_option maxRecDepth 100000 in
set_option maxHeartbeats 1600000 in
theorem imp_viewOf (v : Value) (nS : Nat) (S : Nat → ByteArray) (nC : Nat) (A : Nat → Int) (X : Nat → ByteArray) (w : World) (hok : dskOk nS S nC A X) (h : dskI w w.heap.size v nS S nC A X) :
    Calls Try.prog 37 #[v] w fun e w' => ∃ o, e = .returned o ∧ vwI w' w'.heap.size o nS S nC (latM A X nC) ∧ Below w.heap.size w w' := by
  obtain ⟨sv, cv, rfl, hs, hc⟩ := h
  obtain ⟨sa, sk, e1⟩ : ∃ a c, sv = .slice a nS c := by obtain ⟨a, c, e, _⟩ := hs; exact ⟨a, c, e⟩
  obtain ⟨ca, ck, e2⟩ : ∃ a c, cv = .slice a nC c := by obtain ⟨a, c, e, _⟩ := hc; exact ⟨a, c, e⟩
  subst e1 e2
  have HS := hide (And.intro hs hc)
  have HOK := hide hok
  clear hs hc hok
  have hC : nC ≤ 1048576 := by have := HOK.out.2.1; omega
  obtain ⟨q0, q1, q2, q3⟩ := box2 w (.cells #[.slice sa nS sk, .slice ca nC ck] 26) (.cells #[.slice none 0 0, .map none] 62)
  have HQ := hide (And.intro q0 (And.intro q1 (And.intro q2 q3)))
  clear q0 q1 q2 q3
  go_enter Try.func37, Try.ntmps37
  go_wp2_with fail
  obtain ⟨q0, q1, q2, q3⟩ := HQ.out
  generalize ((w.alloc (.cells #[.slice sa nS sk, .slice ca nC ck] 26)).alloc (.cells #[.slice none 0 0, .map none] 62)) = W2 at *
  clear HQ
  have SA : ∀ u : World, Below W2.heap.size W2 u → (u.cell? ⟨w.heap.size, 0, none⟩ = some (.slice sa nS sk) ∧ u.cell? ⟨w.heap.size, 1, none⟩ = some (.slice ca nC ck)) ∧ u.heap[w.heap.size + 1]? = some (.cells #[.slice none 0 0, .map none] 62) := fun u hu => by
    have h2 := (hu.block w.heap.size (by omega)).trans q2
    exact ⟨⟨by simp [World.cell?, h2], by simp [World.cell?, h2]⟩, (hu.block (w.heap.size + 1) (by omega)).trans q3⟩
  have HC2 := hide ((HS.out.2.below q0).wide (show w.heap.size ≤ W2.heap.size by omega))
  have HS2 := hide (HS.out.1.below q0)
  have Q0 := hide q0
  have SAh := hide SA
  clear q0 q2 q3 HS SA
  refine wp_region_held_drew (S := fun u => u.cell? ⟨w.heap.size, 0, none⟩ = some (.slice sa nS sk) ∧ u.cell? ⟨w.heap.size, 1, none⟩ = some (.slice ca nC ck)) (by kernel_rfl) (SAh.out _ (Below.refl _ _).drew).1 (fun hHeld => ?_)
  refine takeD (i := 0) (v := .pointer (some ⟨w.heap.size, 0, none⟩)) (some 3) rfl rfl (by kernel_rfl) (by kernel_rfl) (by kernel_rfl) (fun _ _ _ h => h) (Or.inl ⟨by rfl, fun w hSw => by go_simp⟩) hHeld ?_
  simp only [Act.put, List.setIfInBounds_toArray, List.set_cons_zero, List.set_cons_succ]
  refine takeD (i := 1) (v := .slice sa nS sk) (some 4) rfl rfl (by kernel_rfl) (by kernel_rfl) (by kernel_rfl) (fun _ _ _ h => h) (Or.inl ⟨by rfl, fun w hSw => by obtain ⟨s0, s1⟩ := hSw; go_simp⟩) hHeld ?_
  simp only [Act.put, List.setIfInBounds_toArray, List.set_cons_zero, List.set_cons_succ]
  refine takeD (i := 2) (v := .pointer (some ⟨w.heap.size, 1, none⟩)) (some 5) rfl rfl (by kernel_rfl) (by kernel_rfl) (by kernel_rfl) (fun _ _ _ h => h) (Or.inl ⟨by rfl, fun w hSw => by go_simp⟩) hHeld ?_
  simp only [Act.put, List.setIfInBounds_toArray, List.set_cons_zero, List.set_cons_succ]
  refine takeD (i := 3) (v := .slice ca nC ck) (some 6) rfl rfl (by kernel_rfl) (by kernel_rfl) (by kernel_rfl) (fun _ _ _ h => h) (Or.inl ⟨by rfl, fun w hSw => by obtain ⟨s0, s1⟩ := hSw; go_simp⟩) hHeld ?_
  simp only [Act.put, List.setIfInBounds_toArray, List.set_cons_zero, List.set_cons_succ]
  refine wpAnyH_ready (rs := [4]) (by kernel_rfl) (by simp) ?_
  refine AllReadyH.cons rfl (fun KK hK => ?_) AllReadyH.nil
  go_simp
  refine (imp_latest (.slice ca nC ck) nC A X W2.drew hC (fun j hj => by have := HOK.out.2.2.2 j hj; have := HOK.out.1; omega) (fun j hj => (HOK.out.2.2.2 j hj).2.2) (HC2.out.below (Below.refl _ _).drew)).mono ?_
  rintro e w3 ⟨mb, rfl, hM, hmb, hb⟩
  have b1 : Below W2.heap.size W2 w3 := (Below.refl _ _).drew.trans hb
  have hs3 := b1.size
  have hmb2 := hM.lt
  replace hmb : W2.heap.size ≤ mb := hmb
  obtain ⟨q1b⟩ : Nonempty (w.heap.size + 2 ≤ W2.heap.size) := ⟨by omega⟩
  have HM := hide hM
  have B1 := hide b1
  obtain ⟨⟨s0, s1⟩, s2⟩ := SAh.out w3 b1
  have h20 : w3.cell? ⟨w.heap.size + 1, 0, none⟩ = some (.slice none 0 0) := by simp [World.cell?, s2]
  have h21 : w3.cell? ⟨w.heap.size + 1, 1, none⟩ = some (.map none) := by simp [World.cell?, s2]
  have z20 : w3.frozen? ⟨w.heap.size + 1, 0, none⟩ = false := by simp [World.frozen?, s2]
  have z21 : w3.frozen? ⟨w.heap.size + 1, 1, none⟩ = false := by simp [World.frozen?, s2]
  have S2h := hide s2
  clear hb b1 hM s2
  go_wp2_with fail
  refine hK.out _ _ ⟨s0, s1⟩ (fun hHeld => ?_)
  clear hK KK
  refine takeD (i := 5) (v := .agg #[.slice sa nS sk, .map (some mb)]) (some 8) rfl rfl (by kernel_rfl) (by kernel_rfl) (by kernel_rfl) (fun _ _ _ h => h) (Or.inl ⟨by rfl, fun w hSw => by go_simp⟩) hHeld ?_
  simp only [Act.put, List.setIfInBounds_toArray, List.set_cons_zero, List.set_cons_succ]
  refine wpAnyH_ready (rs := [6]) (by kernel_rfl) (by simp) ?_
  refine AllReadyH.cons rfl (fun KK hK => ?_) AllReadyH.nil
  go_wp2_with fail
  refine hK.out _ _ ⟨by simpa [World.cell?, World.setCell, Array.getElem?_modify] using s0, by simpa [World.cell?, World.setCell, Array.getElem?_modify] using s1⟩ (fun hHeld => ?_)
  clear hK KK
  refine wpAnyH_done (by kernel_rfl) ?_ _
  go_wp2_with fail
  have fin : ((w3.setCell ⟨w.heap.size + 1, 0, none⟩ (.slice sa nS sk)).setCell ⟨w.heap.size + 1, 1, none⟩ (.map (some mb))).heap[w.heap.size + 1]? = some (.cells #[.slice sa nS sk, .map (some mb)] 62) := by simp [World.setCell, Array.getElem?_modify, S2h.out]
  have hbase := Q0.out.trans (B1.out.mono (by omega))
  have b4 := below_set (below_set hbase (w.heap.size + 1) 0 (by omega) (.slice sa nS sk)) (w.heap.size + 1) 1 (by omega) (.map (some mb))
  have k4 : strI ((w3.setCell ⟨w.heap.size + 1, 0, none⟩ (.slice sa nS sk)).setCell ⟨w.heap.size + 1, 1, none⟩ (.map (some mb))) w.heap.size (.slice sa nS sk) nS S := (HS2.out.below (B1.out.mono (by omega))).below (below_set (below_set (Below.refl _ _) (w.heap.size + 1) 0 (by omega) (.slice sa nS sk)) (w.heap.size + 1) 1 (by omega) (.map (some mb)))
  have m4 := HM.out.blk (w' := (w3.setCell ⟨w.heap.size + 1, 0, none⟩ (.slice sa nS sk)).setCell ⟨w.heap.size + 1, 1, none⟩ (.map (some mb))) ((set1_o _ _ _ _ _ (by omega)).trans (set1_o _ _ _ _ _ (by omega)))
  have z4 : ((w3.setCell ⟨w.heap.size + 1, 0, none⟩ (.slice sa nS sk)).setCell ⟨w.heap.size + 1, 1, none⟩ (.map (some mb))).heap.size = w3.heap.size := by simp [World.setCell]
  exact bodyPost_ret (results_cell_row Try.results37 _ _ (w.heap.size + 1) 62 #[.slice sa nS sk, .map (some mb)] (0, 0) _ rfl fin Try.underlying62 rfl (by kernel_rfl)) rfl ⟨_, rfl, ⟨sa, sk, mb, rfl, k4.wide (by omega), by omega, m4⟩, b4⟩
set_option maxRecDepth 100000 in
set_option maxHeartbeats 1600000 in
theorem imp_has (v : Value) (nS : Nat) (S : Nat → ByteArray) (nC : Nat) (M : Int → Option ByteArray) (p : Nat) (F : ByteArray) (w : World) (hn : nS ≤ 620) (hp : p < nS) (hF : F = (M (p : Int)).getD (S p)) (hFs : F.size = 64) (h : vwI w w.heap.size v nS S nC M) :
    Calls Try.prog 66 #[v, .int .i64 (p : Int)] w fun e w' => e = .returned (secV F) ∧ Below w.heap.size w w' := by
  obtain ⟨sa, sk, mb, rfl, hs, hmb, hM⟩ := h
  have hp' : (p : Int) < (nS : Int) := by omega
  have hp6 : (p : Int) ≤ 620 := by omega
  have hwf := i64_wf (a := (p : Int)) (by omega) (by omega)
  have q0 : Below w.heap.size w (w.alloc (.cells #[.slice sa nS sk, .map (some mb)] 62)) := (Below.refl _ w).alloc (Nat.le_refl _) _
  have qs : (w.alloc (.cells #[.slice sa nS sk, .map (some mb)] 62)).heap.size = w.heap.size + 1 := by simp
  have qb : (w.alloc (.cells #[.slice sa nS sk, .map (some mb)] 62)).heap[w.heap.size]? = some (.cells #[.slice sa nS sk, .map (some mb)] 62) := heap_alloc_new _ _
  have HS := hide (And.intro hs hM)
  have HF := hide hF
  clear hs hM hF
  cases hMp : M (p : Int) with
  | some T0 =>
    obtain rfl : F = T0 := by have := HF.out; rw [hMp] at this; exact this
    have HMP := hide hMp
    clear hMp
    go_enter Try.func66, Try.ntmps66
    go_wp2_with (first | (with_reducible (show wpList _ _ _ ({ dst := some 4, op := .alloc _, type := _, pos := _, after := _, guard := _ } :: _) _ _); (refine wpList_alloc_sec _ rfl (some 4) rfl 97 rfl (Try.zero63 _) ?_; intro w2 hw2 bw2 sw2; have hb2 := (bw2.block w.heap.size (by simp)).trans qb; have c20 : w2.cell? ⟨w.heap.size, 0, none⟩ = some (.slice sa nS sk) := (by simp [World.cell?, hb2]); have c21 : w2.cell? ⟨w.heap.size, 1, none⟩ = some (.map (some mb)) := (by simp [World.cell?, hb2]); have B2 := hide (q0.trans (bw2.mono (by simp))); rw [qs] at hw2 sw2; have z2 : w.heap.size + 1 < w2.heap.size := (by omega); have H2 := hide hb2; have M2 := hide (HS.out.2.below B2.out); clear sw2 hb2 bw2 qs qb q0)) | (at_lookup; refine wpList_sec_look _ rfl _ _ 60 rfl 2 97 Try.underlying2 Try.underlying60 (Try.zero63 _) mb nC M rfl M2.out (p : Int) rfl hwf ?_; intro T ok hT; obtain ⟨rfl, e9⟩ : ok = true ∧ M (p : Int) = some T := hT.resolve_right (fun h => by have := HMP.out; rw [h.2] at this; cases this); obtain rfl : F = T := Option.some.inj (HMP.out.symm.trans e9); clear e9 hT) | (with_reducible (show wpList _ _ _ ({ dst := some 5, op := .alloc _, type := _, pos := _, after := _, guard := _ } :: _) _ _); refine wpList_alloc_sec w2 rfl (some 5) rfl 97 rfl (Try.zero63 _) ?_; intro w3 hr3 b3 s3; have r3 := hw2.of_block (b3.block (w.heap.size + 1) z2); have z3 : w2.heap.size < w3.heap.size := (by omega); clear s3) | (with_reducible (show wpList _ _ _ ({ dst := _, op := .store _ (.tmp 5) (.tmp 12), type := _, pos := _, after := _, guard := _ } :: _) _ _); refine wpList_store_sec w3 rfl 97 (.tmp 5) (.tmp 12) rfl w2.heap.size F _ rfl rfl hr3 Try.size63 ?_; intro w4 hr4 hg4 hs4; have r4 := r3.of_block (hg4.block (w.heap.size + 1) (by omega) (by simp; omega)); have B4 := hide ((B2.out.trans (b3.mono (by omega))).grown hg4 (by omega) (fun x hx => by cases hx; omega)); have z4 : w2.heap.size < w4.heap.size := (by omega); have H4 := hide ((hg4.block w.heap.size (by omega) (by simp; omega)).trans ((b3.block w.heap.size (by omega)).trans H2.out)); clear hs4 hg4 hr3 b3 r3 c20 c21 hw2) | (with_reducible (show wpList _ _ _ ({ dst := _, op := .load _ (.tmp 5), type := _, pos := _, after := _, guard := _ } :: _) _ _); refine wpList_load_B rfl 97 (.tmp 5) rfl w2.heap.size 0 rfl _ _ 64 _ (bF F) _ hr4 (by omega) (fun j _ => by rw [Nat.zero_add]) Try.underlying97 rfl Try.size63 ?_) | (with_reducible (show wpList _ _ _ ({ dst := _, op := .store _ (.tmp 4) (.tmp 15), type := _, pos := _, after := _, guard := _ } :: _) _ _); refine wpList_store_sec w4 rfl 97 (.tmp 4) (.tmp 15) rfl (w.heap.size + 1) F _ rfl rfl r4 Try.size63 ?_; intro w5 hr5 hg5 hs5; have B5 := hide (B4.out.grown hg5 (by have := B4.out.size; omega) (fun x hx => by cases hx; omega)); clear hg5 hs5))
    exact bodyPost_ret (ret_B Try.results66 _ _ (w.heap.size + 1) 64 97 (bF F) _ rfl hr5 Try.underlying97 rfl Try.size63) rfl ⟨rfl, B5.out⟩
  | none =>
    have hFp : F = S p := by have := HF.out; rw [hMp] at this; exact this
    have HMP := hide hMp
    clear hMp
    obtain ⟨r, o, er, hrw, hcell, hsk⟩ : ∃ r o, sa = some ⟨r, o, none⟩ ∧ r < w.heap.size ∧ w.cell? ⟨r, o + p, none⟩ = some (.string F) ∧ (nS : Int) ≤ (sk : Int) := by
      obtain ⟨a2, c2, e2, hl, h0 | ⟨r, o, er, hr, hc⟩⟩ := HS.out.1
      · omega
      · cases e2
        exact ⟨r, o, er, hr, by rw [hFp]; exact hc p hp, by omega⟩
    subst er
    have CF := hide hcell
    clear hcell hFp
    go_enter Try.func66, Try.ntmps66
    go_wp2_with (first | (with_reducible (show wpList _ _ _ ({ dst := some 4, op := .alloc _, type := _, pos := _, after := _, guard := _ } :: _) _ _); (refine wpList_alloc_sec _ rfl (some 4) rfl 97 rfl (Try.zero63 _) ?_; intro w2 hw2 bw2 sw2; have hb2 := (bw2.block w.heap.size (by simp)).trans qb; have c20 : w2.cell? ⟨w.heap.size, 0, none⟩ = some (.slice (some ⟨r, o, none⟩) nS sk) := (by simp [World.cell?, hb2]); have c21 : w2.cell? ⟨w.heap.size, 1, none⟩ = some (.map (some mb)) := (by simp [World.cell?, hb2]); have B2 := hide (q0.trans (bw2.mono (by simp))); rw [qs] at hw2 sw2; have z2 : w.heap.size + 1 < w2.heap.size := (by omega); have H2 := hide hb2; have M2 := hide (HS.out.2.below B2.out); clear sw2 hb2 bw2 qs qb q0)) | (at_lookup; refine wpList_sec_look _ rfl _ _ 60 rfl 2 97 Try.underlying2 Try.underlying60 (Try.zero63 _) mb nC M rfl M2.out (p : Int) rfl hwf ?_; intro T ok hT; obtain ⟨rfl, e9⟩ : ok = false ∧ M (p : Int) = none := hT.resolve_left (fun h => by have := HMP.out; rw [h.2] at this; cases this); clear e9 hT) | (with_reducible (show wpList _ _ _ ({ dst := some 5, op := .alloc _, type := _, pos := _, after := _, guard := _ } :: _) _ _); refine wpList_alloc_sec w2 rfl (some 5) rfl 97 rfl (Try.zero63 _) ?_; intro w3 hr3 b3 s3; have r3 := hw2.of_block (b3.block (w.heap.size + 1) z2); have z3 : w2.heap.size < w3.heap.size := (by omega); clear s3) | (with_reducible (show wpList _ _ _ ({ dst := _, op := .store _ (.tmp 5) (.tmp 12), type := _, pos := _, after := _, guard := _ } :: _) _ _); refine wpList_store_sec w3 rfl 97 (.tmp 5) (.tmp 12) rfl w2.heap.size T _ rfl rfl hr3 Try.size63 ?_; intro w4 hr4 hg4 hs4; have r4 := r3.of_block (hg4.block (w.heap.size + 1) (by omega) (by simp; omega)); have B4 := hide ((B2.out.trans (b3.mono (by omega))).grown hg4 (by omega) (fun x hx => by cases hx; omega)); have z4 : w2.heap.size < w4.heap.size := (by omega); have H4 := hide ((hg4.block w.heap.size (by omega) (by simp; omega)).trans ((b3.block w.heap.size (by omega)).trans H2.out)); clear hs4 hg4 hr3 b3 r3 c20 c21 hw2; have cf : w4.cell? ⟨r, o + p, none⟩ = some (.string F) := (B4.out.cell (p := ⟨r, o + p, none⟩) hrw).trans CF.out; have c40 : w4.cell? ⟨w.heap.size, 0, none⟩ = some (.slice (some ⟨r, o, none⟩) nS sk) := (by have h := H4.out; simp [World.cell?, h])))
    refine (imp_sectorOf F w4 (by omega)).mono ?_
    rintro e w6 ⟨rfl, hb6⟩
    replace r4 := r4.of_block (hb6.block (w.heap.size + 1) (by omega))
    replace B4 := hide (B4.out.trans (hb6.mono B4.out.size))
    clear cf c40 hb6
    go_wp2_with ((with_reducible (show wpList _ _ _ ({ dst := _, op := .store _ (.tmp 4) (.tmp 21), type := _, pos := _, after := _, guard := _ } :: _) _ _); refine wpList_store_sec w6 rfl 97 (.tmp 4) (.tmp 21) rfl (w.heap.size + 1) F _ rfl rfl r4 Try.size63 ?_; intro w5 hr5 hg5 hs5; have B5 := hide (B4.out.grown hg5 (by have := B4.out.size; omega) (fun x hx => by cases hx; omega)); clear hg5 hs5))
    exact bodyPost_ret (ret_B Try.results66 _ _ (w.heap.size + 1) 64 97 (bF F) _ rfl hr5 Try.underlying97 rfl Try.size63) rfl ⟨rfl, B5.out⟩
end Go.Proofs.Ytipeelkmmjgehaa
/- A variable that holds a sector, made and stored into, as steps of a region that draws its order. No program is named here. -/
namespace Go.Proofs.Ytipeelkmmjgehaa
open Go Go.RowKit
section
variable {P : Program} {ops : Array Oper} {Q : Exit → Act → World → Prop}
theorem step_alloc_sec {o : Oper} {a : Act} {w : World} {K : Act → World → Prop} {E : Prop} (d : Option Nat) (hd : o.dst = d) (hg : o.guard = none) (ty : TypeId) (ho : o.op = .alloc ty) (hz : (zeroValue ty).run P w = .ok (secV ⟨#[]⟩) w)
    (h : ∀ w', w'.rowIs w.heap.size ty 64 (u8V (bF ⟨#[]⟩)) → Below w.heap.size w w' → w'.heap.size = w.heap.size + 1 → K (a.put d (.pointer (some ⟨w.heap.size, 0, none⟩))) w') : if Region.wanted o (yielded ops a.tmps) = true then Oper.wp P o a w K Q else E := by
  subst hd
  rw [if_pos (by simp [Region.wanted, hg])]
  have e : (execOp a.eval o).run P w = .ok (.value (.pointer (some ⟨w.heap.size, 0, none⟩))) (w.alloc (.cells (bL 64 (bF ⟨#[]⟩)).toArray ty)) := by
    simp [execOp, ho, Instr.alloc, hz, Result.andThen, secV, newVar, Value.cells, go_sem]
  unfold Oper.wp
  rw [e]
  exact h _ (row_alloc w ty 64 _) ((Below.refl _ _).alloc (Nat.le_refl _) _) (World.size_alloc _ _)
theorem step_store_sec {o : Oper} {a : Act} {w : World} {K : Act → World → Prop} {E : Prop} (hg : o.guard = none) (ty : TypeId) (x y : Operand) (ho : o.op = .store ty x y) (g : Nat) (T : ByteArray) (f : Nat → UInt8) (hx : a.eval x = .pointer (some ⟨g, 0, none⟩)) (hy : a.eval y = secV T) (hr : w.rowIs g ty 64 (u8V f)) (hi : (P.info? ty).map (·.size) = some 64)
    (h : ∀ w', w'.rowIs g ty 64 (u8V (bF T)) → w.grownBy w' (some g) → w'.heap.size = w.heap.size → K (a.put o.dst undef) w') : if Region.wanted o (yielded ops a.tmps) = true then Oper.wp P o a w K Q else E := by
  rw [if_pos (by simp [Region.wanted, hg])]
  have th := row_there (o := 0) (n := 64) hr (by omega)
  refine wp_store_mid ty x y ho g 0 (bL 64 (bF T)).toArray hx hy (by rw [bL_size]; exact th) (by rw [bL_size]; exact hi) (bL_all 64 _) (h _ (row_setCells0 hr) ⟨?_, ?_, ?_, ?_, fun i _ hi => setCells_far g _ 0 w i (fun e => hi (by rw [e]))⟩ (size_setCells _ _ _ _))
  · exact (below_setCells' (B := g) (Below.refl g w) (Nat.le_refl _)).os
  · exact (below_setCells' (B := g) (Below.refl g w) (Nat.le_refl _)).tape
  · exact (below_setCells' (B := g) (Below.refl g w) (Nat.le_refl _)).output
  · rw [size_setCells]; exact Nat.le_refl _
end
end Go.Proofs.Ytipeelkmmjgehaa
/- The walks over the program's read, patch (written by mkextk.py). -/
namespace Go.Proofs.Ytipeelkmmjgehaa
open Go Go.RowKit
/-- Of the blocks that were there wb and the value's own alone may have turned. -/
structure Fr1 (w w' : World) (wb : Nat) (v : Value) : Prop where
  os : w'.os = w.os
  tape : w'.tape = w.tape
  output : w'.output = w.output
  size : w.heap.size ≤ w'.heap.size
  block : ∀ j, j < w.heap.size → j ≠ wb → some j ≠ v.ownBlock → w'.heap[j]? = w.heap[j]?
theorem row_cong {w : World} {g t n : Nat} {f k : Nat → Value} (h : w.rowIs g t n f) (e : ∀ j, j < n → f j = k j) : w.rowIs g t n k := by
  obtain ⟨c, h1, h2, h3⟩ := h
  exact ⟨c, h1, h2, fun i hi => by rw [h3 i hi, e i hi]⟩
set_option maxRecDepth 100000 in
set_option maxHeartbeats 1600000 in
theorem imp_read (B wb g o m cap N s f nS sk nC mb : Nat) (sa : Option Addr) (wsv : Value) (S : Nat → ByteArray) (M : Int → Option ByteArray) (F : ByteArray) (fr : Nat → UInt8) (gt : TypeId) (w : World) (hn : nS ≤ 620) (hs : s < nS) (hF : F = (M (s : Int)).getD (S s)) (hFs : F.size = 64) (hm0 : 0 < m) (hf : f + m ≤ 64) (ho : o + m ≤ N) (hBw : B ≤ w.heap.size) (hv : vwI w B (.agg #[.slice sa nS sk, .map (some mb)]) nS S nC M) (hwb : w.heap[wb]? = some (.cells #[.slice sa nS sk, .map (some mb), wsv] 65)) (hr : w.rowIs g gt N (u8V fr)) :
    Calls Try.prog 47 #[.pointer (some ⟨wb, 0, none⟩), .agg #[.int .i64 (s : Int), .int .i64 (f : Int), .slice (some ⟨g, o, none⟩) m cap]] w fun e w' => e = .returned (.tuple #[]) ∧ w'.rowIs g gt N (u8V fun j => if o ≤ j ∧ j < o + m then bF F (f + (j - o)) else fr j) ∧ w.grownBy w' (some g) := by
  have hwbl : wb < w.heap.size := (Array.getElem?_eq_some_iff.1 hwb).1
  have q0 : Below w.heap.size w (w.alloc (.cells #[.int .i64 (s : Int), .int .i64 (f : Int), .slice (some ⟨g, o, none⟩) m cap] 93)) := (Below.refl _ w).alloc (Nat.le_refl _) _
  have qs : (w.alloc (.cells #[.int .i64 (s : Int), .int .i64 (f : Int), .slice (some ⟨g, o, none⟩) m cap] 93)).heap.size = w.heap.size + 1 := by simp
  have qb : (w.alloc (.cells #[.int .i64 (s : Int), .int .i64 (f : Int), .slice (some ⟨g, o, none⟩) m cap] 93)).heap[w.heap.size]? = some (.cells #[.int .i64 (s : Int), .int .i64 (f : Int), .slice (some ⟨g, o, none⟩) m cap] 93) := heap_alloc_new _ _
  have HV := hide (And.intro hv (And.intro hF hFs))
  have HWB := hide hwb
  clear hv hF hFs hwb
  go_enter Try.func47, Try.ntmps47
  go_wp2_with fail
  generalize w.alloc (.cells #[.int .i64 (s : Int), .int .i64 (f : Int), .slice (some ⟨g, o, none⟩) m cap] 93) = W1 at *
  have SA0 : ∀ u : World, Below W1.heap.size W1 u → u.heap[wb]? = some (.cells #[.slice sa nS sk, .map (some mb), wsv] 65) ∧ u.heap[w.heap.size]? = some (.cells #[.int .i64 (s : Int), .int .i64 (f : Int), .slice (some ⟨g, o, none⟩) m cap] 93) := fun u hu => ⟨(hu.block wb (by omega)).trans ((q0.block wb hwbl).trans HWB.out), (hu.block w.heap.size (by omega)).trans qb⟩
  have SA : ∀ u : World, Below W1.heap.size W1 u → (fun u => (u.cell? ⟨wb, 0, none⟩ = some (.slice sa nS sk) ∧ u.cell? ⟨wb, 1, none⟩ = some (.map (some mb)) ∧ u.cell? ⟨wb, 2, none⟩ = some (wsv)) ∧ u.cell? ⟨w.heap.size, 0, none⟩ = some (.int .i64 (s : Int)) ∧ u.cell? ⟨w.heap.size, 1, none⟩ = some (.int .i64 (f : Int)) ∧ u.cell? ⟨w.heap.size, 2, none⟩ = some (.slice (some ⟨g, o, none⟩) m cap)) u := fun u hu => by
    obtain ⟨h1, h2⟩ := SA0 u hu
    exact ⟨⟨by simp [World.cell?, h1], by simp [World.cell?, h1], by simp [World.cell?, h1]⟩, by simp [World.cell?, h2], by simp [World.cell?, h2], by simp [World.cell?, h2]⟩
  have SAh := hide (And.intro SA0 SA)
  have Q0 := hide q0
  have HV1 := hide ((HV.out.1.below (q0.mono hBw)).wide (show B ≤ W1.heap.size by omega))
  clear SA SA0 q0 qb HWB
  go_cut [4] from 5 to 11 (fun x wx => ∃ b, x = .pointer (some ⟨b, 0, none⟩) ∧ w.heap.size < b ∧ b < wx.heap.size ∧ Hid (wx.rowIs b 97 64 (u8V (bF F))) ∧ Hid (Below W1.heap.size W1 wx))
  case first =>
    refine wp_region_held_drew (S := fun u => (u.cell? ⟨wb, 0, none⟩ = some (.slice sa nS sk) ∧ u.cell? ⟨wb, 1, none⟩ = some (.map (some mb)) ∧ u.cell? ⟨wb, 2, none⟩ = some (wsv)) ∧ u.cell? ⟨w.heap.size, 0, none⟩ = some (.int .i64 (s : Int)) ∧ u.cell? ⟨w.heap.size, 1, none⟩ = some (.int .i64 (f : Int)) ∧ u.cell? ⟨w.heap.size, 2, none⟩ = some (.slice (some ⟨g, o, none⟩) m cap)) (by kernel_rfl) (SAh.out.2 _ (Below.refl _ _).drew) (fun hHeld => ?_)
    refine takeD (i := 0) (v := .pointer (some ⟨wb, 0, none⟩)) (some 5) rfl rfl (by kernel_rfl) (by kernel_rfl) (by kernel_rfl) (fun _ _ _ h => h) (Or.inl ⟨by rfl, fun w hSw => by go_simp⟩) hHeld ?_
    simp only [Act.put, List.setIfInBounds_toArray, List.set_cons_zero, List.set_cons_succ]
    refine takeD (i := 1) (v := .pointer (some ⟨wb, 0, none⟩)) (some 6) rfl rfl (by kernel_rfl) (by kernel_rfl) (by kernel_rfl) (fun _ _ _ h => h) (Or.inl ⟨by rfl, fun w hSw => by go_simp⟩) hHeld ?_
    simp only [Act.put, List.setIfInBounds_toArray, List.set_cons_zero, List.set_cons_succ]
    refine takeD (i := 2) (v := .pointer (some ⟨wb, 0, none⟩)) (some 7) rfl rfl (by kernel_rfl) (by kernel_rfl) (by kernel_rfl) (fun _ _ _ h => h) (Or.inl ⟨by rfl, fun w hSw => by go_simp⟩) hHeld ?_
    simp only [Act.put, List.setIfInBounds_toArray, List.set_cons_zero, List.set_cons_succ]
    refine takeD (i := 3) (v := .agg #[.slice sa nS sk, .map (some mb)]) (some 8) rfl rfl (by kernel_rfl) (by kernel_rfl) (by kernel_rfl) (fun _ _ _ h => h) (Or.inl ⟨by rfl, fun w hSw => by obtain ⟨⟨s0, s1, s2⟩, s3, s4, s5⟩ := hSw; go_simp⟩) hHeld ?_
    simp only [Act.put, List.setIfInBounds_toArray, List.set_cons_zero, List.set_cons_succ]
    refine takeD (i := 4) (v := .pointer (some ⟨w.heap.size, 0, none⟩)) (some 9) rfl rfl (by kernel_rfl) (by kernel_rfl) (by kernel_rfl) (fun _ _ _ h => h) (Or.inl ⟨by rfl, fun w hSw => by go_simp⟩) hHeld ?_
    simp only [Act.put, List.setIfInBounds_toArray, List.set_cons_zero, List.set_cons_succ]
    refine takeD (i := 5) (v := .int .i64 (s : Int)) (some 10) rfl rfl (by kernel_rfl) (by kernel_rfl) (by kernel_rfl) (fun _ _ _ h => h) (Or.inl ⟨by rfl, fun w hSw => by obtain ⟨⟨s0, s1, s2⟩, s3, s4, s5⟩ := hSw; go_simp⟩) hHeld ?_
    simp only [Act.put, List.setIfInBounds_toArray, List.set_cons_zero, List.set_cons_succ]
    refine wpAnyH_ready (rs := [6, 7]) (by kernel_rfl) (by simp) ?_
    refine AllReadyH.cons rfl (fun KK hK => ?_) (AllReadyH.cons rfl (fun KK hK => ?_) AllReadyH.nil)
    · go_simp
      refine (imp_has _ nS S nC M s F W1.drew hn hs HV.out.2.1 HV.out.2.2 (HV1.out.below (Below.refl _ _).drew)).mono ?_
      rintro e w2 ⟨rfl, hb⟩
      have b2 : Below W1.heap.size W1 w2 := (Below.refl _ _).drew.trans hb
      clear hb
      go_wp2_with fail
      refine hK.out _ _ (SAh.out.2 _ b2) (fun hHeld => ?_)
      clear hK KK
      refine wpAnyH_ready (rs := [7]) (by kernel_rfl) (by simp) ?_
      refine AllReadyH.cons rfl (fun KK hK => ?_) AllReadyH.nil
      refine step_alloc_sec (some 4) rfl rfl 97 rfl (Try.zero63 _) ?_
      intro w3 r3 b3 z3
      have b3' := b2.trans (b3.mono b2.size)
      simp only [Act.put, List.setIfInBounds_toArray, List.set_cons_zero, List.set_cons_succ]
      refine hK.out _ _ (SAh.out.2 _ b3') (fun hHeld => ?_)
      clear hK KK
      refine wpAnyH_ready (rs := [8]) (by kernel_rfl) (by simp) ?_
      refine AllReadyH.cons rfl (fun KK hK => ?_) AllReadyH.nil
      refine step_store_sec rfl 97 (.tmp 4) (.tmp 11) rfl w2.heap.size F _ rfl rfl r3 Try.size63 ?_
      intro w4 r4 g4 z4
      have b4 := b3'.grown g4 b3'.size (fun x hx => by cases hx; exact b2.size)
      simp only [Act.put]
      refine hK.out _ _ (SAh.out.2 _ b4) (fun hHeld => ?_)
      clear hK KK
      refine wpAnyH_done (by kernel_rfl) ?_ _
      go_wp2_with fail
      go_meet
      case rel => exact ⟨_, rfl, by have := b2.size; omega, by omega, r4, b4⟩
    · refine step_alloc_sec (some 4) rfl rfl 97 rfl (Try.zero63 _) ?_
      intro w3 r3 b30 z3
      have hz3 : w3.heap.size = W1.heap.size + 1 := z3
      have r3' : w3.rowIs W1.heap.size 97 64 (u8V (bF ⟨#[]⟩)) := r3
      have b3 : Below W1.heap.size W1 w3 := (Below.refl _ _).drew.trans b30
      clear b30 z3 r3
      simp only [Act.put, List.setIfInBounds_toArray, List.set_cons_zero, List.set_cons_succ]
      refine hK.out _ _ (SAh.out.2 _ b3) (fun hHeld => ?_)
      clear hK KK
      refine wpAnyH_ready (rs := [6]) (by kernel_rfl) (by simp) ?_
      refine AllReadyH.cons rfl (fun KK hK => ?_) AllReadyH.nil
      go_simp
      refine (imp_has _ nS S nC M s F w3 hn hs HV.out.2.1 HV.out.2.2 ((HV1.out.below b3).wide b3.size)).mono ?_
      rintro e w2 ⟨rfl, hb⟩
      have b2 := b3.trans (hb.mono b3.size)
      have r2 := r3'.of_block (hb.block W1.heap.size (by omega))
      have z2 := hb.size
      clear hb
      go_wp2_with fail
      refine hK.out _ _ (SAh.out.2 _ b2) (fun hHeld => ?_)
      clear hK KK
      refine wpAnyH_ready (rs := [8]) (by kernel_rfl) (by simp) ?_
      refine AllReadyH.cons rfl (fun KK hK => ?_) AllReadyH.nil
      refine step_store_sec rfl 97 (.tmp 4) (.tmp 11) rfl (w.heap.size + 1) F _ rfl rfl (by rw [← qs]; exact r2) Try.size63 ?_
      intro w4 r4 g4 z4
      have b4 := b2.grown g4 (by omega) (fun x hx => by cases hx; omega)
      simp only [Act.put]
      refine hK.out _ _ (SAh.out.2 _ b4) (fun hHeld => ?_)
      clear hK KK
      refine wpAnyH_done (by kernel_rfl) ?_ _
      go_wp2_with fail
      go_meet
      case rel => exact ⟨_, rfl, by omega, by omega, r4, b4⟩
  case rest =>
    obtain ⟨b, rfl, hb1, hb2, HR, HB⟩ := hcut
    have hgl : g < w.heap.size := hr.lt
    have hf64 : (f : Int) ≤ 64 := by omega
    have hf64n : ¬ 64 = f := by omega
    have hbw := HB.out.size
    have hr1 : wc.rowIs g gt N (u8V fr) := hr.of_block ((HB.out.block g (by omega)).trans (Q0.out.block g hgl))
    go_wp2_with fail
    have SB0 : (fun u => u.cell? ⟨w.heap.size, 0, none⟩ = some (.int .i64 (s : Int)) ∧ u.cell? ⟨w.heap.size, 1, none⟩ = some (.int .i64 (f : Int)) ∧ u.cell? ⟨w.heap.size, 2, none⟩ = some (.slice (some ⟨g, o, none⟩) m cap)) wc.drew := by
      obtain ⟨_, h⟩ := SAh.out.2 wc HB.out
      exact h
    refine wp_region_held_drew (S := fun u => u.cell? ⟨w.heap.size, 0, none⟩ = some (.int .i64 (s : Int)) ∧ u.cell? ⟨w.heap.size, 1, none⟩ = some (.int .i64 (f : Int)) ∧ u.cell? ⟨w.heap.size, 2, none⟩ = some (.slice (some ⟨g, o, none⟩) m cap)) (by kernel_rfl) SB0 (fun hHeld => ?_)
    refine takeD (i := 0) (v := .pointer (some ⟨w.heap.size, 2, none⟩)) (some 12) rfl rfl (by kernel_rfl) (by kernel_rfl) (by kernel_rfl) (fun _ _ _ h => h) (Or.inl ⟨by rfl, fun w hSw => by go_simp⟩) hHeld ?_
    simp only [Act.put, List.setIfInBounds_toArray, List.set_cons_zero, List.set_cons_succ]
    refine takeD (i := 1) (v := .slice (some ⟨g, o, none⟩) m cap) (some 13) rfl rfl (by kernel_rfl) (by kernel_rfl) (by kernel_rfl) (fun _ _ _ h => h) (Or.inl ⟨by rfl, fun w hSw => by obtain ⟨s3, s4, s5⟩ := hSw; go_simp⟩) hHeld ?_
    simp only [Act.put, List.setIfInBounds_toArray, List.set_cons_zero, List.set_cons_succ]
    refine takeD (i := 2) (v := .pointer (some ⟨b, 0, none⟩)) (some 14) rfl rfl (by kernel_rfl) (by kernel_rfl) (by kernel_rfl) (fun _ _ _ h => h) (Or.inl ⟨by rfl, fun w hSw => by go_simp⟩) hHeld ?_
    simp only [Act.put, List.setIfInBounds_toArray, List.set_cons_zero, List.set_cons_succ]
    refine takeD (i := 3) (v := .pointer (some ⟨w.heap.size, 1, none⟩)) (some 15) rfl rfl (by kernel_rfl) (by kernel_rfl) (by kernel_rfl) (fun _ _ _ h => h) (Or.inl ⟨by rfl, fun w hSw => by go_simp⟩) hHeld ?_
    simp only [Act.put, List.setIfInBounds_toArray, List.set_cons_zero, List.set_cons_succ]
    refine takeD (i := 4) (v := .int .i64 (f : Int)) (some 16) rfl rfl (by kernel_rfl) (by kernel_rfl) (by kernel_rfl) (fun _ _ _ h => h) (Or.inl ⟨by rfl, fun w hSw => by obtain ⟨s3, s4, s5⟩ := hSw; go_simp⟩) hHeld ?_
    simp only [Act.put, List.setIfInBounds_toArray, List.set_cons_zero, List.set_cons_succ]
    refine takeD (i := 5) (v := .slice (some ⟨b, f, none⟩) (64 - f) (64 - f)) (some 17) rfl rfl (by kernel_rfl) (by kernel_rfl) (by kernel_rfl) (fun _ _ _ h => h) (Or.inl ⟨by rfl, fun w hSw => by go_simp⟩) hHeld ?_
    simp only [Act.put, List.setIfInBounds_toArray, List.set_cons_zero, List.set_cons_succ]
    refine wpAnyH_ready (rs := [6]) (by kernel_rfl) (by simp) ?_
    refine AllReadyH.cons rfl (fun KK hK => ?_) AllReadyH.nil
    refine step_copy_BD (some 18) rfl rfl (.tmp 13) (.tmp 17) 22 22 rfl 5 Try.underlying22 (by kernel_rfl) g o m cap b f (64 - f) (64 - f) rfl rfl m (fun j => bF F (f + j)) (by simp only [Nat.min_def]; split <;> omega) (row_range (w := wc.drew) HR.out (by omega) (fun j _ => rfl)) (row_there (w := wc.drew) hr1 ho) ?_
    have hgb : wc.grownBy (wc.drew.setCells g o (bL m fun j => bF F (f + j))) (some g) := by
      have h := grownBy_setCells (bL m fun j => bF F (f + j)) o wc.drew g
      exact ⟨h.os, h.tape, h.output, h.size, h.block⟩
    have hgw : w.grownBy wc (some g) := ⟨HB.out.os.trans Q0.out.os, HB.out.tape.trans Q0.out.tape, HB.out.output.trans Q0.out.output, by omega, fun k hk _ => (HB.out.block k (by omega)).trans (Q0.out.block k hk)⟩
    have R1 := hide (grownBy_trans hgw hgb)
    have R2 := hide (row_setCells (k := fun j => bF F (f + j)) (w := wc.drew) hr1 ho)
    have e0 : (wc.drew.setCells g o (bL m fun j => bF F (f + j))).heap[w.heap.size]? = wc.heap[w.heap.size]? := setCells_far g _ o wc.drew w.heap.size (by omega)
    have e1 := e0.trans (SAh.out.1 wc HB.out).2
    simp only [Act.put, List.setIfInBounds_toArray, List.set_cons_zero, List.set_cons_succ]
    refine hK.out _ _ ⟨by simp [World.cell?, e1], by simp [World.cell?, e1], by simp [World.cell?, e1]⟩ (fun hHeld => ?_)
    clear hK KK
    refine wpAnyH_done (by kernel_rfl) ?_ _
    go_wp2_with fail
    exact bodyPost_end (v := .tuple #[]) (by simp [results, Try.results47]) rfl ⟨rfl, R2.out, R1.out⟩
set_option maxRecDepth 100000 in
set_option maxHeartbeats 3200000 in
theorem imp_patch (base k B wb g o m cap s f nS sk nC mb : Nat) (sa : Option Addr) (wa : Option Addr) (wcp : Nat) (S : Nat → ByteArray) (M : Int → Option ByteArray) (F : ByteArray) (w : World) (hn : nS ≤ 620) (hs : s < nS) (hF : F = (M (s : Int)).getD (S s)) (hFs : F.size = 64) (hm0 : 0 < m) (hf : f + m ≤ 64) (hBw : B ≤ w.heap.size) (hv : vwI w B (.agg #[.slice sa nS sk, .map (some mb)]) nS S nC M) (hwb : w.heap[wb]? = some (.cells #[.slice sa nS sk, .map (some mb), .slice wa k wcp] 65)) (kr : Nat → UInt8) (P : ByteArray) (hg : g < w.heap.size) (hsrc : w.rangeAt g o (bL m kr)) (hP : P.size = 64) (hPb : ∀ j, j < 64 → bF P j = if f ≤ j ∧ j < f + m then kr (j - f) else bF F j) (ws : List Value) (hk : k ≤ 1000) (hown : w.ownsRow base 74 2 (.slice wa k wcp) k ws) (hwb2 : wb < base) (hbase : base ≤ w.heap.size) :
    Calls Try.prog 39 #[.pointer (some ⟨wb, 0, none⟩), .agg #[.int .i64 (s : Int), .int .i64 (f : Int), .slice (some ⟨g, o, none⟩) m cap]] w fun e w' => e = .returned (.tuple #[]) ∧ ∃ a9 c9, w'.ownsRow base 74 2 (.slice a9 (k + 1) c9) (k + 1) (ws ++ [.int .i64 (s : Int), .string P]) ∧ w'.heap[wb]? = some (.cells #[.slice sa nS sk, .map (some mb), .slice a9 (k + 1) c9] 65) ∧ Fr1 w w' wb (.slice wa k wcp) := by
  obtain ⟨iw, hiw, hzw0, hzw1, hzw2⟩ := info_parts Try.infoWr
  have QB := hide (heap_alloc_new w (.cells #[.int .i64 (s : Int), .int .i64 (f : Int), .slice (some ⟨g, o, none⟩) m cap] 93))
  have HWB2 := hide hwb
  have hwbl : wb < w.heap.size := (Array.getElem?_eq_some_iff.1 hwb).1
  have q0 : Below w.heap.size w (w.alloc (.cells #[.int .i64 (s : Int), .int .i64 (f : Int), .slice (some ⟨g, o, none⟩) m cap] 93)) := (Below.refl _ w).alloc (Nat.le_refl _) _
  have qs : (w.alloc (.cells #[.int .i64 (s : Int), .int .i64 (f : Int), .slice (some ⟨g, o, none⟩) m cap] 93)).heap.size = w.heap.size + 1 := by simp
  have qb : (w.alloc (.cells #[.int .i64 (s : Int), .int .i64 (f : Int), .slice (some ⟨g, o, none⟩) m cap] 93)).heap[w.heap.size]? = some (.cells #[.int .i64 (s : Int), .int .i64 (f : Int), .slice (some ⟨g, o, none⟩) m cap] 93) := heap_alloc_new _ _
  have HV := hide (And.intro hv (And.intro hF hFs))
  have HWB := hide hwb
  clear hv hF hFs hwb
  go_enter Try.func39, Try.ntmps39
  go_wp2_with fail
  generalize w.alloc (.cells #[.int .i64 (s : Int), .int .i64 (f : Int), .slice (some ⟨g, o, none⟩) m cap] 93) = W1 at *
  have SA0 : ∀ u : World, Below W1.heap.size W1 u → u.heap[wb]? = some (.cells #[.slice sa nS sk, .map (some mb), .slice wa k wcp] 65) ∧ u.heap[w.heap.size]? = some (.cells #[.int .i64 (s : Int), .int .i64 (f : Int), .slice (some ⟨g, o, none⟩) m cap] 93) := fun u hu => ⟨(hu.block wb (by omega)).trans ((q0.block wb hwbl).trans HWB.out), (hu.block w.heap.size (by omega)).trans qb⟩
  have SA : ∀ u : World, Below W1.heap.size W1 u → (fun u => (u.cell? ⟨wb, 0, none⟩ = some (.slice sa nS sk) ∧ u.cell? ⟨wb, 1, none⟩ = some (.map (some mb)) ∧ u.cell? ⟨wb, 2, none⟩ = some (.slice wa k wcp)) ∧ u.cell? ⟨w.heap.size, 0, none⟩ = some (.int .i64 (s : Int)) ∧ u.cell? ⟨w.heap.size, 1, none⟩ = some (.int .i64 (f : Int)) ∧ u.cell? ⟨w.heap.size, 2, none⟩ = some (.slice (some ⟨g, o, none⟩) m cap)) u := fun u hu => by
    obtain ⟨h1, h2⟩ := SA0 u hu
    exact ⟨⟨by simp [World.cell?, h1], by simp [World.cell?, h1], by simp [World.cell?, h1]⟩, by simp [World.cell?, h2], by simp [World.cell?, h2], by simp [World.cell?, h2]⟩
  have SAh := hide (And.intro SA0 SA)
  have Q0 := hide q0
  have HV1 := hide ((HV.out.1.below (q0.mono hBw)).wide (show B ≤ W1.heap.size by omega))
  clear SA SA0 q0 qb HWB
  go_cut [4] from 5 to 11 (fun x wx => ∃ b, x = .pointer (some ⟨b, 0, none⟩) ∧ w.heap.size < b ∧ b < wx.heap.size ∧ Hid (wx.rowIs b 97 64 (u8V (bF F))) ∧ Hid (Below W1.heap.size W1 wx))
  case first =>
    refine wp_region_held_drew (S := fun u => (u.cell? ⟨wb, 0, none⟩ = some (.slice sa nS sk) ∧ u.cell? ⟨wb, 1, none⟩ = some (.map (some mb)) ∧ u.cell? ⟨wb, 2, none⟩ = some (.slice wa k wcp)) ∧ u.cell? ⟨w.heap.size, 0, none⟩ = some (.int .i64 (s : Int)) ∧ u.cell? ⟨w.heap.size, 1, none⟩ = some (.int .i64 (f : Int)) ∧ u.cell? ⟨w.heap.size, 2, none⟩ = some (.slice (some ⟨g, o, none⟩) m cap)) (by kernel_rfl) (SAh.out.2 _ (Below.refl _ _).drew) (fun hHeld => ?_)
    refine takeD (i := 0) (v := .pointer (some ⟨wb, 0, none⟩)) (some 5) rfl rfl (by kernel_rfl) (by kernel_rfl) (by kernel_rfl) (fun _ _ _ h => h) (Or.inl ⟨by rfl, fun w hSw => by go_simp⟩) hHeld ?_
    simp only [Act.put, List.setIfInBounds_toArray, List.set_cons_zero, List.set_cons_succ]
    refine takeD (i := 1) (v := .pointer (some ⟨wb, 0, none⟩)) (some 6) rfl rfl (by kernel_rfl) (by kernel_rfl) (by kernel_rfl) (fun _ _ _ h => h) (Or.inl ⟨by rfl, fun w hSw => by go_simp⟩) hHeld ?_
    simp only [Act.put, List.setIfInBounds_toArray, List.set_cons_zero, List.set_cons_succ]
    refine takeD (i := 2) (v := .pointer (some ⟨wb, 0, none⟩)) (some 7) rfl rfl (by kernel_rfl) (by kernel_rfl) (by kernel_rfl) (fun _ _ _ h => h) (Or.inl ⟨by rfl, fun w hSw => by go_simp⟩) hHeld ?_
    simp only [Act.put, List.setIfInBounds_toArray, List.set_cons_zero, List.set_cons_succ]
    refine takeD (i := 3) (v := .agg #[.slice sa nS sk, .map (some mb)]) (some 8) rfl rfl (by kernel_rfl) (by kernel_rfl) (by kernel_rfl) (fun _ _ _ h => h) (Or.inl ⟨by rfl, fun w hSw => by obtain ⟨⟨s0, s1, s2⟩, s3, s4, s5⟩ := hSw; go_simp⟩) hHeld ?_
    simp only [Act.put, List.setIfInBounds_toArray, List.set_cons_zero, List.set_cons_succ]
    refine takeD (i := 4) (v := .pointer (some ⟨w.heap.size, 0, none⟩)) (some 9) rfl rfl (by kernel_rfl) (by kernel_rfl) (by kernel_rfl) (fun _ _ _ h => h) (Or.inl ⟨by rfl, fun w hSw => by go_simp⟩) hHeld ?_
    simp only [Act.put, List.setIfInBounds_toArray, List.set_cons_zero, List.set_cons_succ]
    refine takeD (i := 5) (v := .int .i64 (s : Int)) (some 10) rfl rfl (by kernel_rfl) (by kernel_rfl) (by kernel_rfl) (fun _ _ _ h => h) (Or.inl ⟨by rfl, fun w hSw => by obtain ⟨⟨s0, s1, s2⟩, s3, s4, s5⟩ := hSw; go_simp⟩) hHeld ?_
    simp only [Act.put, List.setIfInBounds_toArray, List.set_cons_zero, List.set_cons_succ]
    refine wpAnyH_ready (rs := [6, 7]) (by kernel_rfl) (by simp) ?_
    refine AllReadyH.cons rfl (fun KK hK => ?_) (AllReadyH.cons rfl (fun KK hK => ?_) AllReadyH.nil)
    · go_simp
      refine (imp_has _ nS S nC M s F W1.drew hn hs HV.out.2.1 HV.out.2.2 (HV1.out.below (Below.refl _ _).drew)).mono ?_
      rintro e w2 ⟨rfl, hb⟩
      have b2 : Below W1.heap.size W1 w2 := (Below.refl _ _).drew.trans hb
      clear hb
      go_wp2_with fail
      refine hK.out _ _ (SAh.out.2 _ b2) (fun hHeld => ?_)
      clear hK KK
      refine wpAnyH_ready (rs := [7]) (by kernel_rfl) (by simp) ?_
      refine AllReadyH.cons rfl (fun KK hK => ?_) AllReadyH.nil
      refine step_alloc_sec (some 4) rfl rfl 97 rfl (Try.zero63 _) ?_
      intro w3 r3 b3 z3
      have b3' := b2.trans (b3.mono b2.size)
      simp only [Act.put, List.setIfInBounds_toArray, List.set_cons_zero, List.set_cons_succ]
      refine hK.out _ _ (SAh.out.2 _ b3') (fun hHeld => ?_)
      clear hK KK
      refine wpAnyH_ready (rs := [8]) (by kernel_rfl) (by simp) ?_
      refine AllReadyH.cons rfl (fun KK hK => ?_) AllReadyH.nil
      refine step_store_sec rfl 97 (.tmp 4) (.tmp 11) rfl w2.heap.size F _ rfl rfl r3 Try.size63 ?_
      intro w4 r4 g4 z4
      have b4 := b3'.grown g4 b3'.size (fun x hx => by cases hx; exact b2.size)
      simp only [Act.put]
      refine hK.out _ _ (SAh.out.2 _ b4) (fun hHeld => ?_)
      clear hK KK
      refine wpAnyH_done (by kernel_rfl) ?_ _
      go_wp2_with fail
      go_meet
      case rel => exact ⟨_, rfl, by have := b2.size; omega, by omega, r4, b4⟩
    · refine step_alloc_sec (some 4) rfl rfl 97 rfl (Try.zero63 _) ?_
      intro w3 r3 b30 z3
      have hz3 : w3.heap.size = W1.heap.size + 1 := z3
      have r3' : w3.rowIs W1.heap.size 97 64 (u8V (bF ⟨#[]⟩)) := r3
      have b3 : Below W1.heap.size W1 w3 := (Below.refl _ _).drew.trans b30
      clear b30 z3 r3
      simp only [Act.put, List.setIfInBounds_toArray, List.set_cons_zero, List.set_cons_succ]
      refine hK.out _ _ (SAh.out.2 _ b3) (fun hHeld => ?_)
      clear hK KK
      refine wpAnyH_ready (rs := [6]) (by kernel_rfl) (by simp) ?_
      refine AllReadyH.cons rfl (fun KK hK => ?_) AllReadyH.nil
      go_simp
      refine (imp_has _ nS S nC M s F w3 hn hs HV.out.2.1 HV.out.2.2 ((HV1.out.below b3).wide b3.size)).mono ?_
      rintro e w2 ⟨rfl, hb⟩
      have b2 := b3.trans (hb.mono b3.size)
      have r2 := r3'.of_block (hb.block W1.heap.size (by omega))
      have z2 := hb.size
      clear hb
      go_wp2_with fail
      refine hK.out _ _ (SAh.out.2 _ b2) (fun hHeld => ?_)
      clear hK KK
      refine wpAnyH_ready (rs := [8]) (by kernel_rfl) (by simp) ?_
      refine AllReadyH.cons rfl (fun KK hK => ?_) AllReadyH.nil
      refine step_store_sec rfl 97 (.tmp 4) (.tmp 11) rfl (w.heap.size + 1) F _ rfl rfl (by rw [← qs]; exact r2) Try.size63 ?_
      intro w4 r4 g4 z4
      have b4 := b2.grown g4 (by omega) (fun x hx => by cases hx; omega)
      simp only [Act.put]
      refine hK.out _ _ (SAh.out.2 _ b4) (fun hHeld => ?_)
      clear hK KK
      refine wpAnyH_done (by kernel_rfl) ?_ _
      go_wp2_with fail
      go_meet
      case rel => exact ⟨_, rfl, by omega, by omega, r4, b4⟩
  case rest =>
    obtain ⟨b, rfl, hb1, hb2, HR, HB⟩ := hcut
    have hf64 : (f : Int) ≤ 64 := by omega
    have hf64n : ¬ 64 = f := by omega
    have hbw := HB.out.size
    have hsr1 : wc.drew.rangeAt g o (bL m kr) := fun j x hj => by
      have h1 := hsrc j x hj
      have h2 := (HB.out.cell (p := ⟨g, o + j, none⟩) (by show g < _; omega)).trans (Q0.out.cell (p := ⟨g, o + j, none⟩) hg)
      exact h2.trans h1
    go_wp2_with fail
    have SB0 : (fun u => u.cell? ⟨w.heap.size, 0, none⟩ = some (.int .i64 (s : Int)) ∧ u.cell? ⟨w.heap.size, 1, none⟩ = some (.int .i64 (f : Int)) ∧ u.cell? ⟨w.heap.size, 2, none⟩ = some (.slice (some ⟨g, o, none⟩) m cap)) wc.drew := by
      obtain ⟨_, h⟩ := SAh.out.2 wc HB.out
      exact h
    refine wp_region_held_drew (S := fun u => u.cell? ⟨w.heap.size, 0, none⟩ = some (.int .i64 (s : Int)) ∧ u.cell? ⟨w.heap.size, 1, none⟩ = some (.int .i64 (f : Int)) ∧ u.cell? ⟨w.heap.size, 2, none⟩ = some (.slice (some ⟨g, o, none⟩) m cap)) (by kernel_rfl) SB0 (fun hHeld => ?_)
    refine takeD (i := 0) (v := .pointer (some ⟨b, 0, none⟩)) (some 12) rfl rfl (by kernel_rfl) (by kernel_rfl) (by kernel_rfl) (fun _ _ _ h => h) (Or.inl ⟨by rfl, fun w hSw => by go_simp⟩) hHeld ?_
    simp only [Act.put, List.setIfInBounds_toArray, List.set_cons_zero, List.set_cons_succ]
    refine takeD (i := 1) (v := .pointer (some ⟨w.heap.size, 1, none⟩)) (some 13) rfl rfl (by kernel_rfl) (by kernel_rfl) (by kernel_rfl) (fun _ _ _ h => h) (Or.inl ⟨by rfl, fun w hSw => by go_simp⟩) hHeld ?_
    simp only [Act.put, List.setIfInBounds_toArray, List.set_cons_zero, List.set_cons_succ]
    refine takeD (i := 2) (v := .int .i64 (f : Int)) (some 14) rfl rfl (by kernel_rfl) (by kernel_rfl) (by kernel_rfl) (fun _ _ _ h => h) (Or.inl ⟨by rfl, fun w hSw => by obtain ⟨s3, s4, s5⟩ := hSw; go_simp⟩) hHeld ?_
    simp only [Act.put, List.setIfInBounds_toArray, List.set_cons_zero, List.set_cons_succ]
    refine takeD (i := 3) (v := .slice (some ⟨b, f, none⟩) (64 - f) (64 - f)) (some 15) rfl rfl (by kernel_rfl) (by kernel_rfl) (by kernel_rfl) (fun _ _ _ h => h) (Or.inl ⟨by rfl, fun w hSw => by go_simp⟩) hHeld ?_
    simp only [Act.put, List.setIfInBounds_toArray, List.set_cons_zero, List.set_cons_succ]
    refine takeD (i := 4) (v := .pointer (some ⟨w.heap.size, 2, none⟩)) (some 16) rfl rfl (by kernel_rfl) (by kernel_rfl) (by kernel_rfl) (fun _ _ _ h => h) (Or.inl ⟨by rfl, fun w hSw => by go_simp⟩) hHeld ?_
    simp only [Act.put, List.setIfInBounds_toArray, List.set_cons_zero, List.set_cons_succ]
    refine takeD (i := 5) (v := .slice (some ⟨g, o, none⟩) m cap) (some 17) rfl rfl (by kernel_rfl) (by kernel_rfl) (by kernel_rfl) (fun _ _ _ h => h) (Or.inl ⟨by rfl, fun w hSw => by obtain ⟨s3, s4, s5⟩ := hSw; go_simp⟩) hHeld ?_
    simp only [Act.put, List.setIfInBounds_toArray, List.set_cons_zero, List.set_cons_succ]
    refine wpAnyH_ready (rs := [6]) (by kernel_rfl) (by simp) ?_
    refine AllReadyH.cons rfl (fun KK hK => ?_) AllReadyH.nil
    refine step_copy_BD (some 18) rfl rfl (.tmp 15) (.tmp 17) 22 22 rfl 5 Try.underlying22 (by kernel_rfl) b f (64 - f) (64 - f) g o m cap rfl rfl m kr (by simp only [Nat.min_def]; split <;> omega) hsr1 (row_there (w := wc.drew) HR.out (by omega)) ?_
    have RD0 := row_setCells (k := kr) (w := wc.drew) HR.out (show f + m ≤ 64 by omega)
    have RD := hide (row_cong RD0 (k := u8V (bF P)) (fun j hj => by unfold u8V; rw [hPb j hj]))
    have BD := hide (show Below W1.heap.size W1 (wc.drew.setCells b f (bL m kr)) from below_setCells' HB.out.drew (by omega))
    have e0 : (wc.drew.setCells b f (bL m kr)).heap[w.heap.size]? = wc.heap[w.heap.size]? := setCells_far b _ f wc.drew w.heap.size (by omega)
    have e1 := e0.trans (SAh.out.1 wc HB.out).2
    have zd : (wc.drew.setCells b f (bL m kr)).heap.size = wc.heap.size := size_setCells _ _ _ _
    simp only [Act.put, List.setIfInBounds_toArray, List.set_cons_zero, List.set_cons_succ]
    refine hK.out _ _ ⟨by simp [World.cell?, e1], by simp [World.cell?, e1], by simp [World.cell?, e1]⟩ (fun hHeld => ?_)
    clear hK KK
    refine wpAnyH_done (by kernel_rfl) ?_ _
    clear RD0 e0 e1 hsr1 SB0 hHeld
    generalize wc.drew.setCells b f (bL m kr) = wd at *
    go_wp2_with fail
    have hbd : b < wd.heap.size := by omega
    have hwd := BD.out.size
    have SA3 := hide (show ∀ u : World, Below wd.heap.size wd u → (fun u => u.rangeAt b 0 (bL 64 (bF P)) ∧ u.cell? ⟨wb, 2, none⟩ = some (.slice wa k wcp) ∧ u.cell? ⟨w.heap.size, 0, none⟩ = some (.int .i64 (s : Int))) u from fun u hu => by
      have h1 := hu.mono hwd
      obtain ⟨k1, k2⟩ := SAh.out.1 u (BD.out.trans h1)
      exact ⟨row_range0 (RD.out.of_block (hu.block b hbd)), by simp [World.cell?, k1], by simp [World.cell?, k2]⟩)
    refine wp_region_till (S := fun u => u.rangeAt b 0 (bL 64 (bF P)) ∧ u.cell? ⟨wb, 2, none⟩ = some (.slice wa k wcp) ∧ u.cell? ⟨w.heap.size, 0, none⟩ = some (.int .i64 (s : Int))) 14 (by kernel_rfl) (SA3.out _ (Below.refl _ _).drew) (fun hHeld => ?_)
    refine takeT (i := 0) [12, 13, 14] (v := .pointer (some ⟨wb, 0, none⟩)) (some 19) rfl rfl (by kernel_rfl) (by kernel_rfl) (by kernel_rfl) (by kernel_rfl) (fun _ _ _ h => h) (Or.inl ⟨by rfl, fun w hSw => by go_simp⟩) hHeld ?_
    simp only [Act.put, List.setIfInBounds_toArray, List.set_cons_zero, List.set_cons_succ]
    refine takeT (i := 1) [2, 3, 4, 11, 12, 13, 14] (v := .pointer (some ⟨wb, 0, none⟩)) (some 20) rfl rfl (by kernel_rfl) (by kernel_rfl) (by kernel_rfl) (by kernel_rfl) (fun _ _ _ h => h) (Or.inl ⟨by rfl, fun w hSw => by go_simp⟩) hHeld ?_
    simp only [Act.put, List.setIfInBounds_toArray, List.set_cons_zero, List.set_cons_succ]
    refine takeT (i := 2) [3, 4, 11, 12, 13, 14] (v := .pointer (some ⟨wb, 0, none⟩)) (some 21) rfl rfl (by kernel_rfl) (by kernel_rfl) (by kernel_rfl) (by kernel_rfl) (fun _ _ _ h => h) (Or.inl ⟨by rfl, fun w hSw => by go_simp⟩) hHeld ?_
    simp only [Act.put, List.setIfInBounds_toArray, List.set_cons_zero, List.set_cons_succ]
    refine takeT (i := 3) [4, 11, 12, 13, 14] (v := .pointer (some ⟨wb, 2, none⟩)) (some 22) rfl rfl (by kernel_rfl) (by kernel_rfl) (by kernel_rfl) (by kernel_rfl) (fun _ _ _ h => h) (Or.inl ⟨by rfl, fun w hSw => by go_simp⟩) hHeld ?_
    simp only [Act.put, List.setIfInBounds_toArray, List.set_cons_zero, List.set_cons_succ]
    refine takeT (i := 4) [11, 12, 13, 14] (v := .slice wa k wcp) (some 23) rfl rfl (by kernel_rfl) (by kernel_rfl) (by kernel_rfl) (by kernel_rfl) (fun _ _ _ h => h) (Or.inl ⟨by rfl, fun w hSw => by obtain ⟨s0, s1_, s2_⟩ := hSw; go_simp⟩) hHeld ?_
    simp only [Act.put, List.setIfInBounds_toArray, List.set_cons_zero, List.set_cons_succ]
    refine takeT (i := 5) [6, 9, 10, 11, 12, 13, 14] (v := .pointer (some ⟨w.heap.size, 0, none⟩)) (some 24) rfl rfl (by kernel_rfl) (by kernel_rfl) (by kernel_rfl) (by kernel_rfl) (fun _ _ _ h => h) (Or.inl ⟨by rfl, fun w hSw => by go_simp⟩) hHeld ?_
    simp only [Act.put, List.setIfInBounds_toArray, List.set_cons_zero, List.set_cons_succ]
    refine takeT (i := 6) [9, 10, 11, 12, 13, 14] (v := .int .i64 (s : Int)) (some 25) rfl rfl (by kernel_rfl) (by kernel_rfl) (by kernel_rfl) (by kernel_rfl) (fun _ _ _ h => h) (Or.inl ⟨by rfl, fun w hSw => by obtain ⟨s0, s1_, s2_⟩ := hSw; go_simp⟩) hHeld ?_
    simp only [Act.put, List.setIfInBounds_toArray, List.set_cons_zero, List.set_cons_succ]
    refine takeT (i := 7) [8, 9, 10, 11, 12, 13, 14] (v := secV P) (some 26) rfl rfl (by kernel_rfl) (by kernel_rfl) (by kernel_rfl) (by kernel_rfl) (fun _ _ _ h => h) (yieldsB (by rfl) 97 (.tmp 4) rfl b 0 64 rfl (bF P) _ (fun w hS => hS.1) Try.underlying97 rfl Try.size63) hHeld ?_
    simp only [Act.put, List.setIfInBounds_toArray, List.set_cons_zero, List.set_cons_succ]
    refine oneT (i := 8) (by kernel_rfl) rfl (fun KK hK => ?_)
    go_simp
    refine (imp_secText P _).mono ?_
    rintro e w5 ⟨rfl, hb5⟩
    have b5 : Below wd.heap.size wd w5 := (Below.refl _ _).drew.trans hb5
    have hW5 := b5.size
    rw [secS_self hP]
    go_wp2_with fail
    refine hK.out _ _ (SA3.out _ b5) (fun hHeld => ?_)
    clear hK KK hb5
    refine takeT (i := 9) [10, 11, 12, 13, 14] (v := .agg #[.int .i64 (s : Int), .string P]) (some 28) rfl rfl (by kernel_rfl) (by kernel_rfl) (by kernel_rfl) (by kernel_rfl) (fun _ _ _ h => h) (Or.inl ⟨by rfl, fun w hSw => by go_simp⟩) hHeld ?_
    simp only [Act.put, List.setIfInBounds_toArray, List.set_cons_zero, List.set_cons_succ]
    refine oneT (i := 10) (by kernel_rfl) rfl (fun KK hK => ?_)
    go_simp
    have b6 : Below wd.heap.size wd (w5.alloc (.cells #[.int .i64 (s : Int), .string P] 74)) := b5.alloc b5.size _
    have nw : ∀ j u, [Value.int .i64 (s : Int), Value.string P][j]? = some u → (w5.alloc (.cells #[.int .i64 (s : Int), .string P] 74)).cell? ((⟨w5.heap.size, 0, none⟩ : Addr).add j) = some u := World.news_of_block (heap_alloc_new w5 _)
    generalize hg6 : w5.alloc (.cells #[.int .i64 (s : Int), .string P] 74) = W6 at *
    have hW6 := b6.size
    refine hK.out _ _ (SA3.out _ b6) (fun hHeld => ?_)
    clear hK KK
    refine oneT (i := 11) (by kernel_rfl) rfl (fun KK hK => ?_)
    have o6 := own_of_block hown (fun x hx => (b6.block x (by have := (hown.lt x hx).2; omega)).trans ((BD.out.block x (by have := (hown.lt x hx).2; omega)).trans (Q0.out.block x (hown.lt x hx).2)))
    refine step_append_any W6 (some 30) rfl rfl (.tmp 23) (.tmp 29) 24 rfl base 74 iw (.agg #[.int .i64 0, .string ⟨#[]⟩]) 2 24 Try.underlying24 hiw hzw0 hzw1 hzw2 rfl (by decide) (.slice wa k wcp) k _ rfl o6 (some ⟨w5.heap.size, 0, none⟩) 1 1 [.int .i64 (s : Int), .string P] rfl rfl (.inr ⟨_, rfl, nw⟩) (by intro u hu; simp at hu; rcases hu with rfl | rfl <;> rfl) (by unfold maxLen; omega) (by omega) (by omega) ?_
    intro v9 w9 o9 g9 t9
    obtain ⟨a9, c9, ea⟩ := own_slice o9
    subst ea
    have nb : ∀ x, x < base → some x ≠ (Value.slice wa k wcp).ownBlock := fun x h1 h2 => by have := (hown.lt x h2.symm).1; omega
    have q : ∀ x, x < w.heap.size → some x ≠ (Value.slice wa k wcp).ownBlock → w9.heap[x]? = w.heap[x]? := fun x h1 h2 => (g9.block x (by omega) h2).trans ((b6.block x (by omega)).trans ((BD.out.block x (by omega)).trans (Q0.out.block x (by omega))))
    have qp : w9.heap[w.heap.size]? = wd.heap[w.heap.size]? := (g9.block w.heap.size (by omega) (fun e => by have := (hown.lt _ e.symm).2; omega)).trans (b6.block w.heap.size (by omega))
    have r0 : w9.heap[wb]? = some (.cells #[.slice sa nS sk, .map (some mb), .slice wa k wcp] 65) := (q wb hwbl (nb wb hwb2)).trans HWB2.out
    have hs9 : W6.heap.size ≤ w9.heap.size := g9.size
    have rp := qp.trans ((BD.out.block w.heap.size (by omega)).trans QB.out)
    have d0 : w9.cell? ⟨wb, 2, none⟩ = some (.slice wa k wcp) := by simp [World.cell?, r0]
    have f0 : w9.frozen? ⟨wb, 2, none⟩ = false := by simp [World.frozen?, r0]
    have S9 : (fun u => u.rangeAt b 0 (bL 64 (bF P)) ∧ u.cell? ⟨wb, 2, none⟩ = some (.slice wa k wcp) ∧ u.cell? ⟨w.heap.size, 0, none⟩ = some (.int .i64 (s : Int))) w9 := ⟨row_range0 (RD.out.of_block ((g9.block b (by omega) (fun e => by have := (hown.lt b e.symm).2; omega)).trans (b6.block b (by omega)))), d0, by simp [World.cell?, rp]⟩
    have NE : ∀ x, (Value.slice a9 (k + 1) c9).ownBlock = some x → x ≠ wb := fun x e => by have := (o9.lt x e).1; omega
    simp only [Act.put, List.setIfInBounds_toArray, List.set_cons_zero, List.set_cons_succ]
    refine hK.out _ _ S9 (fun hHeld => ?_)
    clear hK KK
    refine takeT (i := 12) [13, 14] (v := .pointer (some ⟨wb, 0, none⟩)) (some 31) rfl rfl (by kernel_rfl) (by kernel_rfl) (by kernel_rfl) (by kernel_rfl) (fun _ _ _ h => h) (Or.inl ⟨by rfl, fun w hSw => by go_simp⟩) hHeld ?_
    simp only [Act.put, List.setIfInBounds_toArray, List.set_cons_zero, List.set_cons_succ]
    refine takeT (i := 13) [14] (v := .pointer (some ⟨wb, 2, none⟩)) (some 32) rfl rfl (by kernel_rfl) (by kernel_rfl) (by kernel_rfl) (by kernel_rfl) (fun _ _ _ h => h) (Or.inl ⟨by rfl, fun w hSw => by go_simp⟩) hHeld ?_
    simp only [Act.put, List.setIfInBounds_toArray, List.set_cons_zero, List.set_cons_succ]
    refine lastT (by kernel_rfl) rfl (fun KK hK => ?_)
    go_simp
    have R1 := hide (show (w9.setCell ⟨wb, 2, none⟩ (.slice a9 (k + 1) c9)).ownsRow base 74 2 (.slice a9 (k + 1) c9) (k + 1) (ws ++ [.int .i64 (s : Int), .string P]) from own_of_block o9 (fun x hx => set1_o _ _ _ _ _ (NE x hx)))
    have R2 := hide (show (w9.setCell ⟨wb, 2, none⟩ (.slice a9 (k + 1) c9)).heap[wb]? = some (.cells #[.slice sa nS sk, .map (some mb), .slice a9 (k + 1) c9] 65) from by simp [World.setCell, Array.getElem?_modify, r0])
    have R3 := hide (show Fr1 w (w9.setCell ⟨wb, 2, none⟩ (.slice a9 (k + 1) c9)) wb (.slice wa k wcp) from ⟨g9.os.trans (b6.os.trans (BD.out.os.trans Q0.out.os)), g9.tape.trans (b6.tape.trans (BD.out.tape.trans Q0.out.tape)), g9.output.trans (b6.output.trans (BD.out.output.trans Q0.out.output)), by simp [World.setCell]; omega, fun x h1 h2 h3 => (set1_o _ _ _ _ _ h2).trans (q x h1 h3)⟩)
    clear r0 rp qp o9 g9 t9 nb q o6 nw NE S9
    refine hK.out _ _ ?_
    clear hK KK
    refine wpAnyT_done (by kernel_rfl) ?_ _
    go_wp2_with fail
    exact bodyPost_end (v := .tuple #[]) (by simp [results, Try.results39]) rfl ⟨rfl, _, _, R1.out, R2.out, R3.out⟩
end Go.Proofs.Ytipeelkmmjgehaa
/- The walks over the program's through, with read, with patch. -/
namespace Go.Proofs.Ytipeelkmmjgehaa
open Go Go.RowKit
/-- How many bytes of a run from p0 on k sectors have. -/
def dN (p0 n k : Nat) : Nat := min (64 * (p0 / 64 + k)) (p0 + n) - p0
theorem dN_le (p0 n k : Nat) : dN p0 n k ≤ n := by unfold dN; omega
theorem dN_zero (p0 n : Nat) : dN p0 n 0 = 0 := by unfold dN; omega
theorem dN_step (p0 n k m : Nat) (hlt : dN p0 n k < n) (hm : m = min (n - dN p0 n k) (64 - (p0 + dN p0 n k) % 64)) : (p0 + dN p0 n k) / 64 = p0 / 64 + k ∧ dN p0 n k + m = dN p0 n (k + 1) ∧ 64 * (p0 / 64 + k) < p0 + n ∧ (p0 + dN p0 n k) % 64 + m ≤ 64 ∧ 0 < m ∧ (dN p0 n k = 0 ∨ (p0 + dN p0 n k) % 64 = 0) := by
  unfold dN at *
  omega
theorem dN_end (p0 n k : Nat) (h : dN p0 n k = n) (hk : k = 0 ∨ 0 < n ∧ 64 * (p0 / 64 + (k - 1)) < p0 + n) : k = touchN p0 n := by
  unfold dN at h
  unfold touchN
  rw [Nat.min_def] at h
  split at h <;> split <;> omega
theorem range_part {w : World} {g n d m : Nat} {f : Nat → UInt8} (h : w.rangeAt g 0 (bL n f)) (hd : d + m ≤ n) : w.rangeAt g d (bL m fun i => f (d + i)) := fun j v hj => by
  obtain ⟨hj2, rfl⟩ := bL_get hj
  have := h (d + j) (u8V f (d + j)) (bL_at n f (d + j) (by omega))
  rwa [Nat.zero_add] at this
theorem range_blk {w w' : World} {g o : Nat} {l : List Value} (h : w.rangeAt g o l) (hb : w'.heap[g]? = w.heap[g]?) : w'.rangeAt g o l := fun j v hj => by
  have := h j v hj
  rw [← this]
  exact World.cell?_of_block (a := ⟨g, o + j, none⟩) hb
theorem patS_size (F : Nat → ByteArray) (p0 : Nat) (t : ByteArray) (s : Nat) : (patS F p0 t s).size = 64 := by
  show (Array.size _) = 64
  simp
theorem patS_bF (F : Nat → ByteArray) (p0 : Nat) (t : ByteArray) (s j : Nat) (hj : j < 64) : bF (patS F p0 t s) j = pB F p0 t (64 * s + j) := by
  simp [bF, patS, hj]
theorem patS_at (F : Nat → ByteArray) (p0 n k m : Nat) (t : ByteArray) (ht : t.size = n) (hlt : dN p0 n k < n) (hm : m = min (n - dN p0 n k) (64 - (p0 + dN p0 n k) % 64)) (j : Nat) (hj : j < 64) :
    bF (patS F p0 t (p0 / 64 + k)) j = if (p0 + dN p0 n k) % 64 ≤ j ∧ j < (p0 + dN p0 n k) % 64 + m then bF t (dN p0 n k + (j - (p0 + dN p0 n k) % 64)) else bF (F (p0 / 64 + k)) j := by
  obtain ⟨h1, h2, h3, h4, h5, h6⟩ := dN_step p0 n k m hlt hm
  rw [patS_bF _ _ _ _ _ hj]
  unfold pB
  have e1 : (64 * (p0 / 64 + k) + j) / 64 = p0 / 64 + k := by omega
  have e2 : (64 * (p0 / 64 + k) + j) % 64 = j := by omega
  have hle := dN_le p0 n k
  generalize dN p0 n k = d at *
  have hp : p0 + d = 64 * (p0 / 64 + k) + (p0 + d) % 64 := by omega
  generalize hf : (p0 + d) % 64 = f at *
  by_cases c : f ≤ j ∧ j < f + m
  · rw [if_pos c, if_pos (by omega)]
    congr 1
    omega
  · rw [if_neg c, if_neg (by omega)]
    unfold dB
    rw [e1, e2]
set_option maxRecDepth 100000 in
set_option maxHeartbeats 1600000 in
theorem imp_through_patch (wb g n cap p0 nS sk nC mb : Nat) (sa ra : Option Addr) (S : Nat → ByteArray) (M : Int → Option ByteArray) (FF : Nat → ByteArray) (t : ByteArray) (w : World) (hn : nS ≤ 620) (hp : p0 + n ≤ 64 * nS) (hts : t.size = n) (hcap : n ≤ cap) (hcap2 : cap ≤ 9223372036854775807)
    (hFF : ∀ j, j < nS → FF j = (M (j : Int)).getD (S j) ∧ (FF j).size = 64) (hv : vwI w wb (.agg #[.slice sa nS sk, .map (some mb)]) nS S nC M)
    (hwb : w.heap[wb]? = some (.cells #[.slice sa nS sk, .map (some mb), .slice none 0 0] 65)) (hrun : n = 0 ∨ ra = some ⟨g, 0, none⟩ ∧ g < w.heap.size ∧ g ≠ wb ∧ w.rangeAt g 0 (bL n (bF t))) :
    Calls Try.prog 38 #[.pointer (some ⟨wb, 0, none⟩), .int .i64 (p0 : Int), .slice ra n cap, .func (.func 39) #[] #[]] w fun e w' => e = .returned (.tuple #[]) ∧ ∃ wa wcp, w'.ownsRow w.heap.size 74 2 (.slice wa (touchN p0 n) wcp) (touchN p0 n) (wL (fun j => ((p0 / 64 + j : Nat) : Int)) (fun j => patS FF p0 t (p0 / 64 + j)) (touchN p0 n)) ∧ w'.heap[wb]? = some (.cells #[.slice sa nS sk, .map (some mb), .slice wa (touchN p0 n) wcp] 65) ∧ w.grownBy w' (some wb) := by
  have HV := hide hv
  have HWB := hide hwb
  have HRUN := hide hrun
  have HFF := hide hFF
  have hwbl : wb < w.heap.size := (Array.getElem?_eq_some_iff.1 hwb).1
  clear hv hwb hrun hFF
  go_enter Try.func38, Try.ntmps38
  go_wp2_with fail
  go_loopw [1, 2] (fun av rv wx => ∃ (k d : Nat) (wa : Option Addr) (wcp : Nat) (rb : Option Addr), d = dN p0 n k ∧ (k = 0 ∨ 0 < n ∧ 64 * (p0 / 64 + (k - 1)) < p0 + n) ∧ av = .int .i64 ((p0 + d : Nat) : Int) ∧ rv = .slice rb (n - d) (cap - d) ∧ Hid (d < n → rb = some ⟨g, d, none⟩) ∧ Hid (wx.ownsRow w.heap.size 74 2 (.slice wa k wcp) k (wL (fun j => ((p0 / 64 + j : Nat) : Int)) (fun j => patS FF p0 t (p0 / 64 + j)) k)) ∧ Hid (wx.heap[wb]? = some (.cells #[.slice sa nS sk, .map (some mb), .slice wa k wcp] 65)) ∧ Hid (w.grownBy wx (some wb))) (fun _ rv _ => match rv with | .slice _ q _ => q | _ => 0)
  case atStart => exact ⟨0, 0, none, 0, ra, (dN_zero p0 n).symm, .inl rfl, rfl, rfl, fun h => by rcases HRUN.out with h0 | h0; omega; exact h0.1, World.ownsRow_nil _ _ _ _, HWB.out, ⟨rfl, rfl, rfl, Nat.le_refl _, fun _ _ _ => rfl⟩⟩
  case round =>
    obtain ⟨k, d, wa, wcp, rb, hd, hk, rfl, rfl, hrb, HO, HB, HG⟩ := hrel
    have hdn : d ≤ n := by rw [hd]; exact dN_le _ _ _
    obtain ⟨p, hp2⟩ : ∃ p, p = p0 + d := ⟨_, rfl⟩
    obtain ⟨q, hq⟩ : ∃ q, q = n - d := ⟨_, rfl⟩
    obtain ⟨c, hc⟩ : ∃ c, c = cap - d := ⟨_, rfl⟩
    rw [← hp2, ← hq, ← hc]
    by_cases hlt : d < n
    · obtain rfl := hrb.out hlt
      have hqpos : 0 < q := by omega
      have e1 : decide ((0 : Int) < (q : Int)) = true := decide_eq_true (by omega)
      obtain ⟨m, hm⟩ : ∃ m, m = min q (64 - p % 64) := ⟨_, rfl⟩
      have hpt := imp_partAt p g d q c m wr (by omega) hqpos (by omega) (by omega) hm
      obtain ⟨s1, s2, s3, s4, s5, s6⟩ := dN_step p0 n k m (by omega) (by rw [hm, hq, hp2, hd])
      rw [← hd] at s1 s2 s4 s6
      rw [← hp2] at s1 s4 s6
      obtain ⟨s, hs⟩ : ∃ s, s = p0 / 64 + k := ⟨_, rfl⟩
      obtain ⟨f, hf⟩ : ∃ f, f = p % 64 := ⟨_, rfl⟩
      rw [s1, ← hs, ← hf] at hpt
      have HPT := hide hpt
      have hsn : s < nS := by omega
      have hmq : m ≤ q := by omega
      have hqc : q ≤ c := by omega
      have hcb : c ≤ 9223372036854775807 := by omega
      have hpb : p ≤ 39680 := by omega
      have hfm : f + m ≤ 64 := by rw [hf]; exact s4
      have hPs := patS_size FF p0 t s
      have hPb : ∀ j, j < 64 → bF (patS FF p0 t s) j = if f ≤ j ∧ j < f + m then bF t (d + (j - f)) else bF (FF s) j := fun j hj => by
        have h := patS_at FF p0 n k m t hts (by rw [← hd]; exact hlt) (by rw [hm, hq, hp2, hd]) j hj
        rw [← hd, ← hp2, ← hf, ← hs] at h
        exact h
      have hex : wL (fun j => ((p0 / 64 + j : Nat) : Int)) (fun j => patS FF p0 t (p0 / 64 + j)) (k + 1) = wL (fun j => ((p0 / 64 + j : Nat) : Int)) (fun j => patS FF p0 t (p0 / 64 + j)) k ++ [.int .i64 (s : Int), .string (patS FF p0 t s)] := by rw [wL_snoc, ← hs]
      obtain ⟨P, hP⟩ : ∃ P, P = patS FF p0 t s := ⟨_, rfl⟩
      rw [← hP] at hPs hPb hex
      obtain ⟨ws, hws⟩ : ∃ ws, ws = wL (fun j => ((p0 / 64 + j : Nat) : Int)) (fun j => patS FF p0 t (p0 / 64 + j)) k := ⟨_, rfl⟩
      rw [← hws] at HO hex
      have hk1 : k ≤ 1000 := by omega
      obtain ⟨d2, hd2⟩ : ∃ d2, d2 = d + m := ⟨_, rfl⟩
      obtain ⟨p2, hp3⟩ : ∃ p2, p2 = p + m := ⟨_, rfl⟩
      have s7 : (p : Int) + (m : Int) = (p2 : Int) := by omega
      have hp2b : p2 ≤ 39680 := by omega
      have hsrc0 : wr.rangeAt g 0 (bL n (bF t)) ∧ g < wr.heap.size ∧ g ≠ wb := by
        rcases HRUN.out with h0 | ⟨_, h1, h2, h3⟩
        · omega
        · exact ⟨range_blk h3 (HG.out.block g h1 (by simp; omega)), Nat.lt_of_lt_of_le h1 HG.out.size, h2⟩
      have hsrc : wr.rangeAt g d (bL m fun i => bF t (d + i)) := range_part hsrc0.1 (by omega)
      have hgl := hsrc0.2.1
      have hwr := HG.out.size
      have HX := hide (And.intro hPs (And.intro hPb (And.intro hex (And.intro (HFF.out s hsn).1 (And.intro (HFF.out s hsn).2 hsrc)))))
      have HE := hide (show d2 = dN p0 n (k + 1) ∧ p2 = p0 + d2 ∧ q - m = n - d2 ∧ c - m = cap - d2 ∧ (d2 < n ↔ m < q) ∧ 0 < n ∧ 64 * (p0 / 64 + (k + 1 - 1)) < p0 + n ∧ d + m = d2 from ⟨by rw [hd2]; exact s2, by omega, by omega, by omega, by omega, by omega, by simpa using s3, hd2.symm⟩)
      have HV2 := hide (show vwI wr wb (.agg #[.slice sa nS sk, .map (some mb)]) nS S nC M from HV.out.below ⟨HG.out.os, HG.out.tape, HG.out.output, HG.out.size, fun x hx => HG.out.block x (by omega) (by simp; omega)⟩)
      clear hpt hd hp2 hq hc hm s1 s2 s3 s4 s6 hs hf hPs hPb hex hP hws hd2 hp3 hsrc0 hsrc hrb hk
      go_wp2_with fail
      refine HPT.out.mono ?_
      rintro e w1 ⟨rfl, hb1⟩
      have hz1 := hb1.size
      have al0 : Below w1.heap.size w1 (w1.alloc (.cells #[.int .i64 (s : Int), .int .i64 (f : Int), .slice (some ⟨g, d, none⟩) m c] 93)) := (Below.refl _ _).alloc (Nat.le_refl _) _
      have al1 := heap_alloc_new w1 (.cells #[.int .i64 (s : Int), .int .i64 (f : Int), .slice (some ⟨g, d, none⟩) m c] 93)
      have al2 : w1.heap.size < (w1.alloc (.cells #[.int .i64 (s : Int), .int .i64 (f : Int), .slice (some ⟨g, d, none⟩) m c] 93)).heap.size := by simp
      have AL := hide (And.intro al0 al1)
      clear al0 al1
      go_wp2_with fail
      generalize w1.alloc (.cells #[.int .i64 (s : Int), .int .i64 (f : Int), .slice (some ⟨g, d, none⟩) m c] 93) = w2 at *
      have hb2 := hb1.trans (AL.out.1.mono hz1)
      have hz2 := hb2.size
      refine (imp_patch w.heap.size k wb wb g d m c s f nS sk nC mb sa wa wcp S M (FF s) w2 hn hsn HX.out.2.2.2.1 HX.out.2.2.2.2.1 s5 hfm (by omega) ((HV2.out.below (hb2.mono (by omega)))) ((hb2.block wb (by omega)).trans HB.out) (fun i => bF t (d + i)) P (by omega) (range_blk HX.out.2.2.2.2.2 (hb2.block g hgl)) HX.out.1 HX.out.2.1 ws hk1 (own_of_block HO.out (fun x hx => hb2.block x (HO.out.lt x hx).2)) hwbl (by omega)).mono ?_
      rintro e w3 ⟨rfl, a9, c9, ho3, hw3, hf3⟩
      have hpb3 := (hf3.block w1.heap.size al2 (by omega) (fun e => by have := (HO.out.lt w1.heap.size e.symm).2; omega)).trans AL.out.2
      have y2 : w3.cell? ⟨w1.heap.size, 2, none⟩ = some (.slice (some ⟨g, d, none⟩) m c) := by simp [World.cell?, hpb3]
      have R1 := hide (show w3.ownsRow w.heap.size 74 2 (.slice a9 (k + 1) c9) (k + 1) (wL (fun j => ((p0 / 64 + j : Nat) : Int)) (fun j => patS FF p0 t (p0 / 64 + j)) (k + 1)) by rw [HX.out.2.2.1]; exact ho3)
      have R2 := hide hw3
      have R3 := hide (show w.grownBy w3 (some wb) from ⟨hf3.os.trans (hb2.os.trans HG.out.os), hf3.tape.trans (hb2.tape.trans HG.out.tape), hf3.output.trans (hb2.output.trans HG.out.output), by have := hf3.size; omega, fun x h1 h2 => (hf3.block x (by omega) (fun e => h2 (by rw [e])) (fun e => by have := (HO.out.lt x e.symm).1; omega)).trans ((hb2.block x (by omega)).trans (HG.out.block x h1 h2))⟩)
      clear ho3 hw3 hf3 hpb3 hb1 hb2 AL HO HB HG HV2 HX
      go_wp2_with fail
      go_roundw
      case rel =>
        obtain ⟨x1, x2, x3, x4, x5, x6, x7, x8⟩ := HE.out
        exact ⟨k + 1, d2, a9, c9, _, x1, .inr ⟨x6, x7⟩, by rw [x2], by rw [x3, x4], fun h => by rw [if_neg (by have := x5.1 h; omega), x8], R1, R2, R3⟩
      case measure => simp; omega
    · have e1 : decide ((0 : Int) < (q : Int)) = false := decide_eq_false (by omega)
      have hdn2 : d = n := by omega
      have hkk := dN_end p0 n k (by rw [← hd]; exact hdn2) hk
      have HKK := hide hkk
      have hq0 : q = 0 := by omega
      clear hd hk hp2 hq hc hkk hrb hdn2
      go_wp2_with fail
      exact bodyPost_end (v := .tuple #[]) (by simp [results, Try.results38]) rfl ⟨rfl, wa, wcp, by rw [← HKK.out]; exact HO.out, by rw [← HKK.out]; exact HB.out, HG.out⟩
end Go.Proofs.Ytipeelkmmjgehaa
/- The walks over the model's l09Read, ExtentRead (written by mkextrs.py). -/
namespace Go.Proofs.Ytipeelkmmjgehaa
open Go Go.RowKit
/-- What ExtentRead answers: a text and a code. -/
def rdOut (nS : Nat) (S : Nat → ByteArray) (nC : Nat) (A : Nat → Int) (X : Nat → ByteArray) (a m : Int) (t : ByteArray) (c : Int) : Prop :=
  (¬ dskOk nS S nC A X ∧ t = ⟨#[]⟩ ∧ c = 1) ∨ (dskOk nS S nC A X ∧ ¬ extOk a m (nS : Int) ∧ t = ⟨#[]⟩ ∧ c = 8) ∨ (dskOk nS S nC A X ∧ extOk a m (nS : Int) ∧ t = ⟨(dL (flS S A X (fun _ => true) nC) (64 * a.toNat) m.toNat).toArray⟩ ∧ c = 0)
theorem box3 (w : World) (a b c : Obj) : Below w.heap.size w (((w.alloc a).alloc b).alloc c) ∧ (((w.alloc a).alloc b).alloc c).heap.size = w.heap.size + 3 ∧ (((w.alloc a).alloc b).alloc c).heap[w.heap.size]? = some a ∧ (((w.alloc a).alloc b).alloc c).heap[w.heap.size + 1]? = some b ∧ (((w.alloc a).alloc b).alloc c).heap[w.heap.size + 2]? = some c := by
  obtain ⟨q0, q1, q2, q3⟩ := box2 w a b
  refine ⟨q0.alloc (by omega) _, by simp, (Below.heap_alloc _ _ _ (by omega)).trans q2, (Below.heap_alloc _ _ _ (by omega)).trans q3, ?_⟩
  have := heap_alloc_new ((w.alloc a).alloc b) c
  rwa [q1] at this
theorem dL_take (F : Nat → ByteArray) (p N m : Nat) (h : m ≤ N) : (⟨(dL F p N).toArray⟩ : ByteArray).extract 0 m = ⟨(dL F p m).toArray⟩ := by
  apply ByteArray.ext
  rw [ByteArray.data_extract]
  show (dL F p N).toArray.extract 0 m = (dL F p m).toArray
  obtain ⟨k, rfl⟩ : ∃ k, N = m + k := ⟨N - m, by omega⟩
  rw [dL_add, List.extract_toArray, List.extract_eq_take_drop, List.drop_zero, Nat.sub_zero, List.take_left' (dL_len _ _ _)]
theorem run_toW {P : Program} (w : World) (t : TypeId) (s : ByteArray) (m : Nat) (h : P.underlying t = some .string) (hS : m ≤ s.size) :
    (Instr.slice t (.string s) none (some (.int .i64 (m : Int))) none).run P w = .ok (.string (s.extract 0 m)) w := by
  rw [run_slice_string_to_if w t s .i64 _ h, if_pos (by omega), Int.toNat_natCast]
set_option maxRecDepth 100000 in
set_option maxHeartbeats 3200000 in
theorem spec_l09Read (v : Value) (nS : Nat) (S : Nat → ByteArray) (nC : Nat) (A : Nat → Int) (X : Nat → ByteArray) (a m : Nat) (w : World) (hok : dskOk nS S nC A X) (hm : m ≤ 20000) (hfit : 64 * a + m ≤ 64 * nS) (h : dskI w w.heap.size v nS S nC A X) :
    Calls Try.prog 45 #[v, .agg #[.int .i64 (a : Int), .int .i64 (m : Int)]] w fun e w' => e = .returned (.string ⟨(dL (flS S A X (fun _ => true) nC) (64 * a) m).toArray⟩) ∧ Below w.heap.size w w' := by
  obtain ⟨sv, cv, rfl, hs, hc⟩ := h
  have HI := hide (show dskI w w.heap.size (.agg #[sv, cv]) nS S nC A X from ⟨sv, cv, rfl, hs, hc⟩)
  obtain ⟨sa, sk, e1⟩ : ∃ a c, sv = .slice a nS c := by obtain ⟨a, c, e, _⟩ := hs; exact ⟨a, c, e⟩
  obtain ⟨ca, ck, e2⟩ : ∃ a c, cv = .slice a nC c := by obtain ⟨a, c, e, _⟩ := hc; exact ⟨a, c, e⟩
  subst e1 e2
  clear hs hc
  obtain ⟨q0, q1, q2, q3⟩ := box2 w (.cells #[.slice sa nS sk, .slice ca nC ck] 26) (.cells #[.int .i64 (a : Int), .int .i64 (m : Int)] 34)
  have HQ := hide (And.intro q0 (And.intro q1 (And.intro q2 q3)))
  clear q0 q1 q2 q3
  have hn6 := hok.1
  obtain ⟨K, hK⟩ : ∃ K, K = (m + 63) / 64 := ⟨_, rfl⟩
  have hKb : K ≤ 400 := by omega
  have haK : a + K ≤ nS := by omega
  have hmK : m ≤ 64 * K := by omega
  have hct := catL_dL (flS S A X (fun _ => true) nC) a K (fun j hj => flS_size S A X _ nS hok.2.2.1 nC (fun j hj => (hok.2.2.2 j hj).2.2) (a + j) (by omega))
  obtain ⟨TX, hTX⟩ : ∃ TX : ByteArray, TX = ⟨(catL (flS S A X (fun _ => true) nC) a K).toArray⟩ := ⟨_, rfl⟩
  have hTz : TX.size = 64 * K := by rw [hTX, hct]; exact dL_size _ _ _
  obtain ⟨RX, hRX⟩ : ∃ RX : ByteArray, RX = ⟨(dL (flS S A X (fun _ => true) nC) (64 * a) m).toArray⟩ := ⟨_, rfl⟩
  have hex : TX.extract 0 m = RX := by rw [hTX, hRX, hct]; exact dL_take _ _ _ _ hmK
  have hrun := fun (w : World) => run_toW (P := Try.prog) w 9 TX m Try.underlying9 (by omega)
  rw [hex] at hrun
  have ST := hide (fun (u : World) (h : dskI u u.heap.size (.agg #[.slice sa nS sk, .slice ca nC ck]) nS S nC A X) => spec_text _ nS S nC A X a K u hok haK (by omega) h)
  rw [← hTX] at ST
  have hsec := fun (u : World) => spec_sectors m u (by omega)
  rw [← hK] at hsec
  have HSEC := hide hsec
  rw [← hRX]
  have HRX := hide (And.intro hRX hTX)
  have HRUN := hide hrun
  clear hK hct hTX hRX hex hrun hsec hTz
  go_enter Try.func45, Try.ntmps45
  go_wp2_with fail
  obtain ⟨q0, q1, q2, q3⟩ := HQ.out
  generalize ((w.alloc (.cells #[.slice sa nS sk, .slice ca nC ck] 26)).alloc (.cells #[.int .i64 (a : Int), .int .i64 (m : Int)] 34)) = W2 at *
  clear HQ
  have SA := hide (show ∀ u : World, Below W2.heap.size W2 u → (fun u => (u.cell? ⟨w.heap.size, 0, none⟩ = some (.slice sa nS sk) ∧ u.cell? ⟨w.heap.size, 1, none⟩ = some (.slice ca nC ck)) ∧ u.cell? ⟨w.heap.size + 1, 0, none⟩ = some (.int .i64 (a : Int)) ∧ u.cell? ⟨w.heap.size + 1, 1, none⟩ = some (.int .i64 (m : Int))) u from fun u hu => by
    have h2 := (hu.block w.heap.size (by omega)).trans q2
    have h3 := (hu.block (w.heap.size + 1) (by omega)).trans q3
    exact ⟨⟨by simp [World.cell?, h2], by simp [World.cell?, h2]⟩, by simp [World.cell?, h3], by simp [World.cell?, h3]⟩)
  have I2 := hide (show dskI W2 W2.heap.size (.agg #[.slice sa nS sk, .slice ca nC ck]) nS S nC A X from (HI.out.below q0).wide (by omega))
  have Q0 := hide q0
  clear q0 q2 q3
  refine wp_region_held_drew (S := fun u => (u.cell? ⟨w.heap.size, 0, none⟩ = some (.slice sa nS sk) ∧ u.cell? ⟨w.heap.size, 1, none⟩ = some (.slice ca nC ck)) ∧ u.cell? ⟨w.heap.size + 1, 0, none⟩ = some (.int .i64 (a : Int)) ∧ u.cell? ⟨w.heap.size + 1, 1, none⟩ = some (.int .i64 (m : Int))) (by kernel_rfl) (SA.out _ (Below.refl _ _).drew) (fun hHeld => ?_)
  refine takeD (i := 0) (v := .agg #[.slice sa nS sk, .slice ca nC ck]) (some 5) rfl rfl (by kernel_rfl) (by kernel_rfl) (by kernel_rfl) (fun _ _ _ h => h) (Or.inl ⟨by rfl, fun w hSw => by obtain ⟨⟨s0, s1⟩, s2, s3⟩ := hSw; go_simp⟩) hHeld ?_
  simp only [Act.put, List.setIfInBounds_toArray, List.set_cons_zero, List.set_cons_succ]
  refine takeD (i := 1) (v := .pointer (some ⟨w.heap.size + 1, 0, none⟩)) (some 6) rfl rfl (by kernel_rfl) (by kernel_rfl) (by kernel_rfl) (fun _ _ _ h => h) (Or.inl ⟨by rfl, fun w hSw => by go_simp⟩) hHeld ?_
  simp only [Act.put, List.setIfInBounds_toArray, List.set_cons_zero, List.set_cons_succ]
  refine takeD (i := 2) (v := .int .i64 (a : Int)) (some 7) rfl rfl (by kernel_rfl) (by kernel_rfl) (by kernel_rfl) (fun _ _ _ h => h) (Or.inl ⟨by rfl, fun w hSw => by obtain ⟨⟨s0, s1⟩, s2, s3⟩ := hSw; go_simp⟩) hHeld ?_
  simp only [Act.put, List.setIfInBounds_toArray, List.set_cons_zero, List.set_cons_succ]
  refine takeD (i := 3) (v := .pointer (some ⟨w.heap.size + 1, 1, none⟩)) (some 8) rfl rfl (by kernel_rfl) (by kernel_rfl) (by kernel_rfl) (fun _ _ _ h => h) (Or.inl ⟨by rfl, fun w hSw => by go_simp⟩) hHeld ?_
  simp only [Act.put, List.setIfInBounds_toArray, List.set_cons_zero, List.set_cons_succ]
  refine takeD (i := 4) (v := .int .i64 (m : Int)) (some 9) rfl rfl (by kernel_rfl) (by kernel_rfl) (by kernel_rfl) (fun _ _ _ h => h) (Or.inl ⟨by rfl, fun w hSw => by obtain ⟨⟨s0, s1⟩, s2, s3⟩ := hSw; go_simp⟩) hHeld ?_
  simp only [Act.put, List.setIfInBounds_toArray, List.set_cons_zero, List.set_cons_succ]
  refine takeD (i := 7) (v := .pointer (some ⟨w.heap.size + 1, 1, none⟩)) (some 12) rfl rfl (by kernel_rfl) (by kernel_rfl) (by kernel_rfl) (fun _ _ _ h => h) (Or.inl ⟨by rfl, fun w hSw => by go_simp⟩) hHeld ?_
  simp only [Act.put, List.setIfInBounds_toArray, List.set_cons_zero, List.set_cons_succ]
  refine takeD (i := 8) (v := .int .i64 (m : Int)) (some 13) rfl rfl (by kernel_rfl) (by kernel_rfl) (by kernel_rfl) (fun _ _ _ h => h) (Or.inl ⟨by rfl, fun w hSw => by obtain ⟨⟨s0, s1⟩, s2, s3⟩ := hSw; go_simp⟩) hHeld ?_
  simp only [Act.put, List.setIfInBounds_toArray, List.set_cons_zero, List.set_cons_succ]
  refine wpAnyH_ready (rs := [5]) (by kernel_rfl) (by simp) ?_
  refine AllReadyH.cons rfl (fun KK hK => ?_) AllReadyH.nil
  go_simp
  refine (HSEC.out W2.drew).mono ?_
  rintro e w9 ⟨rfl, rfl⟩
  go_wp2_with fail
  refine hK.out _ _ (SA.out _ (Below.refl _ _).drew) (fun hHeld => ?_)
  clear hK KK
  refine wpAnyH_ready (rs := [6]) (by kernel_rfl) (by simp) ?_
  refine AllReadyH.cons rfl (fun KK hK => ?_) AllReadyH.nil
  go_simp
  refine (ST.out W2.drew (I2.out.below (Below.refl _ _).drew)).mono ?_
  rintro e w3 ⟨rfl, hb⟩
  have b1 : Below W2.heap.size W2 w3 := (Below.refl _ _).drew.trans hb
  have B1 := hide (Q0.out.trans (b1.mono (by omega)))
  have sa3 := SA.out _ b1
  clear hb b1
  go_wp2_with fail
  refine hK.out _ _ sa3 (fun hHeld => ?_)
  clear hK KK
  refine wpAnyH_ready (rs := [9]) (by kernel_rfl) (by simp) ?_
  refine AllReadyH.cons rfl (fun KK hK => ?_) AllReadyH.nil
  have hrun := HRUN.out w3
  go_wp2_with fail
  refine hK.out _ _ sa3 (fun hHeld => ?_)
  clear hK KK
  clear hrun
  refine takeD (i := 10) (v := .string RX) (some 4) rfl rfl (by kernel_rfl) (by kernel_rfl) (by kernel_rfl) (fun _ _ _ h => h) (Or.inl ⟨by rfl, fun w hSw => by go_simp⟩) hHeld ?_
  simp only [Act.put, List.setIfInBounds_toArray, List.set_cons_zero, List.set_cons_succ]
  refine wpAnyH_done (by kernel_rfl) ?_ _
  go_wp2_with fail
  go_ret
  exact ⟨rfl, B1.out⟩
set_option maxRecDepth 100000 in
set_option maxHeartbeats 3200000 in
theorem spec_extentRead (v : Value) (nS : Nat) (S : Nat → ByteArray) (nC : Nat) (A : Nat → Int) (X : Nat → ByteArray) (a m : Int) (w : World) (hS : nS ≤ 1048576) (hC : nC ≤ 1048576) (h : dskI w w.heap.size v nS S nC A X) :
    Calls Try.prog 12 #[v, .agg #[.int .i64 a, .int .i64 m]] w fun e w' => ∃ t c, e = .returned (doutV (.slice none 0 0) (.slice none 0 0) t c) ∧ rdOut nS S nC A X a m t c ∧ Below w.heap.size w w' := by
  obtain ⟨sv, cv, rfl, hs, hc⟩ := h
  have HI := hide (show dskI w w.heap.size (.agg #[sv, cv]) nS S nC A X from ⟨sv, cv, rfl, hs, hc⟩)
  obtain ⟨sa, sk, e1⟩ : ∃ a c, sv = .slice a nS c := by obtain ⟨a, c, e, _⟩ := hs; exact ⟨a, c, e⟩
  obtain ⟨ca, ck, e2⟩ : ∃ a c, cv = .slice a nC c := by obtain ⟨a, c, e, _⟩ := hc; exact ⟨a, c, e⟩
  subst e1 e2
  clear hs hc
  have HQ := hide (box3 w (.cells #[.slice sa nS sk, .slice ca nC ck] 26) (.cells #[.int .i64 a, .int .i64 m] 34) (.cells #[.slice none 0 0, .slice none 0 0, .string ⟨#[]⟩, .int .i64 0] 30))
  go_enter Try.func12, Try.ntmps12
  go_wp2_with fail
  obtain ⟨q0, q1, q2, q3, q4⟩ := HQ.out
  generalize (((w.alloc (.cells #[.slice sa nS sk, .slice ca nC ck] 26)).alloc (.cells #[.int .i64 a, .int .i64 m] 34)).alloc (.cells #[.slice none 0 0, .slice none 0 0, .string ⟨#[]⟩, .int .i64 0] 30)) = W2 at *
  have I2 : dskI W2 W2.heap.size (.agg #[.slice sa nS sk, .slice ca nC ck]) nS S nC A X := (HI.out.below q0).wide (by omega)
  have HS0 := hide (And.intro q2 (And.intro q3 (And.intro q4 q0)))
  refine (spec_diskRight _ nS S nC A X W2 hS hC I2).mono ?_
  rintro e w1 ⟨⟨r, rfl, hr⟩, hb1⟩
  clear q0 q2 q3 q4 HQ
  obtain ⟨k2, k3, k4, k5⟩ := HS0.out
  replace k2 := (hb1.block w.heap.size (by have := k5.size; omega)).trans k2
  replace k3 := (hb1.block (w.heap.size + 1) (by have := (Array.getElem?_eq_some_iff.1 k4).1; omega)).trans k3
  replace k4 := (hb1.block (w.heap.size + 2) (Array.getElem?_eq_some_iff.1 k4).1).trans k4
  replace k5 := k5.trans (hb1.mono k5.size)
  have HS1 := hide (And.intro k2 (And.intro k3 (And.intro k4 k5)))
  have I1 := hide ((I2.below hb1).wide hb1.size)
  have hz1 := hb1.size
  have b0 : w1.cell? ⟨w.heap.size, 0, none⟩ = some (.slice sa nS sk) := by simp [World.cell?, k2]
  have b1 : w1.cell? ⟨w.heap.size, 1, none⟩ = some (.slice ca nC ck) := by simp [World.cell?, k2]
  have e0 : w1.cell? ⟨w.heap.size + 1, 0, none⟩ = some (.int .i64 a) := by simp [World.cell?, k3]
  have e1 : w1.cell? ⟨w.heap.size + 1, 1, none⟩ = some (.int .i64 m) := by simp [World.cell?, k3]
  have oc0 : w1.cell? ⟨w.heap.size + 2, 0, none⟩ = some (.slice none 0 0) := by simp [World.cell?, k4]
  have of0 : w1.frozen? ⟨w.heap.size + 2, 0, none⟩ = false := by simp [World.frozen?, k4]
  have oc1 : w1.cell? ⟨w.heap.size + 2, 1, none⟩ = some (.slice none 0 0) := by simp [World.cell?, k4]
  have of1 : w1.frozen? ⟨w.heap.size + 2, 1, none⟩ = false := by simp [World.frozen?, k4]
  have oc2 : w1.cell? ⟨w.heap.size + 2, 2, none⟩ = some (.string ⟨#[]⟩) := by simp [World.cell?, k4]
  have of2 : w1.frozen? ⟨w.heap.size + 2, 2, none⟩ = false := by simp [World.frozen?, k4]
  have oc3 : w1.cell? ⟨w.heap.size + 2, 3, none⟩ = some (.int .i64 0) := by simp [World.cell?, k4]
  have of3 : w1.frozen? ⟨w.heap.size + 2, 3, none⟩ = false := by simp [World.frozen?, k4]
  clear k2 k3 k4 k5 HS0 hb1 I2
  cases r with
  | false =>
    have R := hide (show ¬ dskOk nS S nC A X from fun h => by have := hr.2 h; cases this)
    have HR := hide HS1.out.2.2.1
    have HB := hide HS1.out.2.2.2
    clear hr
    go_wp2_with fail
    have fin := set4_blk w1 (w.heap.size + 2) _ _ _ _ (.slice none 0 0) (.slice none 0 0) (.string ⟨#[]⟩) (.int .i64 1) _ HR.out
    have hbf := below_set4 HB.out (w.heap.size + 2) (by omega) (.slice none 0 0) (.slice none 0 0) (.string ⟨#[]⟩) (.int .i64 1)
    exact bodyPost_ret (results_cell_row Try.results12 _ _ (w.heap.size + 2) 30 #[.slice none 0 0, .slice none 0 0, .string ⟨#[]⟩, .int .i64 1] (0, 0) _ rfl fin Try.underlying30 rfl (by kernel_rfl)) rfl ⟨_, _, rfl, .inl ⟨R.out, rfl, rfl⟩, hbf⟩
  | true =>
    have R := hide (hr.1 rfl)
    clear hr
    go_wp2_with fail
    refine (spec_extentRight a m (nS : Int) w1).mono ?_
    rintro e w2 ⟨⟨r, rfl, hr⟩, hb2⟩
    clear b0 b1 e0 e1 oc0 of0 oc1 of1 oc2 of2 oc3 of3
    obtain ⟨k2, k3, k4, k5⟩ := HS1.out
    replace k2 := (hb2.block w.heap.size (by have := k5.size; omega)).trans k2
    replace k3 := (hb2.block (w.heap.size + 1) (by have := (Array.getElem?_eq_some_iff.1 k4).1; omega)).trans k3
    replace k4 := (hb2.block (w.heap.size + 2) (Array.getElem?_eq_some_iff.1 k4).1).trans k4
    replace k5 := k5.trans (hb2.mono k5.size)
    have HS2 := hide (And.intro k2 (And.intro k3 (And.intro k4 k5)))
    have I2 := hide ((I1.out.below hb2).wide hb2.size)
    have hz2 := hb2.size
    have b0 : w2.cell? ⟨w.heap.size, 0, none⟩ = some (.slice sa nS sk) := by simp [World.cell?, k2]
    have b1 : w2.cell? ⟨w.heap.size, 1, none⟩ = some (.slice ca nC ck) := by simp [World.cell?, k2]
    have e0 : w2.cell? ⟨w.heap.size + 1, 0, none⟩ = some (.int .i64 a) := by simp [World.cell?, k3]
    have e1 : w2.cell? ⟨w.heap.size + 1, 1, none⟩ = some (.int .i64 m) := by simp [World.cell?, k3]
    have oc0 : w2.cell? ⟨w.heap.size + 2, 0, none⟩ = some (.slice none 0 0) := by simp [World.cell?, k4]
    have of0 : w2.frozen? ⟨w.heap.size + 2, 0, none⟩ = false := by simp [World.frozen?, k4]
    have oc1 : w2.cell? ⟨w.heap.size + 2, 1, none⟩ = some (.slice none 0 0) := by simp [World.cell?, k4]
    have of1 : w2.frozen? ⟨w.heap.size + 2, 1, none⟩ = false := by simp [World.frozen?, k4]
    have oc2 : w2.cell? ⟨w.heap.size + 2, 2, none⟩ = some (.string ⟨#[]⟩) := by simp [World.cell?, k4]
    have of2 : w2.frozen? ⟨w.heap.size + 2, 2, none⟩ = false := by simp [World.frozen?, k4]
    have oc3 : w2.cell? ⟨w.heap.size + 2, 3, none⟩ = some (.int .i64 0) := by simp [World.cell?, k4]
    have of3 : w2.frozen? ⟨w.heap.size + 2, 3, none⟩ = false := by simp [World.frozen?, k4]
    clear k2 k3 k4 k5 HS1 hb2 I1
    cases r with
    | false =>
      have RE := hide (show ¬ extOk a m (nS : Int) from fun h => by have := hr.2 h; cases this)
      have HR := hide HS2.out.2.2.1
      have HB := hide HS2.out.2.2.2
      clear hr
      go_wp2_with fail
      have fin := set4_blk w2 (w.heap.size + 2) _ _ _ _ (.slice none 0 0) (.slice none 0 0) (.string ⟨#[]⟩) (.int .i64 8) _ HR.out
      have hbf := below_set4 HB.out (w.heap.size + 2) (by omega) (.slice none 0 0) (.slice none 0 0) (.string ⟨#[]⟩) (.int .i64 8)
      exact bodyPost_ret (results_cell_row Try.results12 _ _ (w.heap.size + 2) 30 #[.slice none 0 0, .slice none 0 0, .string ⟨#[]⟩, .int .i64 8] (0, 0) _ rfl fin Try.underlying30 rfl (by kernel_rfl)) rfl ⟨_, _, rfl, .inr (.inl ⟨R.out, RE.out, rfl, rfl⟩), hbf⟩
    | true =>
      have hE := hr.1 rfl
      have RE := hide hE
      unfold extOk at hE
      obtain ⟨m, rfl⟩ : ∃ k : Nat, m = (k : Int) := ⟨m.toNat, by omega⟩
      obtain ⟨a, rfl⟩ : ∃ k : Nat, a = (k : Int) := ⟨a.toNat, by omega⟩
      have hm2 : m ≤ 20000 := by omega
      have hfit : 64 * a + m ≤ 64 * nS := by simp only [Int.toNat_natCast] at hE; omega
      have SR := hide (spec_l09Read _ nS S nC A X a m w2 R.out hm2 hfit I2.out)
      obtain ⟨TX, hTX⟩ : ∃ TX : ByteArray, TX = ⟨(dL (flS S A X (fun _ => true) nC) (64 * a) m).toArray⟩ := ⟨_, rfl⟩
      rw [← hTX] at SR
      have HTX := hide hTX
      clear hr hE hTX
      clear oc0 of0 oc1 of1 oc2 of2 oc3 of3
      go_wp2_with fail
      refine SR.out.mono ?_
      rintro e w3 ⟨rfl, hb3⟩
      clear b0 b1 e0 e1
      obtain ⟨k2, k3, k4, k5⟩ := HS2.out
      replace k2 := (hb3.block w.heap.size (by have := k5.size; omega)).trans k2
      replace k3 := (hb3.block (w.heap.size + 1) (by have := (Array.getElem?_eq_some_iff.1 k4).1; omega)).trans k3
      replace k4 := (hb3.block (w.heap.size + 2) (Array.getElem?_eq_some_iff.1 k4).1).trans k4
      replace k5 := k5.trans (hb3.mono k5.size)
      have HS3 := hide (And.intro k2 (And.intro k3 (And.intro k4 k5)))
      have oc0 : w3.cell? ⟨w.heap.size + 2, 0, none⟩ = some (.slice none 0 0) := by simp [World.cell?, k4]
      have of0 : w3.frozen? ⟨w.heap.size + 2, 0, none⟩ = false := by simp [World.frozen?, k4]
      have oc1 : w3.cell? ⟨w.heap.size + 2, 1, none⟩ = some (.slice none 0 0) := by simp [World.cell?, k4]
      have of1 : w3.frozen? ⟨w.heap.size + 2, 1, none⟩ = false := by simp [World.frozen?, k4]
      have oc2 : w3.cell? ⟨w.heap.size + 2, 2, none⟩ = some (.string ⟨#[]⟩) := by simp [World.cell?, k4]
      have of2 : w3.frozen? ⟨w.heap.size + 2, 2, none⟩ = false := by simp [World.frozen?, k4]
      have oc3 : w3.cell? ⟨w.heap.size + 2, 3, none⟩ = some (.int .i64 0) := by simp [World.cell?, k4]
      have of3 : w3.frozen? ⟨w.heap.size + 2, 3, none⟩ = false := by simp [World.frozen?, k4]
      have HR := hide HS3.out.2.2.1
      have HB := hide HS3.out.2.2.2
      clear hb3 I2 HS2 SR k2 k3 k4 k5
      go_wp2_with fail
      have fin := set4_blk w3 (w.heap.size + 2) _ _ _ _ (.slice none 0 0) (.slice none 0 0) (.string TX) (.int .i64 0) _ HR.out
      have hbf := below_set4 HB.out (w.heap.size + 2) (by omega) (.slice none 0 0) (.slice none 0 0) (.string TX) (.int .i64 0)
      exact bodyPost_ret (results_cell_row Try.results12 _ _ (w.heap.size + 2) 30 #[.slice none 0 0, .slice none 0 0, .string TX, .int .i64 0] (0, 0) _ rfl fin Try.underlying30 rfl (by kernel_rfl)) rfl ⟨_, _, rfl, .inr (.inr ⟨R.out, RE.out, by rw [HTX.out]; rfl, rfl⟩), hbf⟩
end Go.Proofs.Ytipeelkmmjgehaa

/- FeM, ExtPt, ExtPs, ExtE, ExtW, ExtWs, ExtTr, ExtRd, one behind the other. -/
import Derived.Test.YtipeelkmmjgehaaZ1
import Derived.Test.YtipeelkmmjgehaaExtS
import Derived.Test.YtipeelkmmjgehaaDskX
import Derived.Test.YtipeelkmmjgehaaOwn
import Derived.Test.YtipeelkmmjgehaaDkW
/- What the law of extents needs to know of a patched disk and of a written extent. -/
namespace Go.Proofs.Ytipeelkmmjgehaa
open Go Go.RowKit
theorem flP_old (S : Nat → ByteArray) (A : Nat → Int) (X : Nat → ByteArray) (nC : Nat) (a : Int) (F : Nat → ByteArray) (p0 : Nat) (t : ByteArray) : ∀ n, n ≤ nC → ∀ j, flS S (wrA A nC a) (patX X nC F p0 t) (fun _ => true) n j = flS S A X (fun _ => true) n j
  | 0, _, _ => rfl
  | n + 1, h, j => by
    show (if true = true ∧ (j : Int) = wrA A nC a n then patX X nC F p0 t n else flS S (wrA A nC a) (patX X nC F p0 t) (fun _ => true) n j) = if true = true ∧ (j : Int) = A n then X n else flS S A X (fun _ => true) n j
    have e1 : wrA A nC a n = A n := if_pos (by omega)
    have e2 : patX X nC F p0 t n = X n := if_pos (by omega)
    rw [flP_old S A X nC a F p0 t n (by omega) j, e1, e2]
theorem flP_new (S : Nat → ByteArray) (A : Nat → Int) (X : Nat → ByteArray) (nC : Nat) (F : Nat → ByteArray) (p0 : Nat) (t : ByteArray) : ∀ m j, flS S (wrA A nC ((p0 / 64 : Nat) : Int)) (patX X nC F p0 t) (fun _ => true) (nC + m) j = if p0 / 64 ≤ j ∧ j < p0 / 64 + m then patS F p0 t j else flS S A X (fun _ => true) nC j
  | 0, j => by
    rw [if_neg (by omega)]
    exact flP_old S A X nC _ F p0 t nC (Nat.le_refl _) j
  | m + 1, j => by
    show (if true = true ∧ (j : Int) = wrA A nC ((p0 / 64 : Nat) : Int) (nC + m) then patX X nC F p0 t (nC + m) else flS S (wrA A nC ((p0 / 64 : Nat) : Int)) (patX X nC F p0 t) (fun _ => true) (nC + m) j) = _
    obtain ⟨a, ha⟩ : ∃ a, a = p0 / 64 := ⟨_, rfl⟩
    have e1 : wrA A nC ((p0 / 64 : Nat) : Int) (nC + m) = ((p0 / 64 : Nat) : Int) + (m : Int) := by unfold wrA; rw [if_neg (by omega), show nC + m - nC = m by omega]
    have e2 : patX X nC F p0 t (nC + m) = patS F p0 t (p0 / 64 + m) := by unfold patX; rw [if_neg (by omega), show nC + m - nC = m by omega]
    rw [flP_new S A X nC F p0 t m j, e1, e2, ← ha]
    by_cases h : j = a + m
    · rw [if_pos ⟨rfl, by omega⟩, if_pos (by omega), h]
    · rw [if_neg (show ¬ (true = true ∧ (j : Int) = (a : Int) + (m : Int)) by omega)]
      by_cases h2 : a ≤ j ∧ j < a + m
      · rw [if_pos h2, if_pos (by omega)]
      · rw [if_neg h2, if_neg (by omega)]
/-- The bytes of a patched disk. -/
theorem dB_pat (S : Nat → ByteArray) (A : Nat → Int) (X : Nat → ByteArray) (nC p0 : Nat) (t : ByteArray) (p : Nat) :
    dB (flS S (wrA A nC ((p0 / 64 : Nat) : Int)) (patX X nC (flS S A X (fun _ => true) nC) p0 t) (fun _ => true) (nC + touchN p0 t.size)) p = pB (flS S A X (fun _ => true) nC) p0 t p := by
  unfold dB
  rw [flP_new]
  by_cases c : p0 / 64 ≤ p / 64 ∧ p / 64 < p0 / 64 + touchN p0 t.size
  · rw [if_pos c, patS_bF _ _ _ _ _ (by omega), show 64 * (p / 64) + p % 64 = p by omega]
  · rw [if_neg c]
    unfold pB
    rw [if_neg (by
      intro h
      apply c
      unfold touchN
      rw [if_neg (by omega)]
      omega)]
    rfl
theorem dL_ext (F : Nat → ByteArray) (p N a b : Nat) (hab : a ≤ b) (hb : b ≤ N) : (⟨(dL F p N).toArray⟩ : ByteArray).extract a b = ⟨(dL F (p + a) (b - a)).toArray⟩ := by
  apply ByteArray.ext
  rw [ByteArray.data_extract]
  show (dL F p N).toArray.extract a b = (dL F (p + a) (b - a)).toArray
  obtain ⟨k, rfl⟩ : ∃ k, N = a + ((b - a) + k) := ⟨N - b, by omega⟩
  rw [dL_add, dL_add, List.extract_toArray, List.extract_eq_take_drop, List.drop_left' (dL_len _ _ _), List.take_left' (dL_len _ _ _)]
theorem dL_congr (F G : Nat → ByteArray) (p n : Nat) (h : ∀ i, i < n → dB F (p + i) = dB G (p + i)) : dL F p n = dL G p n := by
  unfold dL
  apply List.map_congr_left
  intro j hj
  exact h j (List.mem_range.1 hj)
/-- The text of a patched disk: the old one, with the new bytes in the place of those from p0 on. -/
theorem pat_text (S : Nat → ByteArray) (A : Nat → Int) (X : Nat → ByteArray) (nC p0 N : Nat) (t : ByteArray) (h : p0 + t.size ≤ N) :
    (⟨(dL (flS S (wrA A nC ((p0 / 64 : Nat) : Int)) (patX X nC (flS S A X (fun _ => true) nC) p0 t) (fun _ => true) (nC + touchN p0 t.size)) 0 N).toArray⟩ : ByteArray) =
      ((⟨(dL (flS S A X (fun _ => true) nC) 0 N).toArray⟩ : ByteArray).extract 0 p0 ++ t) ++ (⟨(dL (flS S A X (fun _ => true) nC) 0 N).toArray⟩ : ByteArray).extract (p0 + t.size) N := by
  have hp := fun p => dB_pat S A X nC p0 t p
  generalize flS S (wrA A nC ((p0 / 64 : Nat) : Int)) (patX X nC (flS S A X (fun _ => true) nC) p0 t) (fun _ => true) (nC + touchN p0 t.size) = G at *
  generalize flS S A X (fun _ => true) nC = F at *
  rw [dL_ext F 0 N 0 p0 (by omega) (by omega), dL_ext F 0 N (p0 + t.size) N (by omega) (by omega)]
  apply ByteArray.ext
  rw [ByteArray.data_append, ByteArray.data_append]
  show (dL G 0 N).toArray = ((dL F (0 + 0) (p0 - 0)).toArray ++ t.data) ++ (dL F (0 + (p0 + t.size)) (N - (p0 + t.size))).toArray
  obtain ⟨k, hk⟩ : ∃ k, N = p0 + (t.size + k) := ⟨N - (p0 + t.size), by omega⟩
  have e0 : N - (p0 + t.size) = k := by omega
  rw [e0, hk, dL_add, dL_add, Nat.zero_add, Nat.zero_add, Nat.zero_add, Nat.sub_zero]
  have e1 : dL G 0 p0 = dL F 0 p0 := dL_congr G F 0 p0 (fun i hi => by rw [hp]; unfold pB; rw [if_neg (by omega)])
  have e2 : dL G p0 t.size = t.data.toList := by
    apply List.ext_getElem?
    intro j
    by_cases hj : j < t.size
    · rw [dL_at _ _ _ _ hj, bF_at t t.size rfl j hj, hp]
      unfold pB
      rw [if_pos (by omega), show p0 + j - p0 = j by omega]
    · rw [List.getElem?_eq_none (by rw [dL_len]; omega), List.getElem?_eq_none (by show t.size ≤ j; omega)]
  have e3 : dL G (p0 + t.size) k = dL F (p0 + t.size) k := dL_congr G F _ k (fun i hi => by rw [hp]; unfold pB; rw [if_neg (by omega)])
  rw [e1, e2, e3]
  apply Array.toList_inj.1
  simp
theorem dskOk_pat {nS : Nat} {S : Nat → ByteArray} {nC : Nat} {A : Nat → Int} {X : Nat → ByteArray} (F : Nat → ByteArray) (p0 : Nat) (t : ByteArray) (h : dskOk nS S nC A X) (hfit : p0 + t.size ≤ 64 * nS) (hK : nC + touchN p0 t.size ≤ 400) :
    dskOk nS S (nC + touchN p0 t.size) (wrA A nC ((p0 / 64 : Nat) : Int)) (patX X nC F p0 t) := by
  refine ⟨h.1, hK, h.2.2.1, fun j hj => ?_⟩
  unfold wrA patX
  by_cases c : j < nC
  · rw [if_pos c, if_pos c]; exact h.2.2.2 j c
  · rw [if_neg c, if_neg c]
    have hk : p0 / 64 + touchN p0 t.size ≤ nS ∨ touchN p0 t.size = 0 := by
      unfold touchN
      split
      · exact .inr rfl
      · left; omega
    exact ⟨by omega, by omega, patS_size _ _ _ _⟩
theorem dskOk_wr {nS : Nat} {S : Nat → ByteArray} {nC : Nat} {A : Nat → Int} {X : Nat → ByteArray} (a : Nat) (t : ByteArray) (h : dskOk nS S nC A X) (hr : (a : Int) ≤ (nS : Int) - (manyW t : Int)) (hK : nC + manyW t ≤ 400) :
    dskOk nS S (nC + manyW t) (wrA A nC (a : Int)) (wrX X nC t) := by
  refine ⟨h.1, hK, h.2.2.1, fun j hj => ?_⟩
  unfold wrA wrX
  by_cases c : j < nC
  · rw [if_pos c, if_pos c]; exact h.2.2.2 j c
  · rw [if_neg c, if_neg c]
    refine ⟨by omega, by omega, ?_⟩
    show (Array.size _) = 64
    simp
/-- What is read of a written extent. -/
theorem wr_text (S : Nat → ByteArray) (A : Nat → Int) (X : Nat → ByteArray) (nC a : Nat) (t : ByteArray) :
    (⟨(dL (flS S (wrA A nC (a : Int)) (wrX X nC t) (fun _ => true) (nC + manyW t)) (64 * a) t.size).toArray⟩ : ByteArray) = t := by
  have hle := manyW_le t
  have h1 : ∀ i, i < manyW t → flS S (wrA A nC (a : Int)) (wrX X nC t) (fun _ => true) (nC + manyW t) (a + i) = pieceS t i := fun i hi => by
    rw [flF_new, if_pos (by omega), show a + i - a = i by omega]
  have h2 : ∀ i, i < manyW t → (flS S (wrA A nC (a : Int)) (wrX X nC t) (fun _ => true) (nC + manyW t) (a + i)).size = 64 := fun i hi => by
    rw [h1 i hi]
    show (Array.size _) = 64
    simp
  generalize flS S (wrA A nC (a : Int)) (wrX X nC t) (fun _ => true) (nC + manyW t) = G at *
  rw [← dL_take G (64 * a) (64 * manyW t) t.size hle, ← catL_dL G a (manyW t) h2, catF_pieces G a t (manyW t) h1]
  exact padF_take t (manyW t) hle
end Go.Proofs.Ytipeelkmmjgehaa
/- The walk over the program's ExtentPatch (written by mkextpt.py). -/
namespace Go.Proofs.Ytipeelkmmjgehaa
open Go Go.RowKit
theorem own_news {w : World} {base e s n : Nat} {xa : Option Addr} {n2 c : Nat} {xs : List Value} (h : w.ownsRow base e s (.slice xa n2 c) n xs) : n = 0 ∨ ∃ ad, xa = some ad ∧ ∀ j u, xs[j]? = some u → w.cell? (ad.add j) = some u := by
  have h0 := h
  obtain ⟨hl, ⟨_, h1⟩ | ⟨g, cap, cur, e1, _, _, _, _, _, _⟩⟩ := h
  · exact .inl h1
  · cases e1
    refine .inr ⟨_, rfl, fun j u hj => ?_⟩
    have hj2 : j < n * s := by rw [← hl]; exact (List.getElem?_eq_some_iff.1 hj).1
    have := h0.cellAt j hj2
    have e : (⟨g, 0, none⟩ : Addr).add j = ⟨g, j, none⟩ := by by_cases hz : j = 0 <;> simp [Addr.add, hz]
    rw [e, this]; exact hj
set_option maxRecDepth 100000 in
set_option maxHeartbeats 3200000 in
theorem imp_extentPatch_long (v : Value) (nS : Nat) (S : Nat → ByteArray) (nC : Nat) (A : Nat → Int) (X : Nat → ByteArray) (a : Int) (t : ByteArray) (w : World) (hts : 20000 < t.size) (htm : t.size ≤ 9223372036854775807) (h : dskI w w.heap.size v nS S nC A X) :
    Calls Try.prog 10 #[v, .int .i64 a, .string t] w fun e w' => e = .returned (doutV (.slice none 0 0) (.slice none 0 0) ⟨#[]⟩ 2) ∧ Below w.heap.size w w' := by
  obtain ⟨sv, cv, rfl, hs, hc⟩ := h
  have HI := hide (show dskI w w.heap.size (.agg #[sv, cv]) nS S nC A X from ⟨sv, cv, rfl, hs, hc⟩)
  obtain ⟨sa, sk, e1⟩ : ∃ a c, sv = .slice a nS c := by obtain ⟨a, c, e, _⟩ := hs; exact ⟨a, c, e⟩
  obtain ⟨ca, ck, e2⟩ : ∃ a c, cv = .slice a nC c := by obtain ⟨a, c, e, _⟩ := hc; exact ⟨a, c, e⟩
  subst e1 e2
  clear hs hc
  have d1 : decide ((20000 : Int) < (t.size : Int)) = true := decide_eq_true (by omega)
  clear HI
  go_enter Try.func10, Try.ntmps10
  go_wp2_with fail
  go_returns
  exact ⟨rfl, by go_grown⟩
set_option maxRecDepth 100000 in
set_option maxHeartbeats 3200000 in
theorem imp_extentPatch (v : Value) (nS : Nat) (S : Nat → ByteArray) (nC : Nat) (A : Nat → Int) (X : Nat → ByteArray) (a : Int) (t : ByteArray) (w : World) (hts : t.size ≤ 20000) (hS : nS ≤ 1048576) (hC : nC ≤ 1048576) (h : dskI w w.heap.size v nS S nC A X) :
    Calls Try.prog 10 #[v, .int .i64 a, .string t] w fun e w' => ∃ sv cv c, e = .returned (doutV sv cv ⟨#[]⟩ c) ∧ ptCode nS S nC A X a t.size c ∧ (c ≠ 0 ∧ sv = .slice none 0 0 ∧ cv = .slice none 0 0 ∨ c = 0 ∧ ptGood nS S nC A X a t w w' sv cv) ∧ Below w.heap.size w w' := by
  obtain ⟨iw, hiw, hzw0, hzw1, hzw2⟩ := info_parts Try.infoWr
  obtain ⟨sv, cv, rfl, hs, hc⟩ := h
  have HI := hide (show dskI w w.heap.size (.agg #[sv, cv]) nS S nC A X from ⟨sv, cv, rfl, hs, hc⟩)
  obtain ⟨sa, sk, e1⟩ : ∃ a c, sv = .slice a nS c := by obtain ⟨a, c, e, _⟩ := hs; exact ⟨a, c, e⟩
  obtain ⟨ca, ck, e2⟩ : ∃ a c, cv = .slice a nC c := by obtain ⟨a, c, e, _⟩ := hc; exact ⟨a, c, e⟩
  subst e1 e2
  clear hs hc
  have d1 : decide ((20000 : Int) < (t.size : Int)) = false := decide_eq_false (by omega)
  have hts2 : (t.size : Int) ≤ 20000 := by omega
  have HQ := hide (box2 w (.cells #[.slice sa nS sk, .slice ca nC ck] 26) (.cells #[.slice none 0 0, .slice none 0 0, .string ⟨#[]⟩, .int .i64 0] 30))
  go_enter Try.func10, Try.ntmps10
  go_wp2_with fail
  obtain ⟨q0, q1, q2, q3⟩ := HQ.out
  generalize ((w.alloc (.cells #[.slice sa nS sk, .slice ca nC ck] 26)).alloc (.cells #[.slice none 0 0, .slice none 0 0, .string ⟨#[]⟩, .int .i64 0] 30)) = W2 at *
  have I2 : dskI W2 W2.heap.size (.agg #[.slice sa nS sk, .slice ca nC ck]) nS S nC A X := (HI.out.below q0).wide (by omega)
  have HS0 := hide (And.intro q2 (And.intro q3 q0))
  refine (imp_patchCode _ nS S nC A X a t.size W2 hS hC hts I2).mono ?_
  rintro e w1 ⟨c, rfl, hpc, hb1⟩
  clear q0 q2 q3 HQ
  obtain ⟨k2, k4, k5⟩ := HS0.out
  replace k2 := (hb1.block w.heap.size (by have := (Array.getElem?_eq_some_iff.1 k4).1; omega)).trans k2
  replace k4 := (hb1.block (w.heap.size + 1) (Array.getElem?_eq_some_iff.1 k4).1).trans k4
  replace k5 := k5.trans (hb1.mono k5.size)
  have HS1 := hide (And.intro k2 (And.intro k4 k5))
  have I1 := hide ((I2.below hb1).wide hb1.size)
  have hz1 := hb1.size
  have b0 : w1.cell? ⟨w.heap.size, 0, none⟩ = some (.slice sa nS sk) := by simp [World.cell?, k2]
  have b1 : w1.cell? ⟨w.heap.size, 1, none⟩ = some (.slice ca nC ck) := by simp [World.cell?, k2]
  have oc0 : w1.cell? ⟨w.heap.size + 1, 0, none⟩ = some (.slice none 0 0) := by simp [World.cell?, k4]
  have of0 : w1.frozen? ⟨w.heap.size + 1, 0, none⟩ = false := by simp [World.frozen?, k4]
  have oc1 : w1.cell? ⟨w.heap.size + 1, 1, none⟩ = some (.slice none 0 0) := by simp [World.cell?, k4]
  have of1 : w1.frozen? ⟨w.heap.size + 1, 1, none⟩ = false := by simp [World.frozen?, k4]
  have oc2 : w1.cell? ⟨w.heap.size + 1, 2, none⟩ = some (.string ⟨#[]⟩) := by simp [World.cell?, k4]
  have of2 : w1.frozen? ⟨w.heap.size + 1, 2, none⟩ = false := by simp [World.frozen?, k4]
  have oc3 : w1.cell? ⟨w.heap.size + 1, 3, none⟩ = some (.int .i64 0) := by simp [World.cell?, k4]
  have of3 : w1.frozen? ⟨w.heap.size + 1, 3, none⟩ = false := by simp [World.frozen?, k4]
  clear k2 k4 k5 HS0 hb1 I2
  have PC := hide hpc
  by_cases hc0 : c = 0
  case neg =>
    have dc : (c != 0) = true := by simp [hc0]
    have HR := hide HS1.out.2.1
    have HB := hide HS1.out.2.2
    have HC0 := hide hc0
    clear hpc hc0
    go_wp2_with fail
    have fin := set4_blk w1 (w.heap.size + 1) _ _ _ _ (.slice none 0 0) (.slice none 0 0) (.string ⟨#[]⟩) (.int .i64 c) _ HR.out
    have hbf := below_set4 HB.out (w.heap.size + 1) (by omega) (.slice none 0 0) (.slice none 0 0) (.string ⟨#[]⟩) (.int .i64 c)
    exact bodyPost_ret (results_cell_row Try.results10 _ _ (w.heap.size + 1) 30 #[.slice none 0 0, .slice none 0 0, .string ⟨#[]⟩, .int .i64 c] (0, 0) _ rfl fin Try.underlying30 rfl (by kernel_rfl)) rfl ⟨_, _, _, rfl, PC.out, .inl ⟨HC0.out, rfl, rfl⟩, hbf⟩
  subst hc0
  obtain ⟨hok, hr, hfull⟩ : dskOk nS S nC A X ∧ (0 ≤ a ∧ a ≤ 64 * (nS : Int) - (t.size : Int)) ∧ nC + touchN a.toNat t.size ≤ 400 := by
    rcases hpc with ⟨h, _⟩ | ⟨h, _⟩ | ⟨h, _⟩ | ⟨_, h1, h2, h3⟩
    · cases h
    · cases h
    · cases h
    · exact ⟨h1, h2, h3⟩
  have hn6 := hok.1
  have hn4 := hok.2.1
  obtain ⟨p0, rfl⟩ : ∃ p : Nat, a = (p : Int) := ⟨a.toNat, by omega⟩
  obtain ⟨n, hn⟩ : ∃ n, n = t.size := ⟨_, rfl⟩
  obtain ⟨K, hK⟩ : ∃ K, K = touchN p0 n := ⟨_, rfl⟩
  have hfit : p0 + n ≤ 64 * nS := by omega
  have hpb : (p0 : Int) ≤ 39680 := by omega
  have hnK : nC + K ≤ 400 := by rw [hK, hn]; exact hfull
  have HN := hide (And.intro hn hK)
  have R := hide hok
  clear hpc hok hr hfull hn hK
  clear oc0 of0 oc1 of1 oc2 of2 oc3 of3
  go_wp2_with fail
  refine (imp_viewOf _ nS S nC A X w1 R.out I1.out).mono ?_
  rintro e w3 ⟨o, rfl, hv, hb3⟩
  obtain ⟨sa2, sk2, mb, rfl, _⟩ := id hv
  have HV := hide hv
  clear b0 b1
  obtain ⟨k2, k4, k5⟩ := HS1.out
  replace k2 := (hb3.block w.heap.size (by have := (Array.getElem?_eq_some_iff.1 k4).1; omega)).trans k2
  replace k4 := (hb3.block (w.heap.size + 1) (Array.getElem?_eq_some_iff.1 k4).1).trans k4
  replace k5 := k5.trans (hb3.mono k5.size)
  have HS3 := hide (And.intro k2 (And.intro k4 k5))
  have I3 := hide ((I1.out.below hb3).wide hb3.size)
  have hz3 := hb3.size
  have hw3 : w.heap.size + 1 < w3.heap.size := (Array.getElem?_eq_some_iff.1 k4).1
  have al0 : Below w3.heap.size w3 (w3.alloc (.cells #[.slice sa2 nS sk2, .map (some mb), .slice none 0 0] 65)) := (Below.refl _ _).alloc (Nat.le_refl _) _
  have al1 : (w3.alloc (.cells #[.slice sa2 nS sk2, .map (some mb), .slice none 0 0] 65)).heap[w3.heap.size]? = some (.cells #[.slice sa2 nS sk2, .map (some mb), .slice none 0 0] 65) := heap_alloc_new _ _
  have al2 : (w3.alloc (.cells #[.slice sa2 nS sk2, .map (some mb), .slice none 0 0] 65)).heap.size = w3.heap.size + 1 := World.size_alloc _ _
  obtain ⟨cp, W5, hcv, hcp1, hcp2, z5, bl0, hrg⟩ := text_row (P := Try.prog) (w3.alloc (.cells #[.slice sa2 nS sk2, .map (some mb), .slice none 0 0] 65)) 9 22 5 t n HN.out.1.symm (by omega) Try.underlying9 Try.underlying22 Try.underlying5
  have HS5 := hide (show W5.heap[w.heap.size]? = some (.cells #[.slice sa nS sk, .slice ca nC ck] 26) ∧ W5.heap[w.heap.size + 1]? = some (.cells #[.slice none 0 0, .slice none 0 0, .string ⟨#[]⟩, .int .i64 0] 30) ∧ Below w.heap.size w W5 ∧ Below w3.heap.size w3 W5 ∧ W5.heap[w3.heap.size]? = some (.cells #[.slice sa2 nS sk2, .map (some mb), .slice none 0 0] 65) ∧ W5.rangeAt (w3.heap.size + 1) 0 (bL n (bF t)) from
    ⟨(bl0.block w.heap.size (by omega)).trans ((al0.block w.heap.size (by omega)).trans k2), (bl0.block (w.heap.size + 1) (by omega)).trans ((al0.block (w.heap.size + 1) hw3).trans k4), (k5.trans (al0.mono k5.size)).trans (bl0.mono (by omega)), al0.trans (bl0.mono (by omega)), (bl0.block w3.heap.size (by omega)).trans al1, by have hrg2 := hrg.range; rw [al2] at hrg2; exact hrg2⟩)
  replace z5 : W5.heap.size = w3.heap.size + 2 := by omega
  have z5b : w3.heap.size + 1 < W5.heap.size := by omega
  clear hb3 I1 HS1 HS3 hv k2 k4 k5 al0 al1 bl0 hrg
  go_wp2_with fail
  clear hcv al2
  obtain ⟨FF, hFF⟩ : ∃ FF, FF = flS S A X (fun _ => true) nC := ⟨_, rfl⟩
  have hFz : ∀ j, j < nS → FF j = (latM A X nC (j : Int)).getD (S j) ∧ (FF j).size = 64 := fun j hj => ⟨by rw [hFF]; exact flS_lat2 S A X nC j, by rw [hFF]; exact flS_size S A X _ nS R.out.2.2.1 nC (fun j hj => (R.out.2.2.2 j hj).2.2) j hj⟩
  have HFF := hide hFF
  clear hFF
  refine (imp_through_patch w3.heap.size (w3.heap.size + 1) n cp p0 nS sk2 nC mb sa2 (some ⟨w3.heap.size + 1, 0, none⟩) S (latM A X nC) FF t W5 hn6 hfit HN.out.1.symm hcp1 (by unfold maxLen at hcp2; omega) hFz (HV.out.below HS5.out.2.2.2.1) HS5.out.2.2.2.2.1 (.inr ⟨rfl, by omega, by omega, HS5.out.2.2.2.2.2⟩)).mono ?_
  rintro e w6 ⟨rfl, wa, wcp, ho6, hw6, hg6⟩
  rw [← HN.out.2] at ho6 hw6
  have hz6 := hg6.size
  have B36 : Below w3.heap.size w3 w6 := HS5.out.2.2.2.1.grown hg6 (by omega) (fun x hx => by cases hx; exact Nat.le_refl _)
  have k2 := (hg6.block w.heap.size (by omega) (by simp; omega)).trans HS5.out.1
  have k4 := (hg6.block (w.heap.size + 1) (by omega) (by simp; omega)).trans HS5.out.2.1
  have k5 := HS5.out.2.2.1.grown hg6 (by omega) (fun x hx => by cases hx; omega)
  have HO6 := hide ho6
  have HS6 := hide (And.intro k4 (And.intro k5 hw6))
  have I6 : dskI w6 w6.heap.size (.agg #[.slice sa nS sk, .slice ca nC ck]) nS S nC A X := (I3.out.below B36).wide B36.size
  have CP := hide (imp_copiedO _ nS S nC A X w6 hS hC (fun j hj => by have := R.out.2.2.1 j hj; omega) (fun j hj => by have := (R.out.2.2.2 j hj).2.2; omega) I6)
  have b0 : w6.cell? ⟨w.heap.size, 0, none⟩ = some (.slice sa nS sk) := by simp [World.cell?, k2]
  have b1 : w6.cell? ⟨w.heap.size, 1, none⟩ = some (.slice ca nC ck) := by simp [World.cell?, k2]
  clear k2 k4 k5 ho6 hw6 hg6 HS5 I3 I6 B36 HV
  go_wp2_with fail
  refine CP.out.mono ?_
  rintro e w7 ⟨s1, s2, rfl, o1, o2, hap, hb7⟩
  obtain ⟨a1, c1, ea⟩ := own_slice o1
  obtain ⟨a2, c2, eb⟩ := own_slice o2
  subst ea eb
  have hz7 := hb7.size
  have y0 : Below w7.heap.size w7 (w7.alloc (.cells #[.slice a1 nS c1, .slice a2 nC c2] 26)) := (Below.refl _ _).alloc (Nat.le_refl _) _
  have y1 : (w7.alloc (.cells #[.slice a1 nS c1, .slice a2 nC c2] 26)).heap[w7.heap.size]? = some (.cells #[.slice a1 nS c1, .slice a2 nC c2] 26) := heap_alloc_new _ _
  have y2 : w7.heap.size < (w7.alloc (.cells #[.slice a1 nS c1, .slice a2 nC c2] 26)).heap.size := by simp
  have b68 := hb7.trans (y0.mono hz7)
  have O1 := hide (own_of_block o1 (fun b hb => y0.block b (o1.lt b hb).2))
  have O2 := hide (own_of_block o2 (fun b hb => y0.block b (o2.lt b hb).2))
  have OLT := hide (And.intro (fun b h => (o1.lt b h).2) (fun b h => (o2.lt b h).2))
  have OK6 := hide (own_of_block HO6.out (fun b hb => b68.block b (HO6.out.lt b hb).2))
  have HAP := hide hap
  have HS8 := hide (show (w7.alloc (.cells #[.slice a1 nS c1, .slice a2 nC c2] 26)).heap[w.heap.size + 1]? = some (.cells #[.slice none 0 0, .slice none 0 0, .string ⟨#[]⟩, .int .i64 0] 30) ∧ Below w.heap.size w (w7.alloc (.cells #[.slice a1 nS c1, .slice a2 nC c2] 26)) ∧ (w7.alloc (.cells #[.slice a1 nS c1, .slice a2 nC c2] 26)).heap[w3.heap.size]? = some (.cells #[.slice sa2 nS sk2, .map (some mb), .slice wa K wcp] 65) ∧ (w7.alloc (.cells #[.slice a1 nS c1, .slice a2 nC c2] 26)).heap[w7.heap.size]? = some (.cells #[.slice a1 nS c1, .slice a2 nC c2] 26) from
    ⟨(b68.block _ (by omega)).trans HS6.out.1, HS6.out.2.1.trans (b68.mono (by omega)), (b68.block _ (by omega)).trans HS6.out.2.2, y1⟩)
  have w2c : (w7.alloc (.cells #[.slice a1 nS c1, .slice a2 nC c2] 26)).cell? ⟨w3.heap.size, 2, none⟩ = some (.slice wa K wcp) := by have h := HS8.out.2.2.1; simp [World.cell?, h]
  clear o1 o2 hap hb7 b0 b1 CP y0 y1 b68 HO6 HS6
  go_wp2_with (at_builtin; refine wpList_append_any _ rfl (.tmp 33) (.tmp 35) 24 rfl w6.heap.size 74 iw (.agg #[.int .i64 0, .string ⟨#[]⟩]) 2 24 Try.underlying24 hiw hzw0 hzw1 hzw2 rfl (by decide) (.slice a2 nC c2) nC _ rfl O2.out wa K wcp _ rfl (wL_len _ _ _) (own_news OK6.out) (wL_one _ _ _) (by unfold maxLen; omega) (by omega) (by omega) ?_; intro v9 w9 o9 g9 t9; obtain ⟨a9, c9, e9⟩ := own_slice o9; subst e9; have nb : ∀ b, b < w6.heap.size ∨ b = w7.heap.size → some b ≠ (Value.slice a2 nC c2).ownBlock := (fun b h1 h2 => by have h3 := (O2.out.lt b h2.symm).1; have h4 := OLT.out.2 b h2.symm; omega); have q9 := (g9.block w7.heap.size y2 (nb _ (.inr rfl))).trans HS8.out.2.2.2; have d90 : w9.cell? ⟨w7.heap.size, 0, none⟩ = some (.slice a1 nS c1) := (by simp [World.cell?, q9]); have d91 : w9.cell? ⟨w7.heap.size, 1, none⟩ = some (.slice a2 nC c2) := (by simp [World.cell?, q9]); have z91 : w9.frozen? ⟨w7.heap.size, 1, none⟩ = false := (by simp [World.frozen?, q9]); have k4 := (g9.block (w.heap.size + 1) (by omega) (nb _ (.inl (by omega)))).trans HS8.out.1; have oc0 : w9.cell? ⟨w.heap.size + 1, 0, none⟩ = some (.slice none 0 0) := (by simp [World.cell?, k4]); have of0 : w9.frozen? ⟨w.heap.size + 1, 0, none⟩ = false := (by simp [World.frozen?, k4]); have oc1 : w9.cell? ⟨w.heap.size + 1, 1, none⟩ = some (.slice none 0 0) := (by simp [World.cell?, k4]); have of1 : w9.frozen? ⟨w.heap.size + 1, 1, none⟩ = false := (by simp [World.frozen?, k4]); have oc2 : w9.cell? ⟨w.heap.size + 1, 2, none⟩ = some (.string ⟨#[]⟩) := (by simp [World.cell?, k4]); have of2 : w9.frozen? ⟨w.heap.size + 1, 2, none⟩ = false := (by simp [World.frozen?, k4]); have oc3 : w9.cell? ⟨w.heap.size + 1, 3, none⟩ = some (.int .i64 0) := (by simp [World.cell?, k4]); have of3 : w9.frozen? ⟨w.heap.size + 1, 3, none⟩ = false := (by simp [World.frozen?, k4]); have Q9 := hide q9; have K4 := hide k4; have O9 := hide o9; have G9 := hide g9; have T9 := hide t9; have hz9 := g9.size; clear q9 k4 o9 g9 t9 nb w2c)
  have HR := hide (show (w9.setCell ⟨w7.heap.size, 1, none⟩ (.slice a9 (nC + K) c9)).heap[w.heap.size + 1]? = some (.cells #[.slice none 0 0, .slice none 0 0, .string ⟨#[]⟩, .int .i64 0] 30) from (set1_o _ _ _ _ _ (by omega)).trans K4.out)
  have HB := hide (show Below w.heap.size w (w9.setCell ⟨w7.heap.size, 1, none⟩ (.slice a9 (nC + K) c9)) from below_set (HS8.out.2.1.grown G9.out (by omega) (fun x hx => by have := (O2.out.lt x hx).1; omega)) _ 1 (by omega) _)
  have NE9 : ∀ b, (Value.slice a9 (nC + K) c9).ownBlock = some b → b ≠ w7.heap.size := fun b hb => by
    rcases T9.out b hb with h | h
    · have := OLT.out.2 b h; omega
    · omega
  have u1 := own_of_block O1.out (w' := (w9.setCell ⟨w7.heap.size, 1, none⟩ (.slice a9 (nC + K) c9))) (fun b hb => (set1_o _ _ _ _ _ (by have := OLT.out.1 b hb; omega)).trans (G9.out.block b (O1.out.lt b hb).2 (fun e => HAP.out b hb e.symm)))
  have u2 := own_of_block O9.out (w' := (w9.setCell ⟨w7.heap.size, 1, none⟩ (.slice a9 (nC + K) c9))) (fun b hb => set1_o _ _ _ _ _ (NE9 b hb))
  have u3 : apartV (.slice a1 nS c1) (.slice a9 (nC + K) c9) := fun b hb e => by
    rcases T9.out b e with h | h
    · exact HAP.out b hb h
    · have := OLT.out.1 b hb; omega
  have hzu : (w9.setCell ⟨w7.heap.size, 1, none⟩ (.slice a9 (nC + K) c9)).heap.size = w9.heap.size := by simp [World.setCell]
  have hw98 : w.heap.size + 1 < w9.heap.size := by omega
  clear O1 O9 G9 T9 HAP K4 Q9 d90 d91 z91 HS8 OK6
  generalize (w9.setCell ⟨w7.heap.size, 1, none⟩ (.slice a9 (nC + K) c9)) = w10 at *
  have u7 : ∀ g, g ≠ w.heap.size + 1 → ((((w10.setCell ⟨w.heap.size + 1, 0, none⟩ (.slice a1 nS c1)).setCell ⟨w.heap.size + 1, 1, none⟩ (.slice a9 (nC + K) c9)).setCell ⟨w.heap.size + 1, 2, none⟩ (.string ⟨#[]⟩)).setCell ⟨w.heap.size + 1, 3, none⟩ (.int .i64 0)).heap[g]? = w10.heap[g]? := fun g hg => (set1_o _ _ _ _ _ hg).trans ((set1_o _ _ _ _ _ hg).trans ((set1_o _ _ _ _ _ hg).trans (set1_o _ _ _ _ _ hg)))
  have u4 := own_base (own_of_block u1 (w' := ((((w10.setCell ⟨w.heap.size + 1, 0, none⟩ (.slice a1 nS c1)).setCell ⟨w.heap.size + 1, 1, none⟩ (.slice a9 (nC + K) c9)).setCell ⟨w.heap.size + 1, 2, none⟩ (.string ⟨#[]⟩)).setCell ⟨w.heap.size + 1, 3, none⟩ (.int .i64 0))) (fun b hb => u7 b (by have := (u1.lt b hb).1; omega))) (show w.heap.size ≤ w6.heap.size by omega)
  have u5 := own_base (own_of_block u2 (w' := ((((w10.setCell ⟨w.heap.size + 1, 0, none⟩ (.slice a1 nS c1)).setCell ⟨w.heap.size + 1, 1, none⟩ (.slice a9 (nC + K) c9)).setCell ⟨w.heap.size + 1, 2, none⟩ (.string ⟨#[]⟩)).setCell ⟨w.heap.size + 1, 3, none⟩ (.int .i64 0))) (fun b hb => u7 b (by have := (u2.lt b hb).1; omega))) (show w.heap.size ≤ w6.heap.size by omega)
  rw [← wL_app] at u5
  have e1 : touchN (p0 : Int).toNat t.size = K := by rw [HN.out.2, HN.out.1]; rfl
  have fin := set4_blk w10 (w.heap.size + 1) _ _ _ _ (.slice a1 nS c1) (.slice a9 (nC + K) c9) (.string ⟨#[]⟩) (.int .i64 0) _ HR.out
  have hbf := below_set4 HB.out (w.heap.size + 1) (by omega) (.slice a1 nS c1) (.slice a9 (nC + K) c9) (.string ⟨#[]⟩) (.int .i64 0)
  exact bodyPost_ret (results_cell_row Try.results10 _ _ (w.heap.size + 1) 30 #[.slice a1 nS c1, .slice a9 (nC + K) c9, .string ⟨#[]⟩, .int .i64 0] (0, 0) _ rfl fin Try.underlying30 rfl (by kernel_rfl)) rfl ⟨_, _, _, rfl, PC.out, .inr ⟨rfl, u4, by rw [e1, ← HFF.out]; exact u5, u3⟩, hbf⟩
end Go.Proofs.Ytipeelkmmjgehaa
/- The walk over the model's ExtentPatch (written by mkextps.py). -/
namespace Go.Proofs.Ytipeelkmmjgehaa
open Go Go.RowKit
set_option maxRecDepth 100000 in
set_option maxHeartbeats 3200000 in
theorem spec_extentPatch_long (v : Value) (nS : Nat) (S : Nat → ByteArray) (nC : Nat) (A : Nat → Int) (X : Nat → ByteArray) (a : Int) (t : ByteArray) (w : World) (hts : 20000 < t.size) (htm : t.size ≤ 9223372036854775807) (h : dskI w w.heap.size v nS S nC A X) :
    Calls Try.prog 11 #[v, .int .i64 a, .string t] w fun e w' => e = .returned (doutV (.slice none 0 0) (.slice none 0 0) ⟨#[]⟩ 2) ∧ Below w.heap.size w w' := by
  obtain ⟨sv, cv, rfl, hs, hc⟩ := h
  have HI := hide (show dskI w w.heap.size (.agg #[sv, cv]) nS S nC A X from ⟨sv, cv, rfl, hs, hc⟩)
  obtain ⟨sa, sk, e1⟩ : ∃ a c, sv = .slice a nS c := by obtain ⟨a, c, e, _⟩ := hs; exact ⟨a, c, e⟩
  obtain ⟨ca, ck, e2⟩ : ∃ a c, cv = .slice a nC c := by obtain ⟨a, c, e, _⟩ := hc; exact ⟨a, c, e⟩
  subst e1 e2
  clear hs hc
  have d1 : decide ((20000 : Int) < (t.size : Int)) = true := decide_eq_true (by omega)
  clear HI
  go_enter Try.func11, Try.ntmps11
  go_wp2_with fail
  go_returns
  exact ⟨rfl, by go_grown⟩
set_option maxRecDepth 100000 in
set_option maxHeartbeats 3200000 in
theorem spec_extentPatch (v : Value) (nS : Nat) (S : Nat → ByteArray) (nC : Nat) (A : Nat → Int) (X : Nat → ByteArray) (a : Int) (t : ByteArray) (w : World) (hts : t.size ≤ 20000) (hS : nS ≤ 1048576) (hC : nC ≤ 1048576) (h : dskI w w.heap.size v nS S nC A X) :
    Calls Try.prog 11 #[v, .int .i64 a, .string t] w fun e w' => ∃ sv cv c, e = .returned (doutV sv cv ⟨#[]⟩ c) ∧ ptCode nS S nC A X a t.size c ∧ (c ≠ 0 ∧ sv = .slice none 0 0 ∧ cv = .slice none 0 0 ∨ c = 0 ∧ ptGood nS S nC A X a t w w' sv cv) ∧ Below w.heap.size w w' := by
  obtain ⟨sv, cv, rfl, hs, hc⟩ := h
  have HI := hide (show dskI w w.heap.size (.agg #[sv, cv]) nS S nC A X from ⟨sv, cv, rfl, hs, hc⟩)
  obtain ⟨sa, sk, e1⟩ : ∃ a c, sv = .slice a nS c := by obtain ⟨a, c, e, _⟩ := hs; exact ⟨a, c, e⟩
  obtain ⟨ca, ck, e2⟩ : ∃ a c, cv = .slice a nC c := by obtain ⟨a, c, e, _⟩ := hc; exact ⟨a, c, e⟩
  subst e1 e2
  clear hs hc
  have d1 : decide ((20000 : Int) < (t.size : Int)) = false := decide_eq_false (by omega)
  have hts2 : (t.size : Int) ≤ 20000 := by omega
  have HQ := hide (box2 w (.cells #[.slice sa nS sk, .slice ca nC ck] 26) (.cells #[.slice none 0 0, .slice none 0 0, .string ⟨#[]⟩, .int .i64 0] 30))
  go_enter Try.func11, Try.ntmps11
  go_wp2_with fail
  obtain ⟨q0, q1, q2, q3⟩ := HQ.out
  generalize ((w.alloc (.cells #[.slice sa nS sk, .slice ca nC ck] 26)).alloc (.cells #[.slice none 0 0, .slice none 0 0, .string ⟨#[]⟩, .int .i64 0] 30)) = W2 at *
  have I2 : dskI W2 W2.heap.size (.agg #[.slice sa nS sk, .slice ca nC ck]) nS S nC A X := (HI.out.below q0).wide (by omega)
  have HS0 := hide (And.intro q2 (And.intro q3 q0))
  refine (spec_diskRight _ nS S nC A X W2 hS hC I2).mono ?_
  rintro e w1 ⟨⟨r, rfl, hr⟩, hb1⟩
  clear q0 q2 q3 HQ
  obtain ⟨k2, k4, k5⟩ := HS0.out
  replace k2 := (hb1.block w.heap.size (by have := (Array.getElem?_eq_some_iff.1 k4).1; omega)).trans k2
  replace k4 := (hb1.block (w.heap.size + 1) (Array.getElem?_eq_some_iff.1 k4).1).trans k4
  replace k5 := k5.trans (hb1.mono k5.size)
  have HS1 := hide (And.intro k2 (And.intro k4 k5))
  have I1 := hide ((I2.below hb1).wide hb1.size)
  have hz1 := hb1.size
  have b0 : w1.cell? ⟨w.heap.size, 0, none⟩ = some (.slice sa nS sk) := by simp [World.cell?, k2]
  have b1 : w1.cell? ⟨w.heap.size, 1, none⟩ = some (.slice ca nC ck) := by simp [World.cell?, k2]
  have oc0 : w1.cell? ⟨w.heap.size + 1, 0, none⟩ = some (.slice none 0 0) := by simp [World.cell?, k4]
  have of0 : w1.frozen? ⟨w.heap.size + 1, 0, none⟩ = false := by simp [World.frozen?, k4]
  have oc1 : w1.cell? ⟨w.heap.size + 1, 1, none⟩ = some (.slice none 0 0) := by simp [World.cell?, k4]
  have of1 : w1.frozen? ⟨w.heap.size + 1, 1, none⟩ = false := by simp [World.frozen?, k4]
  have oc2 : w1.cell? ⟨w.heap.size + 1, 2, none⟩ = some (.string ⟨#[]⟩) := by simp [World.cell?, k4]
  have of2 : w1.frozen? ⟨w.heap.size + 1, 2, none⟩ = false := by simp [World.frozen?, k4]
  have oc3 : w1.cell? ⟨w.heap.size + 1, 3, none⟩ = some (.int .i64 0) := by simp [World.cell?, k4]
  have of3 : w1.frozen? ⟨w.heap.size + 1, 3, none⟩ = false := by simp [World.frozen?, k4]
  clear k2 k4 k5 HS0 hb1 I2
  have HR := hide HS1.out.2.1
  have HB := hide HS1.out.2.2
  cases r with
  | false =>
    have R := hide (show ¬ dskOk nS S nC A X from fun h => by have := hr.2 h; cases this)
    clear hr
    go_wp2_with fail
    have fin := set4_blk w1 (w.heap.size + 1) _ _ _ _ (.slice none 0 0) (.slice none 0 0) (.string ⟨#[]⟩) (.int .i64 1) _ HR.out
    have hbf := below_set4 HB.out (w.heap.size + 1) (by omega) (.slice none 0 0) (.slice none 0 0) (.string ⟨#[]⟩) (.int .i64 1)
    exact bodyPost_ret (results_cell_row Try.results11 _ _ (w.heap.size + 1) 30 #[.slice none 0 0, .slice none 0 0, .string ⟨#[]⟩, .int .i64 1] (0, 0) _ rfl fin Try.underlying30 rfl (by kernel_rfl)) rfl ⟨_, _, 1, rfl, .inl ⟨rfl, R.out⟩, .inl ⟨by decide, rfl, rfl⟩, hbf⟩
  | true =>
    have hok := hr.1 rfl
    have R := hide hok
    have hn6 := hok.1
    have hn4 := hok.2.1
    clear hr hok
    obtain ⟨n, hn⟩ : ∃ n, n = t.size := ⟨_, rfl⟩
    obtain ⟨lim, hlim⟩ : ∃ lim : Int, lim = 64 * (nS : Int) - (n : Int) := ⟨_, rfl⟩
    obtain ⟨m64, hm64⟩ : ∃ m : Nat, m = 64 * nS := ⟨_, rfl⟩
    have s0 : (64 : Int) * (nS : Int) = (m64 : Int) := by omega
    have s1 : IntKind.i64.wrap ((m64 : Int) - (t.size : Int)) = lim := by simp only [IntKind.wrap_i64]; omega
    have s2 : (m64 : Int) - (t.size : Int) = lim := by omega
    have hmb : (m64 : Int) ≤ 67108864 := by omega
    have HL := hide (And.intro hlim (And.intro hm64 hn))
    by_cases hr0 : a < 0 ∨ lim < a
    case pos =>
      have RN := hide (show ¬ (0 ≤ a ∧ a ≤ 64 * (nS : Int) - (t.size : Int)) by omega)
      clear hlim hm64 hn
      by_cases g1 : a < 0
      · have d2 : decide (a < 0) = true := decide_eq_true g1
        clear hr0 g1
        go_wp2_with fail
        have fin := set4_blk w1 (w.heap.size + 1) _ _ _ _ (.slice none 0 0) (.slice none 0 0) (.string ⟨#[]⟩) (.int .i64 8) _ HR.out
        have hbf := below_set4 HB.out (w.heap.size + 1) (by omega) (.slice none 0 0) (.slice none 0 0) (.string ⟨#[]⟩) (.int .i64 8)
        exact bodyPost_ret (results_cell_row Try.results11 _ _ (w.heap.size + 1) 30 #[.slice none 0 0, .slice none 0 0, .string ⟨#[]⟩, .int .i64 8] (0, 0) _ rfl fin Try.underlying30 rfl (by kernel_rfl)) rfl ⟨_, _, 8, rfl, .inr (.inl ⟨rfl, R.out, RN.out⟩), .inl ⟨by decide, rfl, rfl⟩, hbf⟩
      · have d2 : decide (a < 0) = false := decide_eq_false g1
        have d3 : decide (lim < a) = true := decide_eq_true (by omega)
        clear hr0 g1
        go_wp2_with fail
        have fin := set4_blk w1 (w.heap.size + 1) _ _ _ _ (.slice none 0 0) (.slice none 0 0) (.string ⟨#[]⟩) (.int .i64 8) _ HR.out
        have hbf := below_set4 HB.out (w.heap.size + 1) (by omega) (.slice none 0 0) (.slice none 0 0) (.string ⟨#[]⟩) (.int .i64 8)
        exact bodyPost_ret (results_cell_row Try.results11 _ _ (w.heap.size + 1) 30 #[.slice none 0 0, .slice none 0 0, .string ⟨#[]⟩, .int .i64 8] (0, 0) _ rfl fin Try.underlying30 rfl (by kernel_rfl)) rfl ⟨_, _, 8, rfl, .inr (.inl ⟨rfl, R.out, RN.out⟩), .inl ⟨by decide, rfl, rfl⟩, hbf⟩
    have RN := hide (show 0 ≤ a ∧ a ≤ 64 * (nS : Int) - (t.size : Int) by omega)
    obtain ⟨p0, rfl⟩ : ∃ p : Nat, a = (p : Int) := ⟨a.toNat, by omega⟩
    have d2 : decide ((p0 : Int) < 0) = false := decide_eq_false (by omega)
    have d3 : decide (lim < (p0 : Int)) = false := decide_eq_false (by omega)
    have hfit : p0 + n ≤ 64 * nS := by omega
    have hpb : (p0 : Int) ≤ 39680 := by omega
    by_cases hn0 : n = 0
    case pos =>
      have dz : decide ((t.size : Int) = 0) = true := decide_eq_true (by omega)
      have dzb : ((t.size : Int) == 0) = true := beq_iff_eq.2 (by omega)
      have e1 : touchN (p0 : Int).toNat t.size = 0 := if_pos (by omega)
      have CP := hide (spec_copyO _ nS S nC A X w1 hS hC I1.out)
      have E1 := hide e1
      have d3b : decide ((m64 : Int) < (p0 : Int)) = false := decide_eq_false (by omega)
      have d3c : decide (m64 < p0) = false := decide_eq_false (by omega)
      clear hlim hm64 hn hn0 hr0 hfit e1 s2
      go_wp2_with fail
      refine CP.out.mono ?_
      rintro e w2 ⟨x1, x2, rfl, o1, o2, hap, hb2⟩
      obtain ⟨a1, c1, ea⟩ := own_slice o1
      obtain ⟨a2, c2, eb⟩ := own_slice o2
      subst ea eb
      have hz2 := hb2.size
      have hzw : w.heap.size + 1 < w1.heap.size := (Array.getElem?_eq_some_iff.1 HR.out).1
      have k4 := (hb2.block (w.heap.size + 1) hzw).trans HR.out
      have k5 := HB.out.trans (hb2.mono (by omega))
      clear b0 b1 oc0 of0 oc1 of1 oc2 of2 oc3 of3
      have oc0 : w2.cell? ⟨w.heap.size + 1, 0, none⟩ = some (.slice none 0 0) := by simp [World.cell?, k4]
      have of0 : w2.frozen? ⟨w.heap.size + 1, 0, none⟩ = false := by simp [World.frozen?, k4]
      have oc1 : w2.cell? ⟨w.heap.size + 1, 1, none⟩ = some (.slice none 0 0) := by simp [World.cell?, k4]
      have of1 : w2.frozen? ⟨w.heap.size + 1, 1, none⟩ = false := by simp [World.frozen?, k4]
      have oc2 : w2.cell? ⟨w.heap.size + 1, 2, none⟩ = some (.string ⟨#[]⟩) := by simp [World.cell?, k4]
      have of2 : w2.frozen? ⟨w.heap.size + 1, 2, none⟩ = false := by simp [World.frozen?, k4]
      have oc3 : w2.cell? ⟨w.heap.size + 1, 3, none⟩ = some (.int .i64 0) := by simp [World.cell?, k4]
      have of3 : w2.frozen? ⟨w.heap.size + 1, 3, none⟩ = false := by simp [World.frozen?, k4]
      have HR := hide k4
      have HB := hide k5
      have O1 := hide o1
      have O2 := hide o2
      have HAP := hide hap
      clear k4 k5 o1 o2 hap hb2 CP I1 HS1
      go_wp2_with fail
      have u7 : ∀ g, g ≠ w.heap.size + 1 → ((((w2.setCell ⟨w.heap.size + 1, 0, none⟩ (.slice a1 nS c1)).setCell ⟨w.heap.size + 1, 1, none⟩ (.slice a2 (nC) c2)).setCell ⟨w.heap.size + 1, 2, none⟩ (.string ⟨#[]⟩)).setCell ⟨w.heap.size + 1, 3, none⟩ (.int .i64 0)).heap[g]? = w2.heap[g]? := fun g hg => (set1_o _ _ _ _ _ hg).trans ((set1_o _ _ _ _ _ hg).trans ((set1_o _ _ _ _ _ hg).trans (set1_o _ _ _ _ _ hg)))
      have u4 := own_base (own_of_block O1.out (w' := ((((w2.setCell ⟨w.heap.size + 1, 0, none⟩ (.slice a1 nS c1)).setCell ⟨w.heap.size + 1, 1, none⟩ (.slice a2 (nC) c2)).setCell ⟨w.heap.size + 1, 2, none⟩ (.string ⟨#[]⟩)).setCell ⟨w.heap.size + 1, 3, none⟩ (.int .i64 0))) (fun b hb => u7 b (by have := (O1.out.lt b hb).1; omega))) (show w.heap.size ≤ w1.heap.size by omega)
      have u5 := own_base (own_of_block O2.out (w' := ((((w2.setCell ⟨w.heap.size + 1, 0, none⟩ (.slice a1 nS c1)).setCell ⟨w.heap.size + 1, 1, none⟩ (.slice a2 (nC) c2)).setCell ⟨w.heap.size + 1, 2, none⟩ (.string ⟨#[]⟩)).setCell ⟨w.heap.size + 1, 3, none⟩ (.int .i64 0))) (fun b hb => u7 b (by have := (O2.out.lt b hb).1; omega))) (show w.heap.size ≤ w1.heap.size by omega)
      have hw0 := wL_app A X nC (flS S A X (fun _ => true) nC) p0 t 0
      have hw1 : wL (fun j => ((p0 / 64 + j : Nat) : Int)) (fun j => patS (flS S A X (fun _ => true) nC) p0 t (p0 / 64 + j)) 0 = [] := rfl
      rw [hw1, List.append_nil] at hw0
      have fin := set4_blk w2 (w.heap.size + 1) _ _ _ _ (.slice a1 nS c1) (.slice a2 nC c2) (.string ⟨#[]⟩) (.int .i64 0) _ HR.out
      have hbf := below_set4 HB.out (w.heap.size + 1) (by omega) (.slice a1 nS c1) (.slice a2 nC c2) (.string ⟨#[]⟩) (.int .i64 0)
      exact bodyPost_ret (results_cell_row Try.results11 _ _ (w.heap.size + 1) 30 #[.slice a1 nS c1, .slice a2 nC c2, .string ⟨#[]⟩, .int .i64 0] (0, 0) _ rfl fin Try.underlying30 rfl (by kernel_rfl)) rfl ⟨_, _, 0, rfl, .inr (.inr (.inr ⟨rfl, R.out, RN.out, by rw [E1.out]; omega⟩)), .inr ⟨rfl, u4, by rw [E1.out]; show World.ownsRow _ _ _ _ _ nC (wL _ _ (nC + 0)); rw [show ((p0 : Int).toNat) = p0 from rfl, hw0]; exact u5, HAP.out⟩, hbf⟩
    case neg =>
      have dz : decide ((t.size : Int) = 0) = false := decide_eq_false (by omega)
      have dzb : ((t.size : Int) == 0) = false := beq_false_of_ne (by omega)
      obtain ⟨f0, hf0⟩ : ∃ f, f = p0 / 64 := ⟨_, rfl⟩
      obtain ⟨o, ho⟩ : ∃ o, o = p0 % 64 := ⟨_, rfl⟩
      obtain ⟨K, hK⟩ : ∃ K, K = touchN p0 n := ⟨_, rfl⟩
      have hK2 : K = (o + n + 63) / 64 := by rw [hK, ho]; exact if_neg hn0
      obtain ⟨f64, hf64⟩ : ∃ f, f = f0 * 64 := ⟨_, rfl⟩
      obtain ⟨pn, hpn⟩ : ∃ p, p = p0 + n := ⟨_, rfl⟩
      obtain ⟨on, hon⟩ : ∃ p, p = o + n := ⟨_, rfl⟩
      obtain ⟨N, hN⟩ : ∃ N, N = 64 * K := ⟨_, rfl⟩
      have t1 : Int.tdiv (p0 : Int) 64 = (f0 : Int) := by rw [hf0]; rfl
      have t2 : (p0 : Int) / 64 = (f0 : Int) := by omega
      have t3 : (f0 : Int) * 64 = (f64 : Int) := by omega
      have t4 : (p0 : Int) + (t.size : Int) = (pn : Int) := by omega
      have t5 : (pn : Int) - (f64 : Int) = (on : Int) := by omega
      have t6 : (p0 : Int) - (f64 : Int) = (o : Int) := by omega
      have hfb : (f0 : Int) ≤ 620 := by omega
      have hf64b : (f64 : Int) ≤ 39680 := by omega
      have hpnb : (pn : Int) ≤ 60000 := by omega
      have honb : (on : Int) ≤ 30000 := by omega
      have hob : (o : Int) ≤ 63 := by omega
      have hNb : N ≤ 20480 := by omega
      have hoN : (o : Int) ≤ (N : Int) := by omega
      have hfK : f0 + K ≤ nS := by omega
      have hKb : K ≤ 320 := by omega
      have hsec := fun (u : World) => spec_sectors on u (by omega)
      rw [show (on + 63) / 64 = K by omega] at hsec
      have HSEC := hide hsec
      obtain ⟨FF, hFF⟩ : ∃ FF, FF = flS S A X (fun _ => true) nC := ⟨_, rfl⟩
      have hFz : ∀ j, j < nS → (FF j).size = 64 := fun j hj => by rw [hFF]; exact flS_size S A X _ nS R.out.2.2.1 nC (fun j hj => (R.out.2.2.2 j hj).2.2) j hj
      have hct := catL_dL FF f0 K (fun j hj => hFz (f0 + j) (by omega))
      rw [← hN] at hct
      have ST := hide (spec_text _ nS S nC A X f0 K w1 R.out hfK (by omega) I1.out)
      rw [← hFF, hct] at ST
      obtain ⟨TX, hTX⟩ : ∃ TX : ByteArray, TX = ⟨(dL FF (64 * f0) N).toArray⟩ := ⟨_, rfl⟩
      rw [← hTX] at ST
      have hTz : TX.size = N := by rw [hTX]; exact dL_size _ _ _
      have hTb : ∀ j, j < N → bF TX j = dB FF (64 * f0 + j) := fun j hj => by rw [hTX]; exact dL_bF _ _ _ _ hj
      obtain ⟨BX, hBX⟩ : ∃ BX : ByteArray, BX = ⟨((List.range N).map (fun j => pB FF p0 t (64 * f0 + j))).toArray⟩ := ⟨_, rfl⟩
      have hBz : BX.size = N := by rw [hBX]; show (Array.size _) = N; simp
      have hBb : ∀ j, j < N → bF BX j = pB FF p0 t (64 * f0 + j) := fun j hj => by rw [hBX]; simp [bF, hj]
      have hmw : manyW BX = K := manyW_64 BX K (by rw [hBz, hN])
      have HW := hide (And.intro hmw (wL_pat A X nC FF p0 t f0 K BX hf0 (by rw [hBz, hN]) (fun j hj => hBb j (by omega))))
      have HB9 := hide (show ∀ j, j < N → (if o ≤ j ∧ j < o + n then bF t (j - o) else bF TX j) = bF BX j from fun j hj => by
        rw [hBb j hj]
        unfold pB
        by_cases c : o ≤ j ∧ j < o + n
        · rw [if_pos c, if_pos (by omega)]
          congr 1
          omega
        · rw [if_neg c, if_neg (by omega)]
          exact hTb j hj)
      have hst := hide (show ∀ j, j < n → t.data.toList[j]? = some (bF t j) from bF_at t n hn.symm)
      have hmin := hide (show n = Nat.min t.size (N - o) by simp only [Nat.min_def]; split <;> omega)
      have HK := hide (show f0 = p0 / 64 ∧ touchN (p0 : Int).toNat t.size = K ∧ FF = flS S A X (fun _ => true) nC from ⟨hf0, by rw [hK, hn]; rfl, hFF⟩)
      have hon2 : o + n ≤ N := by omega
      have hN1 : o < N := by omega
      have hBz2 : BX.size ≤ 20480 := by omega
      have HBZ := hide hBz
      clear hlim hm64 hn hn0 hr0 hf0 ho hK hK2 hf64 hpn hon hN hsec hFF hFz hct hTX hBX hBz hBb hmw hTb
      go_wp2_with fail
      refine (HSEC.out w1).mono ?_
      rintro e w9 ⟨rfl, rfl⟩
      go_wp2_with fail
      refine ST.out.mono ?_
      rintro e w3 ⟨rfl, hb3⟩
      clear b0 b1 oc0 of0 oc1 of1 oc2 of2 oc3 of3
      obtain ⟨k2, k4, k5⟩ := HS1.out
      replace k2 := (hb3.block w.heap.size (by have := (Array.getElem?_eq_some_iff.1 k4).1; omega)).trans k2
      replace k4 := (hb3.block (w.heap.size + 1) (Array.getElem?_eq_some_iff.1 k4).1).trans k4
      replace k5 := k5.trans (hb3.mono k5.size)
      have HS3 := hide (And.intro k2 (And.intro k4 k5))
      have hz3 := hb3.size
      have hw3 : w.heap.size + 1 < w3.heap.size := (Array.getElem?_eq_some_iff.1 k4).1
      obtain ⟨cp, w4, hcv, hcp1, hcp2, z4, b34, hrow⟩ := text_row (P := Try.prog) w3 9 22 5 TX N hTz (by omega) Try.underlying9 Try.underlying22 Try.underlying5
      have hcpo : ¬ cp = o := by omega
      have hcpb : (cp : Int) ≤ 9223372036854775807 := by unfold maxLen at hcp2; omega
      have hth := hide (hrow.there (o := o) (m := n) hon2)
      have hcv2 : (convert 22 9 (.slice (some ⟨w3.heap.size, 0, none⟩) N cp)).run Try.prog (w4.setCells w3.heap.size o (bL n (bF t))) = .ok (.string BX) (w4.setCells w3.heap.size o (bL n (bF t))) := by
        have hlen : BX.data.toList.length = N := by
          have e1 : manyW BX = K := HW.out.1
          have : BX.data.toList.length = BX.size := rfl
          rw [this]; exact HBZ.out
        have h := run_convert_bytes_back (P := Try.prog) (w4.setCells w3.heap.size o (bL n (bF t))) 22 9 5 ⟨w3.heap.size, 0, none⟩ cp BX.data.toList Try.underlying22 Try.underlying5 Try.underlying9 (fun j hj => by
          have hj2 : j < N := by rw [hlen] at hj; exact hj
          have ea : (⟨w3.heap.size, 0, none⟩ : Addr).add j = ⟨w3.heap.size, j, none⟩ := by by_cases hz : j = 0 <;> simp [Addr.add, hz]
          rw [ea, hrow.copied hon2 j hj2, HB9.out j hj2]
          have := bF_at BX N HBZ.out j hj2
          rw [List.getElem?_eq_getElem hj] at this
          rw [Option.some.inj this])
        rw [hlen] at h
        exact h
      have b35 : Below w3.heap.size w3 (w4.setCells w3.heap.size o (bL n (bF t))) := below_setCells' b34 (Nat.le_refl _)
      obtain ⟨k2, k4, k5⟩ := HS3.out
      replace k2 := (b35.block w.heap.size (by have := (Array.getElem?_eq_some_iff.1 k4).1; omega)).trans k2
      replace k4 := (b35.block (w.heap.size + 1) (Array.getElem?_eq_some_iff.1 k4).1).trans k4
      replace k5 := k5.trans (b35.mono k5.size)
      have HS5 := hide (And.intro k2 (And.intro k4 k5))
      have b0 : (w4.setCells w3.heap.size o (bL n (bF t))).cell? ⟨w.heap.size, 0, none⟩ = some (.slice sa nS sk) := by simp [World.cell?, k2]
      have b1 : (w4.setCells w3.heap.size o (bL n (bF t))).cell? ⟨w.heap.size, 1, none⟩ = some (.slice ca nC ck) := by simp [World.cell?, k2]
      have I5 := hide (show dskI (w4.setCells w3.heap.size o (bL n (bF t))) (w4.setCells w3.heap.size o (bL n (bF t))).heap.size (.agg #[.slice sa nS sk, .slice ca nC ck]) nS S nC A X from (((I1.out.below hb3).wide hb3.size).below b35).wide b35.size)
      have hz5 := b35.size
      clear k2 k4 k5 b35 b34 hrow hb3 HS3 HS1 I1 ST HR HB z4
      go_wp2_with (with_reducible (show wpList _ _ _ ({ dst := _, op := .call _, type := _, pos := _, after := _, guard := _ } :: _) _ _); refine wpList_copy_S rfl (.tmp 58) (.tmp 59) 22 9 rfl 5 Try.underlying22 (by kernel_rfl) w3.heap.size o (N - o) (cp - o) t rfl rfl n (bF t) hmin.out hst.out hth.out ?_; clear hth hcv; generalize w4.setCells w3.heap.size o (bL n (bF t)) = w5 at *)
      have hf0le : (0 : Int) ≤ (f0 : Int) := by omega
      have hmw2 : (f0 : Int) ≤ (nS : Int) - (manyW BX : Int) := by rw [HW.out.1]; omega
      by_cases hfull : 400 < nC + K
      · refine (spec_write_fullW _ nS S nC A X (f0 : Int) BX w5 R.out hBz2 hf0le ⟨hmw2, by rw [HW.out.1]; exact hfull⟩ I5.out).mono ?_
        rintro e w6 ⟨rfl, hb6⟩
        obtain ⟨k2, k4, k5⟩ := HS5.out
        replace k2 := (hb6.block w.heap.size (by have := (Array.getElem?_eq_some_iff.1 k4).1; omega)).trans k2
        replace k4 := (hb6.block (w.heap.size + 1) (Array.getElem?_eq_some_iff.1 k4).1).trans k4
        replace k5 := k5.trans (hb6.mono k5.size)
        have HS6 := hide (And.intro k2 (And.intro k4 k5))
        have oc0 : w6.cell? ⟨w.heap.size + 1, 0, none⟩ = some (.slice none 0 0) := by simp [World.cell?, k4]
        have of0 : w6.frozen? ⟨w.heap.size + 1, 0, none⟩ = false := by simp [World.frozen?, k4]
        have oc1 : w6.cell? ⟨w.heap.size + 1, 1, none⟩ = some (.slice none 0 0) := by simp [World.cell?, k4]
        have of1 : w6.frozen? ⟨w.heap.size + 1, 1, none⟩ = false := by simp [World.frozen?, k4]
        have oc2 : w6.cell? ⟨w.heap.size + 1, 2, none⟩ = some (.string ⟨#[]⟩) := by simp [World.cell?, k4]
        have of2 : w6.frozen? ⟨w.heap.size + 1, 2, none⟩ = false := by simp [World.frozen?, k4]
        have oc3 : w6.cell? ⟨w.heap.size + 1, 3, none⟩ = some (.int .i64 0) := by simp [World.cell?, k4]
        have of3 : w6.frozen? ⟨w.heap.size + 1, 3, none⟩ = false := by simp [World.frozen?, k4]
        have HR := hide HS6.out.2.1
        have HB := hide HS6.out.2.2
        have HFU := hide hfull
        clear hb6 HS5 I5 k2 k4 k5 b0 b1 hcv2 hfull
        simp only [doutV]
        go_wp2_with fail
        have fin := set4_blk w6 (w.heap.size + 1) _ _ _ _ (.slice none 0 0) (.slice none 0 0) (.string ⟨#[]⟩) (.int .i64 9) _ HR.out
        have hbf := below_set4 HB.out (w.heap.size + 1) (by omega) (.slice none 0 0) (.slice none 0 0) (.string ⟨#[]⟩) (.int .i64 9)
        exact bodyPost_ret (results_cell_row Try.results11 _ _ (w.heap.size + 1) 30 #[.slice none 0 0, .slice none 0 0, .string ⟨#[]⟩, .int .i64 9] (0, 0) _ rfl fin Try.underlying30 rfl (by kernel_rfl)) rfl ⟨_, _, 9, rfl, .inr (.inr (.inl ⟨rfl, R.out, RN.out, by rw [HK.out.2.1]; exact HFU.out⟩)), .inl ⟨by decide, rfl, rfl⟩, hbf⟩
      · refine (spec_write_goodW _ nS S nC A X (f0 : Int) BX w5 R.out hBz2 hf0le hmw2 (by rw [HW.out.1]; omega) I5.out).mono ?_
        rintro e w6 ⟨x1, x2, rfl, o1, o2, hap, hb6⟩
        rw [HW.out.1, HW.out.2] at o2
        obtain ⟨a1, c1, ea⟩ := own_slice o1
        obtain ⟨a2, c2, eb⟩ := own_slice o2
        subst ea eb
        obtain ⟨k2, k4, k5⟩ := HS5.out
        replace k2 := (hb6.block w.heap.size (by have := (Array.getElem?_eq_some_iff.1 k4).1; omega)).trans k2
        replace k4 := (hb6.block (w.heap.size + 1) (Array.getElem?_eq_some_iff.1 k4).1).trans k4
        replace k5 := k5.trans (hb6.mono k5.size)
        have HS6 := hide (And.intro k2 (And.intro k4 k5))
        have oc0 : w6.cell? ⟨w.heap.size + 1, 0, none⟩ = some (.slice none 0 0) := by simp [World.cell?, k4]
        have of0 : w6.frozen? ⟨w.heap.size + 1, 0, none⟩ = false := by simp [World.frozen?, k4]
        have oc1 : w6.cell? ⟨w.heap.size + 1, 1, none⟩ = some (.slice none 0 0) := by simp [World.cell?, k4]
        have of1 : w6.frozen? ⟨w.heap.size + 1, 1, none⟩ = false := by simp [World.frozen?, k4]
        have oc2 : w6.cell? ⟨w.heap.size + 1, 2, none⟩ = some (.string ⟨#[]⟩) := by simp [World.cell?, k4]
        have of2 : w6.frozen? ⟨w.heap.size + 1, 2, none⟩ = false := by simp [World.frozen?, k4]
        have oc3 : w6.cell? ⟨w.heap.size + 1, 3, none⟩ = some (.int .i64 0) := by simp [World.cell?, k4]
        have of3 : w6.frozen? ⟨w.heap.size + 1, 3, none⟩ = false := by simp [World.frozen?, k4]
        have HR := hide HS6.out.2.1
        have HB := hide HS6.out.2.2
        have O1 := hide o1
        have O2 := hide o2
        have HAP := hide hap
        have HFU := hide (show nC + K ≤ 400 by omega)
        clear hb6 HS5 I5 k2 k4 k5 b0 b1 hcv2 hfull o1 o2 hap
        simp only [doutV]
        go_wp2_with fail
        have u7 : ∀ g, g ≠ w.heap.size + 1 → ((((w6.setCell ⟨w.heap.size + 1, 0, none⟩ (.slice a1 nS c1)).setCell ⟨w.heap.size + 1, 1, none⟩ (.slice a2 (nC + K) c2)).setCell ⟨w.heap.size + 1, 2, none⟩ (.string ⟨#[]⟩)).setCell ⟨w.heap.size + 1, 3, none⟩ (.int .i64 0)).heap[g]? = w6.heap[g]? := fun g hg => (set1_o _ _ _ _ _ hg).trans ((set1_o _ _ _ _ _ hg).trans ((set1_o _ _ _ _ _ hg).trans (set1_o _ _ _ _ _ hg)))
        have u4 := own_base (own_of_block O1.out (w' := ((((w6.setCell ⟨w.heap.size + 1, 0, none⟩ (.slice a1 nS c1)).setCell ⟨w.heap.size + 1, 1, none⟩ (.slice a2 (nC + K) c2)).setCell ⟨w.heap.size + 1, 2, none⟩ (.string ⟨#[]⟩)).setCell ⟨w.heap.size + 1, 3, none⟩ (.int .i64 0))) (fun b hb => u7 b (by have := (O1.out.lt b hb).1; omega))) (show w.heap.size ≤ w5.heap.size by omega)
        have u5 := own_base (own_of_block O2.out (w' := ((((w6.setCell ⟨w.heap.size + 1, 0, none⟩ (.slice a1 nS c1)).setCell ⟨w.heap.size + 1, 1, none⟩ (.slice a2 (nC + K) c2)).setCell ⟨w.heap.size + 1, 2, none⟩ (.string ⟨#[]⟩)).setCell ⟨w.heap.size + 1, 3, none⟩ (.int .i64 0))) (fun b hb => u7 b (by have := (O2.out.lt b hb).1; omega))) (show w.heap.size ≤ w5.heap.size by omega)
        rw [HK.out.1, HK.out.2.2] at u5
        have fin := set4_blk w6 (w.heap.size + 1) _ _ _ _ (.slice a1 nS c1) (.slice a2 (nC + K) c2) (.string ⟨#[]⟩) (.int .i64 0) _ HR.out
        have hbf := below_set4 HB.out (w.heap.size + 1) (by omega) (.slice a1 nS c1) (.slice a2 (nC + K) c2) (.string ⟨#[]⟩) (.int .i64 0)
        exact bodyPost_ret (results_cell_row Try.results11 _ _ (w.heap.size + 1) 30 #[.slice a1 nS c1, .slice a2 (nC + K) c2, .string ⟨#[]⟩, .int .i64 0] (0, 0) _ rfl fin Try.underlying30 rfl (by kernel_rfl)) rfl ⟨_, _, 0, rfl, .inr (.inr (.inr ⟨rfl, R.out, RN.out, by rw [HK.out.2.1]; exact HFU.out⟩)), .inr ⟨rfl, u4, by rw [HK.out.2.1]; exact u5, HAP.out⟩, hbf⟩
end Go.Proofs.Ytipeelkmmjgehaa
/- A text held against the empty one, as the walk spells it. No program is named here. -/
namespace Go.Proofs.Ytipeelkmmjgehaa
open Go Go.RowKit
theorem isEmpty_yes {t : ByteArray} (h : t.size = 0) : t.toList.isEmpty = true := by
  rw [ByteArray.toList_eq, List.isEmpty_iff]
  exact List.length_eq_zero_iff.1 h
theorem isEmpty_no {t : ByteArray} (h : t.size ≠ 0) : t.toList.isEmpty = false := by
  rw [ByteArray.toList_eq, List.isEmpty_eq_false_iff]
  exact fun e => h (List.length_eq_zero_iff.2 e)
end Go.Proofs.Ytipeelkmmjgehaa
/- The walks over the program's ExtentWrite (written by mkextw.py). -/
namespace Go.Proofs.Ytipeelkmmjgehaa
open Go Go.RowKit
set_option maxRecDepth 100000 in
set_option maxHeartbeats 1600000 in
theorem imp_extentWrite_empty (v : Value) (nS : Nat) (S : Nat → ByteArray) (nC : Nat) (A : Nat → Int) (X : Nat → ByteArray) (a : Int) (t : ByteArray) (w : World) (ht0 : t.size = 0) (hok : dskOk nS S nC A X) (h : dskI w w.heap.size v nS S nC A X) :
    Calls Try.prog 16 #[v, .int .i64 a, .string t] w fun e w' => e = .returned (doutV (.slice none 0 0) (.slice none 0 0) ⟨#[]⟩ 8) ∧ Below w.heap.size w w' := by
  obtain ⟨sv, cv, rfl, hs, hc⟩ := h
  have HI := hide (show dskI w w.heap.size (.agg #[sv, cv]) nS S nC A X from ⟨sv, cv, rfl, hs, hc⟩)
  obtain ⟨sa, sk, e1⟩ : ∃ a c, sv = .slice a nS c := by obtain ⟨a, c, e, _⟩ := hs; exact ⟨a, c, e⟩
  obtain ⟨ca, ck, e2⟩ : ∃ a c, cv = .slice a nC c := by obtain ⟨a, c, e, _⟩ := hc; exact ⟨a, c, e⟩
  subst e1 e2
  clear hs hc
  obtain ⟨q0, q1, q2, q3⟩ := box2 w (.cells #[.slice sa nS sk, .slice ca nC ck] 26) (.cells #[.slice none 0 0, .slice none 0 0, .string ⟨#[]⟩, .int .i64 0] 30)
  have HQ := hide (And.intro q0 (And.intro q1 (And.intro q2 q3)))
  clear q0 q1 q2 q3
  have hstr : t.toList.isEmpty = true := isEmpty_yes ht0
  have hS : nS ≤ 1048576 := by have := hok.1; omega
  have hC : nC ≤ 1048576 := by have := hok.2.1; omega
  have HOK := hide hok
  clear hok
  go_enter Try.func16, Try.ntmps16
  go_wp2_with fail
  obtain ⟨q0, q1, q2, q3⟩ := HQ.out
  generalize ((w.alloc (.cells #[.slice sa nS sk, .slice ca nC ck] 26)).alloc (.cells #[.slice none 0 0, .slice none 0 0, .string ⟨#[]⟩, .int .i64 0] 30)) = W2 at *
  have I2 : dskI W2 W2.heap.size (.agg #[.slice sa nS sk, .slice ca nC ck]) nS S nC A X := (HI.out.below q0).wide (by omega)
  refine (imp_diskRight _ nS S nC A X W2 hS hC I2).mono ?_
  rintro e w1 ⟨⟨r, rfl, hr⟩, hb1⟩
  obtain rfl : r = true := hr.2 HOK.out
  have hsz1 := hb1.size
  have r2 := (hb1.block w.heap.size (by omega)).trans q2
  have r3 := (hb1.block (w.heap.size + 1) (by omega)).trans q3
  have c0 : w1.cell? ⟨w.heap.size + 1, 0, none⟩ = some (.slice none 0 0) := by simp [World.cell?, r3]
  have f0 : w1.frozen? ⟨w.heap.size + 1, 0, none⟩ = false := by simp [World.frozen?, r3]
  have c1 : w1.cell? ⟨w.heap.size + 1, 1, none⟩ = some (.slice none 0 0) := by simp [World.cell?, r3]
  have f1 : w1.frozen? ⟨w.heap.size + 1, 1, none⟩ = false := by simp [World.frozen?, r3]
  have c2 : w1.cell? ⟨w.heap.size + 1, 2, none⟩ = some (.string ⟨#[]⟩) := by simp [World.cell?, r3]
  have f2 : w1.frozen? ⟨w.heap.size + 1, 2, none⟩ = false := by simp [World.frozen?, r3]
  have c3 : w1.cell? ⟨w.heap.size + 1, 3, none⟩ = some (.int .i64 0) := by simp [World.cell?, r3]
  have f3 : w1.frozen? ⟨w.heap.size + 1, 3, none⟩ = false := by simp [World.frozen?, r3]
  have HR := hide r3
  have HB := hide (q0.trans (hb1.mono (by omega)))
  clear hr hb1 q0 q1 q2 q3 I2 HQ r2 r3
  go_wp2_with fail
  have fin := set4_blk w1 (w.heap.size + 1) _ _ _ _ (.slice none 0 0) (.slice none 0 0) (.string ⟨#[]⟩) (.int .i64 8) _ HR.out
  have hbf := below_set4 HB.out (w.heap.size + 1) (by omega) (.slice none 0 0) (.slice none 0 0) (.string ⟨#[]⟩) (.int .i64 8)
  exact bodyPost_ret (results_cell_row Try.results16 _ _ (w.heap.size + 1) 30 #[.slice none 0 0, .slice none 0 0, .string ⟨#[]⟩, .int .i64 8] (0, 0) _ rfl fin Try.underlying30 rfl (by kernel_rfl)) rfl ⟨rfl, hbf⟩
set_option maxRecDepth 100000 in
set_option maxHeartbeats 1600000 in
theorem imp_extentWrite_form (v : Value) (nS : Nat) (S : Nat → ByteArray) (nC : Nat) (A : Nat → Int) (X : Nat → ByteArray) (a : Int) (t : ByteArray) (w : World) (ht0 : t.size = 0) (hS : nS ≤ 1048576) (hC : nC ≤ 1048576) (hno : ¬ dskOk nS S nC A X) (h : dskI w w.heap.size v nS S nC A X) (Post : Value → Value → Int → World → World → Prop)
    (hW : ∀ (u : World) (x : Value), dskI u u.heap.size x nS S nC A X → Calls Try.prog 48 #[x, .int .i64 a, .string t] u fun e w' => ∃ sv cv c, e = .returned (doutV sv cv ⟨#[]⟩ c) ∧ (∃ x1 y1 z1 x2 y2 z2, sv = .slice x1 y1 z1 ∧ cv = .slice x2 y2 z2) ∧ Post sv cv c u w' ∧ Below u.heap.size u w') :
    Calls Try.prog 16 #[v, .int .i64 a, .string t] w fun e w' => ∃ sv cv c u w1, e = .returned (doutV sv cv ⟨#[]⟩ c) ∧ Post sv cv c u w1 ∧ w.heap.size + 2 ≤ u.heap.size ∧ (∀ j, j ≠ w.heap.size + 1 → w'.heap[j]? = w1.heap[j]?) ∧ w'.heap.size = w1.heap.size ∧ Below w.heap.size w w' := by
  obtain ⟨sv, cv, rfl, hs, hc⟩ := h
  have HI := hide (show dskI w w.heap.size (.agg #[sv, cv]) nS S nC A X from ⟨sv, cv, rfl, hs, hc⟩)
  obtain ⟨sa, sk, e1⟩ : ∃ a c, sv = .slice a nS c := by obtain ⟨a, c, e, _⟩ := hs; exact ⟨a, c, e⟩
  obtain ⟨ca, ck, e2⟩ : ∃ a c, cv = .slice a nC c := by obtain ⟨a, c, e, _⟩ := hc; exact ⟨a, c, e⟩
  subst e1 e2
  clear hs hc
  obtain ⟨q0, q1, q2, q3⟩ := box2 w (.cells #[.slice sa nS sk, .slice ca nC ck] 26) (.cells #[.slice none 0 0, .slice none 0 0, .string ⟨#[]⟩, .int .i64 0] 30)
  have HQ := hide (And.intro q0 (And.intro q1 (And.intro q2 q3)))
  clear q0 q1 q2 q3
  have hstr : t.toList.isEmpty = true := isEmpty_yes ht0
  have HNO := hide hno
  have HW := hide hW
  clear hno hW
  go_enter Try.func16, Try.ntmps16
  go_wp2_with fail
  obtain ⟨q0, q1, q2, q3⟩ := HQ.out
  generalize ((w.alloc (.cells #[.slice sa nS sk, .slice ca nC ck] 26)).alloc (.cells #[.slice none 0 0, .slice none 0 0, .string ⟨#[]⟩, .int .i64 0] 30)) = W2 at *
  have I2 : dskI W2 W2.heap.size (.agg #[.slice sa nS sk, .slice ca nC ck]) nS S nC A X := (HI.out.below q0).wide (by omega)
  refine (imp_diskRight _ nS S nC A X W2 hS hC I2).mono ?_
  rintro e w1 ⟨⟨r, rfl, hr⟩, hb1⟩
  obtain rfl : r = false := by cases r; rfl; exact absurd (hr.1 rfl) HNO.out
  have hsz1 := hb1.size
  have r2 := (hb1.block w.heap.size (by omega)).trans q2
  have r3 := (hb1.block (w.heap.size + 1) (by omega)).trans q3
  have b0 : w1.cell? ⟨w.heap.size, 0, none⟩ = some (.slice sa nS sk) := by simp [World.cell?, r2]
  have b1 : w1.cell? ⟨w.heap.size, 1, none⟩ = some (.slice ca nC ck) := by simp [World.cell?, r2]
  have SW := hide (HW.out w1 _ ((I2.below hb1).wide hsz1))
  have HR3 := hide r3
  have HB1 := hide (q0.trans (hb1.mono (by omega)))
  clear hr hb1 q0 q2 q3 I2 HQ r2 r3 HW
  go_wp2_with fail
  refine SW.out.mono ?_
  rintro e w2 ⟨sv, cv, c, rfl, ⟨x1, y1, zz1, x2, y2, zz2, rfl, rfl⟩, hp, hb2⟩
  have r3 := (hb2.block (w.heap.size + 1) (by omega)).trans HR3.out
  have c0 : w2.cell? ⟨w.heap.size + 1, 0, none⟩ = some (.slice none 0 0) := by simp [World.cell?, r3]
  have f0 : w2.frozen? ⟨w.heap.size + 1, 0, none⟩ = false := by simp [World.frozen?, r3]
  have c1 : w2.cell? ⟨w.heap.size + 1, 1, none⟩ = some (.slice none 0 0) := by simp [World.cell?, r3]
  have f1 : w2.frozen? ⟨w.heap.size + 1, 1, none⟩ = false := by simp [World.frozen?, r3]
  have c2 : w2.cell? ⟨w.heap.size + 1, 2, none⟩ = some (.string ⟨#[]⟩) := by simp [World.cell?, r3]
  have f2 : w2.frozen? ⟨w.heap.size + 1, 2, none⟩ = false := by simp [World.frozen?, r3]
  have c3 : w2.cell? ⟨w.heap.size + 1, 3, none⟩ = some (.int .i64 0) := by simp [World.cell?, r3]
  have f3 : w2.frozen? ⟨w.heap.size + 1, 3, none⟩ = false := by simp [World.frozen?, r3]
  have HR := hide r3
  have HB := hide (HB1.out.trans (hb2.mono (by omega)))
  have HP := hide hp
  simp only [doutV]
  clear hb2 r3 HR3 HB1 SW hp
  go_wp2_with fail
  have same : ∀ j, j ≠ w.heap.size + 1 → ((((w2.setCell ⟨w.heap.size + 1, 0, none⟩ (.slice x1 y1 zz1)).setCell ⟨w.heap.size + 1, 1, none⟩ (.slice x2 y2 zz2)).setCell ⟨w.heap.size + 1, 2, none⟩ (.string ⟨#[]⟩)).setCell ⟨w.heap.size + 1, 3, none⟩ (.int .i64 c)).heap[j]? = w2.heap[j]? := fun j hj => (set1_o _ _ _ _ _ hj).trans ((set1_o _ _ _ _ _ hj).trans ((set1_o _ _ _ _ _ hj).trans (set1_o _ _ _ _ _ hj)))
  have fin := set4_blk w2 (w.heap.size + 1) _ _ _ _ (.slice x1 y1 zz1) (.slice x2 y2 zz2) (.string ⟨#[]⟩) (.int .i64 c) _ HR.out
  have hbf := below_set4 HB.out (w.heap.size + 1) (by omega) (.slice x1 y1 zz1) (.slice x2 y2 zz2) (.string ⟨#[]⟩) (.int .i64 c)
  exact bodyPost_ret (results_cell_row Try.results16 _ _ (w.heap.size + 1) 30 #[.slice x1 y1 zz1, .slice x2 y2 zz2, .string ⟨#[]⟩, .int .i64 c] (0, 0) _ rfl fin Try.underlying30 rfl (by kernel_rfl)) rfl ⟨_, _, _, w1, w2, rfl, HP.out, by omega, same, by simp [World.setCell], hbf⟩
set_option maxRecDepth 100000 in
set_option maxHeartbeats 1600000 in
theorem imp_extentWrite_ok (v : Value) (nS : Nat) (S : Nat → ByteArray) (nC : Nat) (A : Nat → Int) (X : Nat → ByteArray) (a : Int) (t : ByteArray) (w : World) (ht0 : t.size ≠ 0) (h : dskI w w.heap.size v nS S nC A X) (Post : Value → Value → Int → World → World → Prop)
    (hW : ∀ (u : World) (x : Value), dskI u u.heap.size x nS S nC A X → Calls Try.prog 48 #[x, .int .i64 a, .string t] u fun e w' => ∃ sv cv c, e = .returned (doutV sv cv ⟨#[]⟩ c) ∧ (∃ x1 y1 z1 x2 y2 z2, sv = .slice x1 y1 z1 ∧ cv = .slice x2 y2 z2) ∧ Post sv cv c u w' ∧ Below u.heap.size u w') :
    Calls Try.prog 16 #[v, .int .i64 a, .string t] w fun e w' => ∃ sv cv c u w1, e = .returned (doutV sv cv ⟨#[]⟩ c) ∧ Post sv cv c u w1 ∧ w.heap.size + 2 ≤ u.heap.size ∧ (∀ j, j ≠ w.heap.size + 1 → w'.heap[j]? = w1.heap[j]?) ∧ w'.heap.size = w1.heap.size ∧ Below w.heap.size w w' := by
  obtain ⟨sv, cv, rfl, hs, hc⟩ := h
  have HI := hide (show dskI w w.heap.size (.agg #[sv, cv]) nS S nC A X from ⟨sv, cv, rfl, hs, hc⟩)
  obtain ⟨sa, sk, e1⟩ : ∃ a c, sv = .slice a nS c := by obtain ⟨a, c, e, _⟩ := hs; exact ⟨a, c, e⟩
  obtain ⟨ca, ck, e2⟩ : ∃ a c, cv = .slice a nC c := by obtain ⟨a, c, e, _⟩ := hc; exact ⟨a, c, e⟩
  subst e1 e2
  clear hs hc
  obtain ⟨q0, q1, q2, q3⟩ := box2 w (.cells #[.slice sa nS sk, .slice ca nC ck] 26) (.cells #[.slice none 0 0, .slice none 0 0, .string ⟨#[]⟩, .int .i64 0] 30)
  have HQ := hide (And.intro q0 (And.intro q1 (And.intro q2 q3)))
  clear q0 q1 q2 q3
  have hstr : t.toList.isEmpty = false := isEmpty_no ht0
  have HW := hide hW
  clear hW
  go_enter Try.func16, Try.ntmps16
  go_wp2_with fail
  obtain ⟨q0, q1, q2, q3⟩ := HQ.out
  generalize ((w.alloc (.cells #[.slice sa nS sk, .slice ca nC ck] 26)).alloc (.cells #[.slice none 0 0, .slice none 0 0, .string ⟨#[]⟩, .int .i64 0] 30)) = W2 at *
  have SW := hide (HW.out W2 _ ((HI.out.below q0).wide (by omega)))
  have HR3 := hide q3
  have HB1 := hide q0
  clear q0 q2 q3 HQ HW
  refine SW.out.mono ?_
  rintro e w2 ⟨sv, cv, c, rfl, ⟨x1, y1, zz1, x2, y2, zz2, rfl, rfl⟩, hp, hb2⟩
  have r3 := (hb2.block (w.heap.size + 1) (by omega)).trans HR3.out
  have c0 : w2.cell? ⟨w.heap.size + 1, 0, none⟩ = some (.slice none 0 0) := by simp [World.cell?, r3]
  have f0 : w2.frozen? ⟨w.heap.size + 1, 0, none⟩ = false := by simp [World.frozen?, r3]
  have c1 : w2.cell? ⟨w.heap.size + 1, 1, none⟩ = some (.slice none 0 0) := by simp [World.cell?, r3]
  have f1 : w2.frozen? ⟨w.heap.size + 1, 1, none⟩ = false := by simp [World.frozen?, r3]
  have c2 : w2.cell? ⟨w.heap.size + 1, 2, none⟩ = some (.string ⟨#[]⟩) := by simp [World.cell?, r3]
  have f2 : w2.frozen? ⟨w.heap.size + 1, 2, none⟩ = false := by simp [World.frozen?, r3]
  have c3 : w2.cell? ⟨w.heap.size + 1, 3, none⟩ = some (.int .i64 0) := by simp [World.cell?, r3]
  have f3 : w2.frozen? ⟨w.heap.size + 1, 3, none⟩ = false := by simp [World.frozen?, r3]
  have HR := hide r3
  have HB := hide (HB1.out.trans (hb2.mono (by omega)))
  have HP := hide hp
  simp only [doutV]
  clear hb2 r3 HR3 HB1 SW hp
  go_wp2_with fail
  have same : ∀ j, j ≠ w.heap.size + 1 → ((((w2.setCell ⟨w.heap.size + 1, 0, none⟩ (.slice x1 y1 zz1)).setCell ⟨w.heap.size + 1, 1, none⟩ (.slice x2 y2 zz2)).setCell ⟨w.heap.size + 1, 2, none⟩ (.string ⟨#[]⟩)).setCell ⟨w.heap.size + 1, 3, none⟩ (.int .i64 c)).heap[j]? = w2.heap[j]? := fun j hj => (set1_o _ _ _ _ _ hj).trans ((set1_o _ _ _ _ _ hj).trans ((set1_o _ _ _ _ _ hj).trans (set1_o _ _ _ _ _ hj)))
  have fin := set4_blk w2 (w.heap.size + 1) _ _ _ _ (.slice x1 y1 zz1) (.slice x2 y2 zz2) (.string ⟨#[]⟩) (.int .i64 c) _ HR.out
  have hbf := below_set4 HB.out (w.heap.size + 1) (by omega) (.slice x1 y1 zz1) (.slice x2 y2 zz2) (.string ⟨#[]⟩) (.int .i64 c)
  exact bodyPost_ret (results_cell_row Try.results16 _ _ (w.heap.size + 1) 30 #[.slice x1 y1 zz1, .slice x2 y2 zz2, .string ⟨#[]⟩, .int .i64 c] (0, 0) _ rfl fin Try.underlying30 rfl (by kernel_rfl)) rfl ⟨_, _, _, W2, w2, rfl, HP.out, by omega, same, by simp [World.setCell], hbf⟩
end Go.Proofs.Ytipeelkmmjgehaa
/- The walks over the model's ExtentWrite (written by mkextw.py). -/
namespace Go.Proofs.Ytipeelkmmjgehaa
open Go Go.RowKit
set_option maxRecDepth 100000 in
set_option maxHeartbeats 1600000 in
theorem spec_extentWrite_long (v : Value) (nS : Nat) (S : Nat → ByteArray) (nC : Nat) (A : Nat → Int) (X : Nat → ByteArray) (a : Int) (t : ByteArray) (w : World) (hts : 20000 < t.size) (htm : t.size ≤ 9223372036854775807) (h : dskI w w.heap.size v nS S nC A X) :
    Calls Try.prog 17 #[v, .int .i64 a, .string t] w fun e w' => e = .returned (doutV (.slice none 0 0) (.slice none 0 0) ⟨#[]⟩ 2) ∧ Below w.heap.size w w' := by
  obtain ⟨sv, cv, rfl, hs, hc⟩ := h
  have HI := hide (show dskI w w.heap.size (.agg #[sv, cv]) nS S nC A X from ⟨sv, cv, rfl, hs, hc⟩)
  obtain ⟨sa, sk, e1⟩ : ∃ a c, sv = .slice a nS c := by obtain ⟨a, c, e, _⟩ := hs; exact ⟨a, c, e⟩
  obtain ⟨ca, ck, e2⟩ : ∃ a c, cv = .slice a nC c := by obtain ⟨a, c, e, _⟩ := hc; exact ⟨a, c, e⟩
  subst e1 e2
  clear hs hc
  obtain ⟨q0, q1, q2, q3⟩ := box2 w (.cells #[.slice sa nS sk, .slice ca nC ck] 26) (.cells #[.slice none 0 0, .slice none 0 0, .string ⟨#[]⟩, .int .i64 0] 30)
  have HQ := hide (And.intro q0 (And.intro q1 (And.intro q2 q3)))
  clear q0 q1 q2 q3
  have d1 : decide ((20000 : Int) < (t.size : Int)) = true := decide_eq_true (by omega)
  clear HI HQ
  go_enter Try.func17, Try.ntmps17
  go_wp2_with fail
  go_returns
  exact ⟨rfl, by go_grown⟩
set_option maxRecDepth 100000 in
set_option maxHeartbeats 1600000 in
theorem spec_extentWrite_form (v : Value) (nS : Nat) (S : Nat → ByteArray) (nC : Nat) (A : Nat → Int) (X : Nat → ByteArray) (a : Int) (t : ByteArray) (w : World) (hts : t.size ≤ 20000) (hS : nS ≤ 1048576) (hC : nC ≤ 1048576) (hno : ¬ dskOk nS S nC A X) (h : dskI w w.heap.size v nS S nC A X) :
    Calls Try.prog 17 #[v, .int .i64 a, .string t] w fun e w' => e = .returned (doutV (.slice none 0 0) (.slice none 0 0) ⟨#[]⟩ 1) ∧ Below w.heap.size w w' := by
  obtain ⟨sv, cv, rfl, hs, hc⟩ := h
  have HI := hide (show dskI w w.heap.size (.agg #[sv, cv]) nS S nC A X from ⟨sv, cv, rfl, hs, hc⟩)
  obtain ⟨sa, sk, e1⟩ : ∃ a c, sv = .slice a nS c := by obtain ⟨a, c, e, _⟩ := hs; exact ⟨a, c, e⟩
  obtain ⟨ca, ck, e2⟩ : ∃ a c, cv = .slice a nC c := by obtain ⟨a, c, e, _⟩ := hc; exact ⟨a, c, e⟩
  subst e1 e2
  clear hs hc
  obtain ⟨q0, q1, q2, q3⟩ := box2 w (.cells #[.slice sa nS sk, .slice ca nC ck] 26) (.cells #[.slice none 0 0, .slice none 0 0, .string ⟨#[]⟩, .int .i64 0] 30)
  have HQ := hide (And.intro q0 (And.intro q1 (And.intro q2 q3)))
  clear q0 q1 q2 q3
  have d1 : decide ((20000 : Int) < (t.size : Int)) = false := decide_eq_false (by omega)
  have HNO := hide hno
  clear hno
  go_enter Try.func17, Try.ntmps17
  go_wp2_with fail
  obtain ⟨q0, q1, q2, q3⟩ := HQ.out
  generalize ((w.alloc (.cells #[.slice sa nS sk, .slice ca nC ck] 26)).alloc (.cells #[.slice none 0 0, .slice none 0 0, .string ⟨#[]⟩, .int .i64 0] 30)) = W2 at *
  have I2 : dskI W2 W2.heap.size (.agg #[.slice sa nS sk, .slice ca nC ck]) nS S nC A X := (HI.out.below q0).wide (by omega)
  refine (spec_diskRight _ nS S nC A X W2 hS hC I2).mono ?_
  rintro e w1 ⟨⟨r, rfl, hr⟩, hb1⟩
  obtain rfl : r = false := by cases r; rfl; exact absurd (hr.1 rfl) HNO.out
  have hsz1 := hb1.size
  have r2 := (hb1.block w.heap.size (by omega)).trans q2
  have r3 := (hb1.block (w.heap.size + 1) (by omega)).trans q3
  have c0 : w1.cell? ⟨w.heap.size + 1, 0, none⟩ = some (.slice none 0 0) := by simp [World.cell?, r3]
  have f0 : w1.frozen? ⟨w.heap.size + 1, 0, none⟩ = false := by simp [World.frozen?, r3]
  have c1 : w1.cell? ⟨w.heap.size + 1, 1, none⟩ = some (.slice none 0 0) := by simp [World.cell?, r3]
  have f1 : w1.frozen? ⟨w.heap.size + 1, 1, none⟩ = false := by simp [World.frozen?, r3]
  have c2 : w1.cell? ⟨w.heap.size + 1, 2, none⟩ = some (.string ⟨#[]⟩) := by simp [World.cell?, r3]
  have f2 : w1.frozen? ⟨w.heap.size + 1, 2, none⟩ = false := by simp [World.frozen?, r3]
  have c3 : w1.cell? ⟨w.heap.size + 1, 3, none⟩ = some (.int .i64 0) := by simp [World.cell?, r3]
  have f3 : w1.frozen? ⟨w.heap.size + 1, 3, none⟩ = false := by simp [World.frozen?, r3]
  have HR := hide r3
  have HB := hide (q0.trans (hb1.mono (by omega)))
  clear hr hb1 q0 q1 q2 q3 I2 HQ r2 r3
  go_wp2_with fail
  have fin := set4_blk w1 (w.heap.size + 1) _ _ _ _ (.slice none 0 0) (.slice none 0 0) (.string ⟨#[]⟩) (.int .i64 1) _ HR.out
  have hbf := below_set4 HB.out (w.heap.size + 1) (by omega) (.slice none 0 0) (.slice none 0 0) (.string ⟨#[]⟩) (.int .i64 1)
  exact bodyPost_ret (results_cell_row Try.results17 _ _ (w.heap.size + 1) 30 #[.slice none 0 0, .slice none 0 0, .string ⟨#[]⟩, .int .i64 1] (0, 0) _ rfl fin Try.underlying30 rfl (by kernel_rfl)) rfl ⟨rfl, hbf⟩
set_option maxRecDepth 100000 in
set_option maxHeartbeats 1600000 in
theorem spec_extentWrite_empty (v : Value) (nS : Nat) (S : Nat → ByteArray) (nC : Nat) (A : Nat → Int) (X : Nat → ByteArray) (a : Int) (t : ByteArray) (w : World) (ht0 : t.size = 0) (hok : dskOk nS S nC A X) (h : dskI w w.heap.size v nS S nC A X) :
    Calls Try.prog 17 #[v, .int .i64 a, .string t] w fun e w' => e = .returned (doutV (.slice none 0 0) (.slice none 0 0) ⟨#[]⟩ 8) ∧ Below w.heap.size w w' := by
  obtain ⟨sv, cv, rfl, hs, hc⟩ := h
  have HI := hide (show dskI w w.heap.size (.agg #[sv, cv]) nS S nC A X from ⟨sv, cv, rfl, hs, hc⟩)
  obtain ⟨sa, sk, e1⟩ : ∃ a c, sv = .slice a nS c := by obtain ⟨a, c, e, _⟩ := hs; exact ⟨a, c, e⟩
  obtain ⟨ca, ck, e2⟩ : ∃ a c, cv = .slice a nC c := by obtain ⟨a, c, e, _⟩ := hc; exact ⟨a, c, e⟩
  subst e1 e2
  clear hs hc
  obtain ⟨q0, q1, q2, q3⟩ := box2 w (.cells #[.slice sa nS sk, .slice ca nC ck] 26) (.cells #[.slice none 0 0, .slice none 0 0, .string ⟨#[]⟩, .int .i64 0] 30)
  have HQ := hide (And.intro q0 (And.intro q1 (And.intro q2 q3)))
  clear q0 q1 q2 q3
  have d1 : decide ((20000 : Int) < (t.size : Int)) = false := decide_eq_false (by omega)
  have hstr : t.toList.isEmpty = true := isEmpty_yes ht0
  have hS : nS ≤ 1048576 := by have := hok.1; omega
  have hC : nC ≤ 1048576 := by have := hok.2.1; omega
  have HOK := hide hok
  clear hok
  go_enter Try.func17, Try.ntmps17
  go_wp2_with fail
  obtain ⟨q0, q1, q2, q3⟩ := HQ.out
  generalize ((w.alloc (.cells #[.slice sa nS sk, .slice ca nC ck] 26)).alloc (.cells #[.slice none 0 0, .slice none 0 0, .string ⟨#[]⟩, .int .i64 0] 30)) = W2 at *
  have I2 : dskI W2 W2.heap.size (.agg #[.slice sa nS sk, .slice ca nC ck]) nS S nC A X := (HI.out.below q0).wide (by omega)
  refine (spec_diskRight _ nS S nC A X W2 hS hC I2).mono ?_
  rintro e w1 ⟨⟨r, rfl, hr⟩, hb1⟩
  obtain rfl : r = true := hr.2 HOK.out
  have hsz1 := hb1.size
  have r2 := (hb1.block w.heap.size (by omega)).trans q2
  have r3 := (hb1.block (w.heap.size + 1) (by omega)).trans q3
  have c0 : w1.cell? ⟨w.heap.size + 1, 0, none⟩ = some (.slice none 0 0) := by simp [World.cell?, r3]
  have f0 : w1.frozen? ⟨w.heap.size + 1, 0, none⟩ = false := by simp [World.frozen?, r3]
  have c1 : w1.cell? ⟨w.heap.size + 1, 1, none⟩ = some (.slice none 0 0) := by simp [World.cell?, r3]
  have f1 : w1.frozen? ⟨w.heap.size + 1, 1, none⟩ = false := by simp [World.frozen?, r3]
  have c2 : w1.cell? ⟨w.heap.size + 1, 2, none⟩ = some (.string ⟨#[]⟩) := by simp [World.cell?, r3]
  have f2 : w1.frozen? ⟨w.heap.size + 1, 2, none⟩ = false := by simp [World.frozen?, r3]
  have c3 : w1.cell? ⟨w.heap.size + 1, 3, none⟩ = some (.int .i64 0) := by simp [World.cell?, r3]
  have f3 : w1.frozen? ⟨w.heap.size + 1, 3, none⟩ = false := by simp [World.frozen?, r3]
  have HR := hide r3
  have HB := hide (q0.trans (hb1.mono (by omega)))
  clear hr hb1 q0 q1 q2 q3 I2 HQ r2 r3
  go_wp2_with fail
  have fin := set4_blk w1 (w.heap.size + 1) _ _ _ _ (.slice none 0 0) (.slice none 0 0) (.string ⟨#[]⟩) (.int .i64 8) _ HR.out
  have hbf := below_set4 HB.out (w.heap.size + 1) (by omega) (.slice none 0 0) (.slice none 0 0) (.string ⟨#[]⟩) (.int .i64 8)
  exact bodyPost_ret (results_cell_row Try.results17 _ _ (w.heap.size + 1) 30 #[.slice none 0 0, .slice none 0 0, .string ⟨#[]⟩, .int .i64 8] (0, 0) _ rfl fin Try.underlying30 rfl (by kernel_rfl)) rfl ⟨rfl, hbf⟩
set_option maxRecDepth 100000 in
set_option maxHeartbeats 1600000 in
theorem spec_extentWrite_ok (v : Value) (nS : Nat) (S : Nat → ByteArray) (nC : Nat) (A : Nat → Int) (X : Nat → ByteArray) (a : Int) (t : ByteArray) (w : World) (hts : t.size ≤ 20000) (ht0 : t.size ≠ 0) (hok : dskOk nS S nC A X) (h : dskI w w.heap.size v nS S nC A X) (Post : Value → Value → Int → World → World → Prop)
    (hW : ∀ (u : World) (x : Value), dskI u u.heap.size x nS S nC A X → Calls Try.prog 44 #[x, .int .i64 a, .string t] u fun e w' => ∃ sv cv c, e = .returned (doutV sv cv ⟨#[]⟩ c) ∧ (∃ x1 y1 z1 x2 y2 z2, sv = .slice x1 y1 z1 ∧ cv = .slice x2 y2 z2) ∧ Post sv cv c u w' ∧ Below u.heap.size u w') :
    Calls Try.prog 17 #[v, .int .i64 a, .string t] w fun e w' => ∃ sv cv c u w1, e = .returned (doutV sv cv ⟨#[]⟩ c) ∧ Post sv cv c u w1 ∧ w.heap.size + 2 ≤ u.heap.size ∧ (∀ j, j ≠ w.heap.size + 1 → w'.heap[j]? = w1.heap[j]?) ∧ w'.heap.size = w1.heap.size ∧ Below w.heap.size w w' := by
  obtain ⟨sv, cv, rfl, hs, hc⟩ := h
  have HI := hide (show dskI w w.heap.size (.agg #[sv, cv]) nS S nC A X from ⟨sv, cv, rfl, hs, hc⟩)
  obtain ⟨sa, sk, e1⟩ : ∃ a c, sv = .slice a nS c := by obtain ⟨a, c, e, _⟩ := hs; exact ⟨a, c, e⟩
  obtain ⟨ca, ck, e2⟩ : ∃ a c, cv = .slice a nC c := by obtain ⟨a, c, e, _⟩ := hc; exact ⟨a, c, e⟩
  subst e1 e2
  clear hs hc
  obtain ⟨q0, q1, q2, q3⟩ := box2 w (.cells #[.slice sa nS sk, .slice ca nC ck] 26) (.cells #[.slice none 0 0, .slice none 0 0, .string ⟨#[]⟩, .int .i64 0] 30)
  have HQ := hide (And.intro q0 (And.intro q1 (And.intro q2 q3)))
  clear q0 q1 q2 q3
  have d1 : decide ((20000 : Int) < (t.size : Int)) = false := decide_eq_false (by omega)
  have hstr : t.toList.isEmpty = false := isEmpty_no ht0
  have hS : nS ≤ 1048576 := by have := hok.1; omega
  have hC : nC ≤ 1048576 := by have := hok.2.1; omega
  have HOK := hide hok
  clear hok
  have HW := hide hW
  clear hW
  go_enter Try.func17, Try.ntmps17
  go_wp2_with fail
  obtain ⟨q0, q1, q2, q3⟩ := HQ.out
  generalize ((w.alloc (.cells #[.slice sa nS sk, .slice ca nC ck] 26)).alloc (.cells #[.slice none 0 0, .slice none 0 0, .string ⟨#[]⟩, .int .i64 0] 30)) = W2 at *
  have I2 : dskI W2 W2.heap.size (.agg #[.slice sa nS sk, .slice ca nC ck]) nS S nC A X := (HI.out.below q0).wide (by omega)
  refine (spec_diskRight _ nS S nC A X W2 hS hC I2).mono ?_
  rintro e w1 ⟨⟨r, rfl, hr⟩, hb1⟩
  obtain rfl : r = true := hr.2 HOK.out
  have hsz1 := hb1.size
  have r2 := (hb1.block w.heap.size (by omega)).trans q2
  have r3 := (hb1.block (w.heap.size + 1) (by omega)).trans q3
  have b0 : w1.cell? ⟨w.heap.size, 0, none⟩ = some (.slice sa nS sk) := by simp [World.cell?, r2]
  have b1 : w1.cell? ⟨w.heap.size, 1, none⟩ = some (.slice ca nC ck) := by simp [World.cell?, r2]
  have SW := hide (HW.out w1 _ ((I2.below hb1).wide hsz1))
  have HR3 := hide r3
  have HB1 := hide (q0.trans (hb1.mono (by omega)))
  clear hr hb1 q0 q2 q3 I2 HQ r2 r3 HW
  go_wp2_with fail
  refine SW.out.mono ?_
  rintro e w2 ⟨sv, cv, c, rfl, ⟨x1, y1, zz1, x2, y2, zz2, rfl, rfl⟩, hp, hb2⟩
  have r3 := (hb2.block (w.heap.size + 1) (by omega)).trans HR3.out
  have c0 : w2.cell? ⟨w.heap.size + 1, 0, none⟩ = some (.slice none 0 0) := by simp [World.cell?, r3]
  have f0 : w2.frozen? ⟨w.heap.size + 1, 0, none⟩ = false := by simp [World.frozen?, r3]
  have c1 : w2.cell? ⟨w.heap.size + 1, 1, none⟩ = some (.slice none 0 0) := by simp [World.cell?, r3]
  have f1 : w2.frozen? ⟨w.heap.size + 1, 1, none⟩ = false := by simp [World.frozen?, r3]
  have c2 : w2.cell? ⟨w.heap.size + 1, 2, none⟩ = some (.string ⟨#[]⟩) := by simp [World.cell?, r3]
  have f2 : w2.frozen? ⟨w.heap.size + 1, 2, none⟩ = false := by simp [World.frozen?, r3]
  have c3 : w2.cell? ⟨w.heap.size + 1, 3, none⟩ = some (.int .i64 0) := by simp [World.cell?, r3]
  have f3 : w2.frozen? ⟨w.heap.size + 1, 3, none⟩ = false := by simp [World.frozen?, r3]
  have HR := hide r3
  have HB := hide (HB1.out.trans (hb2.mono (by omega)))
  have HP := hide hp
  simp only [doutV]
  clear hb2 r3 HR3 HB1 SW hp
  go_wp2_with fail
  have same : ∀ j, j ≠ w.heap.size + 1 → ((((w2.setCell ⟨w.heap.size + 1, 0, none⟩ (.slice x1 y1 zz1)).setCell ⟨w.heap.size + 1, 1, none⟩ (.slice x2 y2 zz2)).setCell ⟨w.heap.size + 1, 2, none⟩ (.string ⟨#[]⟩)).setCell ⟨w.heap.size + 1, 3, none⟩ (.int .i64 c)).heap[j]? = w2.heap[j]? := fun j hj => (set1_o _ _ _ _ _ hj).trans ((set1_o _ _ _ _ _ hj).trans ((set1_o _ _ _ _ _ hj).trans (set1_o _ _ _ _ _ hj)))
  have fin := set4_blk w2 (w.heap.size + 1) _ _ _ _ (.slice x1 y1 zz1) (.slice x2 y2 zz2) (.string ⟨#[]⟩) (.int .i64 c) _ HR.out
  have hbf := below_set4 HB.out (w.heap.size + 1) (by omega) (.slice x1 y1 zz1) (.slice x2 y2 zz2) (.string ⟨#[]⟩) (.int .i64 c)
  exact bodyPost_ret (results_cell_row Try.results17 _ _ (w.heap.size + 1) 30 #[.slice x1 y1 zz1, .slice x2 y2 zz2, .string ⟨#[]⟩, .int .i64 c] (0, 0) _ rfl fin Try.underlying30 rfl (by kernel_rfl)) rfl ⟨_, _, _, w1, w2, rfl, HP.out, by omega, same, by simp [World.setCell], hbf⟩
end Go.Proofs.Ytipeelkmmjgehaa
/- The walk over the program's through, with read. -/
namespace Go.Proofs.Ytipeelkmmjgehaa
open Go Go.RowKit
theorem row_u8 {w : World} {g t n : Nat} {f k : Nat → UInt8} (h : w.rowIs g t n (u8V f)) (e : ∀ j, j < n → f j = k j) : w.rowIs g t n (u8V k) := row_cong h (fun j hj => by unfold u8V; rw [e j hj])
set_option maxRecDepth 100000 in
set_option maxHeartbeats 1600000 in
theorem imp_through_read (wb g n p0 nS sk nC mb : Nat) (sa ra : Option Addr) (S : Nat → ByteArray) (M : Int → Option ByteArray) (FF : Nat → ByteArray) (fr : Nat → UInt8) (gt : TypeId) (w : World) (hn : nS ≤ 620) (hp : p0 + n ≤ 64 * nS)
    (hFF : ∀ j, j < nS → FF j = (M (j : Int)).getD (S j) ∧ (FF j).size = 64) (hv : vwI w wb (.agg #[.slice sa nS sk, .map (some mb)]) nS S nC M)
    (hwb : w.heap[wb]? = some (.cells #[.slice sa nS sk, .map (some mb), .slice none 0 0] 65)) (hgw : wb < g) (hrun : n = 0 ∨ ra = some ⟨g, 0, none⟩) (hrow : w.rowIs g gt n (u8V fr)) :
    Calls Try.prog 38 #[.pointer (some ⟨wb, 0, none⟩), .int .i64 (p0 : Int), .slice ra n n, .func (.func 47) #[] #[]] w fun e w' => e = .returned (.tuple #[]) ∧ w'.rowIs g gt n (u8V fun j => dB FF (p0 + j)) ∧ w.grownBy w' (some g) := by
  have HV := hide hv
  have HWB := hide hwb
  have HRUN := hide hrun
  have HFF := hide hFF
  have HROW := hide hrow
  have hgl := hrow.lt
  clear hv hwb hrun hFF hrow
  go_enter Try.func38, Try.ntmps38
  go_wp2_with fail
  go_loopw [1, 2] (fun av rv wx => ∃ (k d : Nat) (rb : Option Addr), d = dN p0 n k ∧ (k = 0 ∨ 0 < n ∧ 64 * (p0 / 64 + (k - 1)) < p0 + n) ∧ av = .int .i64 ((p0 + d : Nat) : Int) ∧ rv = .slice rb (n - d) (n - d) ∧ Hid (d < n → rb = some ⟨g, d, none⟩) ∧ Hid (wx.rowIs g gt n (u8V fun j => if j < d then dB FF (p0 + j) else fr j)) ∧ Hid (w.grownBy wx (some g))) (fun _ rv _ => match rv with | .slice _ q _ => q | _ => 0)
  case atStart => exact ⟨0, 0, ra, (dN_zero p0 n).symm, .inl rfl, rfl, rfl, fun h => by rcases HRUN.out with h0 | h0; omega; exact h0, row_u8 HROW.out (fun j hj => (if_neg (by omega)).symm), ⟨rfl, rfl, rfl, Nat.le_refl _, fun _ _ _ => rfl⟩⟩
  case round =>
    obtain ⟨k, d, rb, hd, hk, rfl, rfl, hrb, HO, HG⟩ := hrel
    have hdn : d ≤ n := by rw [hd]; exact dN_le _ _ _
    obtain ⟨p, hp2⟩ : ∃ p, p = p0 + d := ⟨_, rfl⟩
    obtain ⟨q, hq⟩ : ∃ q, q = n - d := ⟨_, rfl⟩
    rw [← hp2, ← hq]
    by_cases hlt : d < n
    · obtain rfl := hrb.out hlt
      have hqpos : 0 < q := by omega
      have e1 : decide ((0 : Int) < (q : Int)) = true := decide_eq_true (by omega)
      obtain ⟨m, hm⟩ : ∃ m, m = min q (64 - p % 64) := ⟨_, rfl⟩
      have hpt := imp_partAt p g d q q m wr (by omega) hqpos (by omega) (by omega) hm
      obtain ⟨s1, s2, s3, s4, s5, s6⟩ := dN_step p0 n k m (by omega) (by rw [hm, hq, hp2, hd])
      rw [← hd] at s1 s2 s4 s6
      rw [← hp2] at s1 s4 s6
      obtain ⟨s, hs⟩ : ∃ s, s = p0 / 64 + k := ⟨_, rfl⟩
      obtain ⟨f, hf⟩ : ∃ f, f = p % 64 := ⟨_, rfl⟩
      rw [s1, ← hs, ← hf] at hpt
      have HPT := hide hpt
      have hsn : s < nS := by omega
      have hmq : m ≤ q := by omega
      have hcb : q ≤ 1048576 := by omega
      have hpb : p ≤ 39680 := by omega
      have hfm : f + m ≤ 64 := by rw [hf]; exact s4
      obtain ⟨d2, hd2⟩ : ∃ d2, d2 = d + m := ⟨_, rfl⟩
      obtain ⟨p2, hp3⟩ : ∃ p2, p2 = p + m := ⟨_, rfl⟩
      have s7 : (p : Int) + (m : Int) = (p2 : Int) := by omega
      have hp2b : p2 ≤ 39680 := by omega
      have hcell : ∀ j, j < n → (if d ≤ j ∧ j < d + m then bF (FF s) (f + (j - d)) else (if j < d then dB FF (p0 + j) else fr j)) = if j < d2 then dB FF (p0 + j) else fr j := fun j hj => by
        by_cases c1 : d ≤ j ∧ j < d + m
        · rw [if_pos c1, if_pos (by omega)]
          unfold dB
          rw [show (p0 + j) / 64 = s by omega, show (p0 + j) % 64 = f + (j - d) by omega]
        · rw [if_neg c1]
          by_cases c2 : j < d
          · rw [if_pos c2, if_pos (by omega)]
          · rw [if_neg c2, if_neg (by omega)]
      have hwr := HG.out.size
      have HX := hide (And.intro hcell (And.intro (HFF.out s hsn).1 (HFF.out s hsn).2))
      have HE := hide (show d2 = dN p0 n (k + 1) ∧ p2 = p0 + d2 ∧ q - m = n - d2 ∧ (d2 < n ↔ m < q) ∧ 0 < n ∧ 64 * (p0 / 64 + (k + 1 - 1)) < p0 + n ∧ d + m = d2 from ⟨by rw [hd2]; exact s2, by omega, by omega, by omega, by omega, by simpa using s3, hd2.symm⟩)
      have hom : d + m ≤ n := by omega
      have HV2 := hide (show vwI wr wb (.agg #[.slice sa nS sk, .map (some mb)]) nS S nC M from HV.out.below ⟨HG.out.os, HG.out.tape, HG.out.output, HG.out.size, fun x hx => HG.out.block x (by omega) (by simp; omega)⟩)
      have HWB2 := hide ((HG.out.block wb (by omega) (by simp; omega)).trans HWB.out)
      clear hpt hd hp2 hq hm s1 s2 s3 s4 s6 hs hf hd2 hp3 hcell hrb hk
      go_wp2_with fail
      refine HPT.out.mono ?_
      rintro e w1 ⟨rfl, hb1⟩
      have hz1 := hb1.size
      have al0 : Below w1.heap.size w1 (w1.alloc (.cells #[.int .i64 (s : Int), .int .i64 (f : Int), .slice (some ⟨g, d, none⟩) m q] 93)) := (Below.refl _ _).alloc (Nat.le_refl _) _
      have al1 := heap_alloc_new w1 (.cells #[.int .i64 (s : Int), .int .i64 (f : Int), .slice (some ⟨g, d, none⟩) m q] 93)
      have al2 : w1.heap.size < (w1.alloc (.cells #[.int .i64 (s : Int), .int .i64 (f : Int), .slice (some ⟨g, d, none⟩) m q] 93)).heap.size := by simp
      have AL := hide (And.intro al0 al1)
      clear al0 al1
      go_wp2_with fail
      generalize w1.alloc (.cells #[.int .i64 (s : Int), .int .i64 (f : Int), .slice (some ⟨g, d, none⟩) m q] 93) = w2 at *
      have hb2 := hb1.trans (AL.out.1.mono hz1)
      have hz2 := hb2.size
      refine (imp_read wb wb g d m q n s f nS sk nC mb sa (.slice none 0 0) S M (FF s) _ gt w2 hn hsn HX.out.2.1 HX.out.2.2 s5 hfm hom (by omega) (HV2.out.below (hb2.mono (by omega))) ((hb2.block wb (by omega)).trans HWB2.out) (HO.out.of_block (hb2.block g (by omega)))).mono ?_
      rintro e w3 ⟨rfl, ho3, hf3⟩
      have hpb3 := (hf3.block w1.heap.size al2 (by simp; omega)).trans AL.out.2
      have y2 : w3.cell? ⟨w1.heap.size, 2, none⟩ = some (.slice (some ⟨g, d, none⟩) m q) := by simp [World.cell?, hpb3]
      have R1 := hide (show w3.rowIs g gt n (u8V fun j => if j < d2 then dB FF (p0 + j) else fr j) from row_u8 ho3 (fun j hj => HX.out.1 j hj))
      have R3 := hide (show w.grownBy w3 (some g) from ⟨hf3.os.trans (hb2.os.trans HG.out.os), hf3.tape.trans (hb2.tape.trans HG.out.tape), hf3.output.trans (hb2.output.trans HG.out.output), by have := hf3.size; omega, fun x h1 h2 => (hf3.block x (by omega) h2).trans ((hb2.block x (by omega)).trans (HG.out.block x h1 h2))⟩)
      clear ho3 hf3 hpb3 hb1 hb2 AL HO HG HV2 HX
      go_wp2_with fail
      go_roundw
      case rel =>
        obtain ⟨x1, x2, x3, x5, x6, x7, x8⟩ := HE.out
        exact ⟨k + 1, d2, _, x1, .inr ⟨x6, x7⟩, by rw [x2], by rw [x3], fun h => by rw [if_neg (by have := x5.1 h; omega), x8], R1, R3⟩
      case measure => simp; omega
    · have e1 : decide ((0 : Int) < (q : Int)) = false := decide_eq_false (by omega)
      have hdn2 : d = n := by omega
      have HR := hide (show wr.rowIs g gt n (u8V fun j => dB FF (p0 + j)) from row_u8 HO.out (fun j hj => if_pos (by omega)))
      have hq0 : q = 0 := by omega
      clear hd hk hp2 hq hrb hdn2
      go_wp2_with fail
      exact bodyPost_end (v := .tuple #[]) (by simp [results, Try.results38]) rfl ⟨rfl, HR.out, HG.out⟩
end Go.Proofs.Ytipeelkmmjgehaa
/- The walk over the program's ExtentRead (written by mkextrd.py). -/
namespace Go.Proofs.Ytipeelkmmjgehaa
open Go Go.RowKit
set_option maxRecDepth 100000 in
set_option maxHeartbeats 3200000 in
theorem imp_extentRead (v : Value) (nS : Nat) (S : Nat → ByteArray) (nC : Nat) (A : Nat → Int) (X : Nat → ByteArray) (a m : Int) (w : World) (hS : nS ≤ 1048576) (hC : nC ≤ 1048576) (h : dskI w w.heap.size v nS S nC A X) :
    Calls Try.prog 13 #[v, .agg #[.int .i64 a, .int .i64 m]] w fun e w' => ∃ t c, e = .returned (doutV (.slice none 0 0) (.slice none 0 0) t c) ∧ rdOut nS S nC A X a m t c ∧ Below w.heap.size w w' := by
  obtain ⟨sv, cv, rfl, hs, hc⟩ := h
  have HI := hide (show dskI w w.heap.size (.agg #[sv, cv]) nS S nC A X from ⟨sv, cv, rfl, hs, hc⟩)
  obtain ⟨sa, sk, e1⟩ : ∃ a c, sv = .slice a nS c := by obtain ⟨a, c, e, _⟩ := hs; exact ⟨a, c, e⟩
  obtain ⟨ca, ck, e2⟩ : ∃ a c, cv = .slice a nC c := by obtain ⟨a, c, e, _⟩ := hc; exact ⟨a, c, e⟩
  subst e1 e2
  clear hs hc
  have HQ := hide (box3 w (.cells #[.slice sa nS sk, .slice ca nC ck] 26) (.cells #[.int .i64 a, .int .i64 m] 34) (.cells #[.slice none 0 0, .slice none 0 0, .string ⟨#[]⟩, .int .i64 0] 30))
  go_enter Try.func13, Try.ntmps13
  go_wp2_with fail
  obtain ⟨q0, q1, q2, q3, q4⟩ := HQ.out
  generalize (((w.alloc (.cells #[.slice sa nS sk, .slice ca nC ck] 26)).alloc (.cells #[.int .i64 a, .int .i64 m] 34)).alloc (.cells #[.slice none 0 0, .slice none 0 0, .string ⟨#[]⟩, .int .i64 0] 30)) = W2 at *
  have I2 : dskI W2 W2.heap.size (.agg #[.slice sa nS sk, .slice ca nC ck]) nS S nC A X := (HI.out.below q0).wide (by omega)
  have HS0 := hide (And.intro q2 (And.intro q3 (And.intro q4 q0)))
  refine (imp_diskRight _ nS S nC A X W2 hS hC I2).mono ?_
  rintro e w1 ⟨⟨r, rfl, hr⟩, hb1⟩
  clear q0 q2 q3 q4 HQ
  obtain ⟨k2, k3, k4, k5⟩ := HS0.out
  replace k2 := (hb1.block w.heap.size (by have := k5.size; omega)).trans k2
  replace k3 := (hb1.block (w.heap.size + 1) (by have := (Array.getElem?_eq_some_iff.1 k4).1; omega)).trans k3
  replace k4 := (hb1.block (w.heap.size + 2) (Array.getElem?_eq_some_iff.1 k4).1).trans k4
  replace k5 := k5.trans (hb1.mono k5.size)
  have HS1 := hide (And.intro k2 (And.intro k3 (And.intro k4 k5)))
  have I1 := hide ((I2.below hb1).wide hb1.size)
  have hz1 := hb1.size
  have b0 : w1.cell? ⟨w.heap.size, 0, none⟩ = some (.slice sa nS sk) := by simp [World.cell?, k2]
  have b1 : w1.cell? ⟨w.heap.size, 1, none⟩ = some (.slice ca nC ck) := by simp [World.cell?, k2]
  have e0 : w1.cell? ⟨w.heap.size + 1, 0, none⟩ = some (.int .i64 a) := by simp [World.cell?, k3]
  have e1 : w1.cell? ⟨w.heap.size + 1, 1, none⟩ = some (.int .i64 m) := by simp [World.cell?, k3]
  have oc0 : w1.cell? ⟨w.heap.size + 2, 0, none⟩ = some (.slice none 0 0) := by simp [World.cell?, k4]
  have of0 : w1.frozen? ⟨w.heap.size + 2, 0, none⟩ = false := by simp [World.frozen?, k4]
  have oc1 : w1.cell? ⟨w.heap.size + 2, 1, none⟩ = some (.slice none 0 0) := by simp [World.cell?, k4]
  have of1 : w1.frozen? ⟨w.heap.size + 2, 1, none⟩ = false := by simp [World.frozen?, k4]
  have oc2 : w1.cell? ⟨w.heap.size + 2, 2, none⟩ = some (.string ⟨#[]⟩) := by simp [World.cell?, k4]
  have of2 : w1.frozen? ⟨w.heap.size + 2, 2, none⟩ = false := by simp [World.frozen?, k4]
  have oc3 : w1.cell? ⟨w.heap.size + 2, 3, none⟩ = some (.int .i64 0) := by simp [World.cell?, k4]
  have of3 : w1.frozen? ⟨w.heap.size + 2, 3, none⟩ = false := by simp [World.frozen?, k4]
  clear k2 k3 k4 k5 HS0 hb1 I2
  cases r with
  | false =>
    have R := hide (show ¬ dskOk nS S nC A X from fun h => by have := hr.2 h; cases this)
    have HR := hide HS1.out.2.2.1
    have HB := hide HS1.out.2.2.2
    clear hr
    go_wp2_with fail
    have fin := set4_blk w1 (w.heap.size + 2) _ _ _ _ (.slice none 0 0) (.slice none 0 0) (.string ⟨#[]⟩) (.int .i64 1) _ HR.out
    have hbf := below_set4 HB.out (w.heap.size + 2) (by omega) (.slice none 0 0) (.slice none 0 0) (.string ⟨#[]⟩) (.int .i64 1)
    exact bodyPost_ret (results_cell_row Try.results13 _ _ (w.heap.size + 2) 30 #[.slice none 0 0, .slice none 0 0, .string ⟨#[]⟩, .int .i64 1] (0, 0) _ rfl fin Try.underlying30 rfl (by kernel_rfl)) rfl ⟨_, _, rfl, .inl ⟨R.out, rfl, rfl⟩, hbf⟩
  | true =>
    have R := hide (hr.1 rfl)
    clear hr
    go_wp2_with fail
    refine (imp_extentRight a m (nS : Int) w1).mono ?_
    rintro e w2 ⟨⟨r, rfl, hr⟩, hb2⟩
    clear b0 b1 e0 e1 oc0 of0 oc1 of1 oc2 of2 oc3 of3
    obtain ⟨k2, k3, k4, k5⟩ := HS1.out
    replace k2 := (hb2.block w.heap.size (by have := k5.size; omega)).trans k2
    replace k3 := (hb2.block (w.heap.size + 1) (by have := (Array.getElem?_eq_some_iff.1 k4).1; omega)).trans k3
    replace k4 := (hb2.block (w.heap.size + 2) (Array.getElem?_eq_some_iff.1 k4).1).trans k4
    replace k5 := k5.trans (hb2.mono k5.size)
    have HS2 := hide (And.intro k2 (And.intro k3 (And.intro k4 k5)))
    have I2 := hide ((I1.out.below hb2).wide hb2.size)
    have hz2 := hb2.size
    have b0 : w2.cell? ⟨w.heap.size, 0, none⟩ = some (.slice sa nS sk) := by simp [World.cell?, k2]
    have b1 : w2.cell? ⟨w.heap.size, 1, none⟩ = some (.slice ca nC ck) := by simp [World.cell?, k2]
    have e0 : w2.cell? ⟨w.heap.size + 1, 0, none⟩ = some (.int .i64 a) := by simp [World.cell?, k3]
    have e1 : w2.cell? ⟨w.heap.size + 1, 1, none⟩ = some (.int .i64 m) := by simp [World.cell?, k3]
    have oc0 : w2.cell? ⟨w.heap.size + 2, 0, none⟩ = some (.slice none 0 0) := by simp [World.cell?, k4]
    have of0 : w2.frozen? ⟨w.heap.size + 2, 0, none⟩ = false := by simp [World.frozen?, k4]
    have oc1 : w2.cell? ⟨w.heap.size + 2, 1, none⟩ = some (.slice none 0 0) := by simp [World.cell?, k4]
    have of1 : w2.frozen? ⟨w.heap.size + 2, 1, none⟩ = false := by simp [World.frozen?, k4]
    have oc2 : w2.cell? ⟨w.heap.size + 2, 2, none⟩ = some (.string ⟨#[]⟩) := by simp [World.cell?, k4]
    have of2 : w2.frozen? ⟨w.heap.size + 2, 2, none⟩ = false := by simp [World.frozen?, k4]
    have oc3 : w2.cell? ⟨w.heap.size + 2, 3, none⟩ = some (.int .i64 0) := by simp [World.cell?, k4]
    have of3 : w2.frozen? ⟨w.heap.size + 2, 3, none⟩ = false := by simp [World.frozen?, k4]
    clear k2 k3 k4 k5 HS1 hb2 I1
    cases r with
    | false =>
      have RE := hide (show ¬ extOk a m (nS : Int) from fun h => by have := hr.2 h; cases this)
      have HR := hide HS2.out.2.2.1
      have HB := hide HS2.out.2.2.2
      clear hr
      go_wp2_with fail
      have fin := set4_blk w2 (w.heap.size + 2) _ _ _ _ (.slice none 0 0) (.slice none 0 0) (.string ⟨#[]⟩) (.int .i64 8) _ HR.out
      have hbf := below_set4 HB.out (w.heap.size + 2) (by omega) (.slice none 0 0) (.slice none 0 0) (.string ⟨#[]⟩) (.int .i64 8)
      exact bodyPost_ret (results_cell_row Try.results13 _ _ (w.heap.size + 2) 30 #[.slice none 0 0, .slice none 0 0, .string ⟨#[]⟩, .int .i64 8] (0, 0) _ rfl fin Try.underlying30 rfl (by kernel_rfl)) rfl ⟨_, _, rfl, .inr (.inl ⟨R.out, RE.out, rfl, rfl⟩), hbf⟩
    | true =>
      have hE := hr.1 rfl
      have RE := hide hE
      unfold extOk at hE
      obtain ⟨m, rfl⟩ : ∃ k : Nat, m = (k : Int) := ⟨m.toNat, by omega⟩
      obtain ⟨a, rfl⟩ : ∃ k : Nat, a = (k : Int) := ⟨a.toNat, by omega⟩
      have hm2 : m ≤ 20000 := by omega
      have hn6 := R.out.1
      have hn4 := R.out.2.1
      have hfit : 64 * a + m ≤ 64 * nS := by simp only [Int.toNat_natCast] at hE; omega
      obtain ⟨p0, hp0⟩ : ∃ p0, p0 = 64 * a := ⟨_, rfl⟩
      have s1 : (a : Int) * 64 = (p0 : Int) := by omega
      have hpb : (p0 : Int) ≤ 39680 := by omega
      rw [← hp0] at hfit
      have HP0 := hide hp0
      clear hr hE hp0
      clear e0 e1 oc0 of0 oc1 of1 oc2 of2 oc3 of3
      go_wp2_with fail
      refine (imp_viewOf _ nS S nC A X w2 R.out I2.out).mono ?_
      rintro e w3 ⟨o, rfl, hv, hb3⟩
      obtain ⟨sa2, sk2, mb, rfl, _⟩ := id hv
      have HV := hide hv
      clear b0 b1
      obtain ⟨k2, k3, k4, k5⟩ := HS2.out
      replace k2 := (hb3.block w.heap.size (by have := k5.size; omega)).trans k2
      replace k3 := (hb3.block (w.heap.size + 1) (by have := (Array.getElem?_eq_some_iff.1 k4).1; omega)).trans k3
      replace k4 := (hb3.block (w.heap.size + 2) (Array.getElem?_eq_some_iff.1 k4).1).trans k4
      replace k5 := k5.trans (hb3.mono k5.size)
      have HS3 := hide (And.intro k2 (And.intro k3 (And.intro k4 k5)))
      have hz3 := hb3.size
      have hw3 : w.heap.size + 2 < w3.heap.size := (Array.getElem?_eq_some_iff.1 k4).1
      clear hb3 I2 HS2 hv k2 k3 k4 k5
      have hmk : ∀ w : World, (Instr.makeSlice 22 (.int .i64 (m : Int)) (.int .i64 (m : Int))).run Try.prog w = .ok (.slice (some ⟨w.heap.size, 0, none⟩) m m) (w.alloc (.cells (madeCells #[.int .u8 0] m) 5)) := run_make_row' (P := Try.prog) 22 5 (.int .u8 0) 1 (by kernel_rfl) Try.infoB8t rfl .i64 .i64 m (by omega) (by omega)
      have al0 : Below w3.heap.size w3 (w3.alloc (.cells #[.slice sa2 nS sk2, .map (some mb), .slice none 0 0] 65)) := (Below.refl _ _).alloc (Nat.le_refl _) _
      have al1 : (w3.alloc (.cells #[.slice sa2 nS sk2, .map (some mb), .slice none 0 0] 65)).heap[w3.heap.size]? = some (.cells #[.slice sa2 nS sk2, .map (some mb), .slice none 0 0] 65) := heap_alloc_new _ _
      have al2 : (w3.alloc (.cells #[.slice sa2 nS sk2, .map (some mb), .slice none 0 0] 65)).heap.size = w3.heap.size + 1 := World.size_alloc _ _
      obtain ⟨k2, k3, k4, k5⟩ := HS3.out
      replace k2 := (al0.block w.heap.size (by have := k5.size; omega)).trans k2
      replace k3 := (al0.block (w.heap.size + 1) (by have := (Array.getElem?_eq_some_iff.1 k4).1; omega)).trans k3
      replace k4 := (al0.block (w.heap.size + 2) (Array.getElem?_eq_some_iff.1 k4).1).trans k4
      replace k5 := k5.trans (al0.mono k5.size)
      have HS4 := hide (And.intro k2 (And.intro k3 (And.intro k4 k5)))
      have e0 : (w3.alloc (.cells #[.slice sa2 nS sk2, .map (some mb), .slice none 0 0] 65)).cell? ⟨w.heap.size + 1, 0, none⟩ = some (.int .i64 a) := by simp [World.cell?, k3]
      have e1 : (w3.alloc (.cells #[.slice sa2 nS sk2, .map (some mb), .slice none 0 0] 65)).cell? ⟨w.heap.size + 1, 1, none⟩ = some (.int .i64 m) := by simp [World.cell?, k3]
      have bl0 : Below (w3.alloc (.cells #[.slice sa2 nS sk2, .map (some mb), .slice none 0 0] 65)).heap.size (w3.alloc (.cells #[.slice sa2 nS sk2, .map (some mb), .slice none 0 0] 65)) ((w3.alloc (.cells #[.slice sa2 nS sk2, .map (some mb), .slice none 0 0] 65)).alloc (.cells (madeCells #[.int .u8 0] m) 5)) := (Below.refl _ _).alloc (Nat.le_refl _) _
      have bl1 := World.rowIs_made (w3.alloc (.cells #[.slice sa2 nS sk2, .map (some mb), .slice none 0 0] 65)) (.int .u8 0) m 5
      have bl2 : ((w3.alloc (.cells #[.slice sa2 nS sk2, .map (some mb), .slice none 0 0] 65)).alloc (.cells (madeCells #[.int .u8 0] m) 5)).heap.size = (w3.alloc (.cells #[.slice sa2 nS sk2, .map (some mb), .slice none 0 0] 65)).heap.size + 1 := World.size_alloc _ _
      have e0b : ((w3.alloc (.cells #[.slice sa2 nS sk2, .map (some mb), .slice none 0 0] 65)).alloc (.cells (madeCells #[.int .u8 0] m) 5)).cell? ⟨w.heap.size + 1, 0, none⟩ = some (.int .i64 (a : Int)) := by have h := (bl0.block (w.heap.size + 1) (by omega)).trans k3; simp [World.cell?, h]
      have HS5 := hide (show ((w3.alloc (.cells #[.slice sa2 nS sk2, .map (some mb), .slice none 0 0] 65)).alloc (.cells (madeCells #[.int .u8 0] m) 5)).heap[w.heap.size + 2]? = some (.cells #[.slice none 0 0, .slice none 0 0, .string ⟨#[]⟩, .int .i64 0] 30) ∧ Below w.heap.size w ((w3.alloc (.cells #[.slice sa2 nS sk2, .map (some mb), .slice none 0 0] 65)).alloc (.cells (madeCells #[.int .u8 0] m) 5)) ∧ Below w3.heap.size w3 ((w3.alloc (.cells #[.slice sa2 nS sk2, .map (some mb), .slice none 0 0] 65)).alloc (.cells (madeCells #[.int .u8 0] m) 5)) ∧ ((w3.alloc (.cells #[.slice sa2 nS sk2, .map (some mb), .slice none 0 0] 65)).alloc (.cells (madeCells #[.int .u8 0] m) 5)).heap[w3.heap.size]? = some (.cells #[.slice sa2 nS sk2, .map (some mb), .slice none 0 0] 65) ∧ ((w3.alloc (.cells #[.slice sa2 nS sk2, .map (some mb), .slice none 0 0] 65)).alloc (.cells (madeCells #[.int .u8 0] m) 5)).rowIs (w3.heap.size + 1) 5 m (u8V fun _ => 0) from
        ⟨(bl0.block (w.heap.size + 2) (by omega)).trans k4, k5.trans (bl0.mono (by omega)), al0.trans (bl0.mono (by omega)), (bl0.block w3.heap.size (by omega)).trans al1, by rw [al2] at bl1; exact bl1⟩)
      have z5 : w3.heap.size + 1 < ((w3.alloc (.cells #[.slice sa2 nS sk2, .map (some mb), .slice none 0 0] 65)).alloc (.cells (madeCells #[.int .u8 0] m) 5)).heap.size := by omega
      clear al0 al1 bl0 bl1 bl2 k2 k3 k4 k5 HS3 HS4
      go_wp2_with fail
      clear e0 e1 e0b hmk al2
      generalize ((w3.alloc (.cells #[.slice sa2 nS sk2, .map (some mb), .slice none 0 0] 65)).alloc (.cells (madeCells #[.int .u8 0] m) 5)) = W5 at *
      obtain ⟨FF, hFF⟩ : ∃ FF, FF = flS S A X (fun _ => true) nC := ⟨_, rfl⟩
      have hFz : ∀ j, j < nS → FF j = (latM A X nC (j : Int)).getD (S j) ∧ (FF j).size = 64 := fun j hj => ⟨by rw [hFF]; exact flS_lat2 S A X nC j, by rw [hFF]; exact flS_size S A X _ nS R.out.2.2.1 nC (fun j hj => (R.out.2.2.2 j hj).2.2) j hj⟩
      have HFF := hide hFF
      clear hFF
      refine (imp_through_read w3.heap.size (w3.heap.size + 1) m p0 nS sk2 nC mb sa2 _ S (latM A X nC) FF (fun _ => 0) 5 W5 hn6 hfit hFz (HV.out.below HS5.out.2.2.1) HS5.out.2.2.2.1 (by omega) (.inr rfl) HS5.out.2.2.2.2).mono ?_
      rintro e w6 ⟨rfl, hr6, hg6⟩
      obtain ⟨TX, hTX⟩ : ∃ TX : ByteArray, TX = ⟨(dL FF p0 m).toArray⟩ := ⟨_, rfl⟩
      have hcv : (convert 22 9 (.slice (some ⟨w3.heap.size + 1, 0, none⟩) m m)).run Try.prog w6 = .ok (.string TX) w6 := by
        have h := run_convert_bytes_back (P := Try.prog) w6 22 9 5 ⟨w3.heap.size + 1, 0, none⟩ m (dL FF p0 m) Try.underlying22 Try.underlying5 Try.underlying9 (fun j hj => by
          have hj2 : j < m := by rw [dL_len] at hj; exact hj
          have ea : (⟨w3.heap.size + 1, 0, none⟩ : Addr).add j = ⟨w3.heap.size + 1, j, none⟩ := by by_cases hz : j = 0 <;> simp [Addr.add, hz]
          rw [ea, hr6.cell (i := j) hj2]
          simp [u8V, dL])
        rw [dL_len] at h
        rw [hTX]; exact h
      have k4 := (hg6.block (w.heap.size + 2) (by omega) (by simp; omega)).trans HS5.out.1
      have HB := hide (HS5.out.2.1.grown hg6 (by omega) (fun x hx => by cases hx; omega))
      have HR := hide k4
      have HTX := hide hTX
      have oc0 : w6.cell? ⟨w.heap.size + 2, 0, none⟩ = some (.slice none 0 0) := by simp [World.cell?, k4]
      have of0 : w6.frozen? ⟨w.heap.size + 2, 0, none⟩ = false := by simp [World.frozen?, k4]
      have oc1 : w6.cell? ⟨w.heap.size + 2, 1, none⟩ = some (.slice none 0 0) := by simp [World.cell?, k4]
      have of1 : w6.frozen? ⟨w.heap.size + 2, 1, none⟩ = false := by simp [World.frozen?, k4]
      have oc2 : w6.cell? ⟨w.heap.size + 2, 2, none⟩ = some (.string ⟨#[]⟩) := by simp [World.cell?, k4]
      have of2 : w6.frozen? ⟨w.heap.size + 2, 2, none⟩ = false := by simp [World.frozen?, k4]
      have oc3 : w6.cell? ⟨w.heap.size + 2, 3, none⟩ = some (.int .i64 0) := by simp [World.cell?, k4]
      have of3 : w6.frozen? ⟨w.heap.size + 2, 3, none⟩ = false := by simp [World.frozen?, k4]
      clear k4 hg6 hr6 HS5 hTX
      go_wp2_with fail
      have fin := set4_blk w6 (w.heap.size + 2) _ _ _ _ (.slice none 0 0) (.slice none 0 0) (.string TX) (.int .i64 0) _ HR.out
      have hbf := below_set4 HB.out (w.heap.size + 2) (by omega) (.slice none 0 0) (.slice none 0 0) (.string TX) (.int .i64 0)
      exact bodyPost_ret (results_cell_row Try.results13 _ _ (w.heap.size + 2) 30 #[.slice none 0 0, .slice none 0 0, .string TX, .int .i64 0] (0, 0) _ rfl fin Try.underlying30 rfl (by kernel_rfl)) rfl ⟨_, _, rfl, .inr (.inr ⟨R.out, RE.out, by rw [HTX.out, HFF.out, HP0.out]; rfl, rfl⟩), hbf⟩
end Go.Proofs.Ytipeelkmmjgehaa

/- ExtRs, ExtT, ExtTr, ExtRd, DwExR, OpenDisk, OpenExt, one behind the other. -/
import Derived.Test.YtipeelkmmjgehaaExtS
import Derived.Test.YtipeelkmmjgehaaExtM
import Derived.Test.YtipeelkmmjgehaaHeldOne
import Derived.Test.YtipeelkmmjgehaaExtK
import Derived.Test.YtipeelkmmjgehaaLwExRead
import Derived.Test.YtipeelkmmjgehaaRows
import Derived.Test.YtipeelkmmjgehaaLwDisk
import Derived.ProofKit
import Derived.OpenShut
import Derived.Deep.Slices
import Derived.Lib.SmallJoins
import Derived.Test.YtipeelkmmjgehaaOwn
/- The walks over the model's l09Read, ExtentRead (written by mkextrs.py). -/
namespace Go.Proofs.Ytipeelkmmjgehaa
open Go Go.RowKit
/-- What ExtentRead answers: a text and a code. -/
def rdOut (nS : Nat) (S : Nat → ByteArray) (nC : Nat) (A : Nat → Int) (X : Nat → ByteArray) (a m : Int) (t : ByteArray) (c : Int) : Prop :=
  (¬ dskOk nS S nC A X ∧ t = ⟨#[]⟩ ∧ c = 1) ∨ (dskOk nS S nC A X ∧ ¬ extOk a m (nS : Int) ∧ t = ⟨#[]⟩ ∧ c = 8) ∨ (dskOk nS S nC A X ∧ extOk a m (nS : Int) ∧ t = ⟨(dL (flS S A X (fun _ => true) nC) (64 * a.toNat) m.toNat).toArray⟩ ∧ c = 0)
theorem box3 (w : World) (a b c : Obj) : Below w.heap.size w (((w.alloc a).alloc b).alloc c) ∧ (((w.alloc a).alloc b).alloc c).heap.size = w.heap.size + 3 ∧ (((w.alloc a).alloc b).alloc c).heap[w.heap.size]? = some a ∧ (((w.alloc a).alloc b).alloc c).heap[w.heap.size + 1]? = some b ∧ (((w.alloc a).alloc b).alloc c).heap[w.heap.size + 2]? = some c := by
  obtain ⟨q0, q1, q2, q3⟩ := box2 w a b
  refine ⟨q0.alloc (by omega) _, by simp, (Below.heap_alloc _ _ _ (by omega)).trans q2, (Below.heap_alloc _ _ _ (by omega)).trans q3, ?_⟩
  have := heap_alloc_new ((w.alloc a).alloc b) c
  rwa [q1] at this
theorem dL_take (F : Nat → ByteArray) (p N m : Nat) (h : m ≤ N) : (⟨(dL F p N).toArray⟩ : ByteArray).extract 0 m = ⟨(dL F p m).toArray⟩ := by
  apply ByteArray.ext
  rw [ByteArray.data_extract]
  show (dL F p N).toArray.extract 0 m = (dL F p m).toArray
  obtain ⟨k, rfl⟩ : ∃ k, N = m + k := ⟨N - m, by omega⟩
  rw [dL_add, List.extract_toArray, List.extract_eq_take_drop, List.drop_zero, Nat.sub_zero, List.take_left' (dL_len _ _ _)]
theorem run_toW {P : Program} (w : World) (t : TypeId) (s : ByteArray) (m : Nat) (h : P.underlying t = some .string) (hS : m ≤ s.size) :
    (Instr.slice t (.string s) none (some (.int .i64 (m : Int))) none).run P w = .ok (.string (s.extract 0 m)) w := by
  rw [run_slice_string_to_if w t s .i64 _ h, if_pos (by omega), Int.toNat_natCast]
set_option maxRecDepth 100000 in
set_option maxHeartbeats 3200000 in
theorem spec_l09Read (v : Value) (nS : Nat) (S : Nat → ByteArray) (nC : Nat) (A : Nat → Int) (X : Nat → ByteArray) (a m : Nat) (w : World) (hok : dskOk nS S nC A X) (hm : m ≤ 20000) (hfit : 64 * a + m ≤ 64 * nS) (h : dskI w w.heap.size v nS S nC A X) :
    Calls Try.prog 45 #[v, .agg #[.int .i64 (a : Int), .int .i64 (m : Int)]] w fun e w' => e = .returned (.string ⟨(dL (flS S A X (fun _ => true) nC) (64 * a) m).toArray⟩) ∧ Below w.heap.size w w' := by
  obtain ⟨sv, cv, rfl, hs, hc⟩ := h
  have HI := hide (show dskI w w.heap.size (.agg #[sv, cv]) nS S nC A X from ⟨sv, cv, rfl, hs, hc⟩)
  obtain ⟨sa, sk, e1⟩ : ∃ a c, sv = .slice a nS c := by obtain ⟨a, c, e, _⟩ := hs; exact ⟨a, c, e⟩
  obtain ⟨ca, ck, e2⟩ : ∃ a c, cv = .slice a nC c := by obtain ⟨a, c, e, _⟩ := hc; exact ⟨a, c, e⟩
  subst e1 e2
  clear hs hc
  obtain ⟨q0, q1, q2, q3⟩ := box2 w (.cells #[.slice sa nS sk, .slice ca nC ck] 26) (.cells #[.int .i64 (a : Int), .int .i64 (m : Int)] 34)
  have HQ := hide (And.intro q0 (And.intro q1 (And.intro q2 q3)))
  clear q0 q1 q2 q3
  have hn6 := hok.1
  obtain ⟨K, hK⟩ : ∃ K, K = (m + 63) / 64 := ⟨_, rfl⟩
  have hKb : K ≤ 400 := by omega
  have haK : a + K ≤ nS := by omega
  have hmK : m ≤ 64 * K := by omega
  have hct := catL_dL (flS S A X (fun _ => true) nC) a K (fun j hj => flS_size S A X _ nS hok.2.2.1 nC (fun j hj => (hok.2.2.2 j hj).2.2) (a + j) (by omega))
  obtain ⟨TX, hTX⟩ : ∃ TX : ByteArray, TX = ⟨(catL (flS S A X (fun _ => true) nC) a K).toArray⟩ := ⟨_, rfl⟩
  have hTz : TX.size = 64 * K := by rw [hTX, hct]; exact dL_size _ _ _
  obtain ⟨RX, hRX⟩ : ∃ RX : ByteArray, RX = ⟨(dL (flS S A X (fun _ => true) nC) (64 * a) m).toArray⟩ := ⟨_, rfl⟩
  have hex : TX.extract 0 m = RX := by rw [hTX, hRX, hct]; exact dL_take _ _ _ _ hmK
  have hrun := fun (w : World) => run_toW (P := Try.prog) w 9 TX m Try.underlying9 (by omega)
  rw [hex] at hrun
  have ST := hide (fun (u : World) (h : dskI u u.heap.size (.agg #[.slice sa nS sk, .slice ca nC ck]) nS S nC A X) => spec_text _ nS S nC A X a K u hok haK (by omega) h)
  rw [← hTX] at ST
  have hsec := fun (u : World) => spec_sectors m u (by omega)
  rw [← hK] at hsec
  have HSEC := hide hsec
  rw [← hRX]
  have HRX := hide (And.intro hRX hTX)
  have HRUN := hide hrun
  clear hK hct hTX hRX hex hrun hsec hTz
  go_enter Try.func45, Try.ntmps45
  go_wp2_with fail
  obtain ⟨q0, q1, q2, q3⟩ := HQ.out
  generalize ((w.alloc (.cells #[.slice sa nS sk, .slice ca nC ck] 26)).alloc (.cells #[.int .i64 (a : Int), .int .i64 (m : Int)] 34)) = W2 at *
  clear HQ
  have SA := hide (show ∀ u : World, Below W2.heap.size W2 u → (fun u => (u.cell? ⟨w.heap.size, 0, none⟩ = some (.slice sa nS sk) ∧ u.cell? ⟨w.heap.size, 1, none⟩ = some (.slice ca nC ck)) ∧ u.cell? ⟨w.heap.size + 1, 0, none⟩ = some (.int .i64 (a : Int)) ∧ u.cell? ⟨w.heap.size + 1, 1, none⟩ = some (.int .i64 (m : Int))) u from fun u hu => by
    have h2 := (hu.block w.heap.size (by omega)).trans q2
    have h3 := (hu.block (w.heap.size + 1) (by omega)).trans q3
    exact ⟨⟨by simp [World.cell?, h2], by simp [World.cell?, h2]⟩, by simp [World.cell?, h3], by simp [World.cell?, h3]⟩)
  have I2 := hide (show dskI W2 W2.heap.size (.agg #[.slice sa nS sk, .slice ca nC ck]) nS S nC A X from (HI.out.below q0).wide (by omega))
  have Q0 := hide q0
  clear q0 q2 q3
  refine wp_region_held_drew (S := fun u => (u.cell? ⟨w.heap.size, 0, none⟩ = some (.slice sa nS sk) ∧ u.cell? ⟨w.heap.size, 1, none⟩ = some (.slice ca nC ck)) ∧ u.cell? ⟨w.heap.size + 1, 0, none⟩ = some (.int .i64 (a : Int)) ∧ u.cell? ⟨w.heap.size + 1, 1, none⟩ = some (.int .i64 (m : Int))) (by kernel_rfl) (SA.out _ (Below.refl _ _).drew) (fun hHeld => ?_)
  refine takeD (i := 0) (v := .agg #[.slice sa nS sk, .slice ca nC ck]) (some 5) rfl rfl (by kernel_rfl) (by kernel_rfl) (by kernel_rfl) (fun _ _ _ h => h) (Or.inl ⟨by rfl, fun w hSw => by obtain ⟨⟨s0, s1⟩, s2, s3⟩ := hSw; go_simp⟩) hHeld ?_
  simp only [Act.put, List.setIfInBounds_toArray, List.set_cons_zero, List.set_cons_succ]
  refine takeD (i := 1) (v := .pointer (some ⟨w.heap.size + 1, 0, none⟩)) (some 6) rfl rfl (by kernel_rfl) (by kernel_rfl) (by kernel_rfl) (fun _ _ _ h => h) (Or.inl ⟨by rfl, fun w hSw => by go_simp⟩) hHeld ?_
  simp only [Act.put, List.setIfInBounds_toArray, List.set_cons_zero, List.set_cons_succ]
  refine takeD (i := 2) (v := .int .i64 (a : Int)) (some 7) rfl rfl (by kernel_rfl) (by kernel_rfl) (by kernel_rfl) (fun _ _ _ h => h) (Or.inl ⟨by rfl, fun w hSw => by obtain ⟨⟨s0, s1⟩, s2, s3⟩ := hSw; go_simp⟩) hHeld ?_
  simp only [Act.put, List.setIfInBounds_toArray, List.set_cons_zero, List.set_cons_succ]
  refine takeD (i := 3) (v := .pointer (some ⟨w.heap.size + 1, 1, none⟩)) (some 8) rfl rfl (by kernel_rfl) (by kernel_rfl) (by kernel_rfl) (fun _ _ _ h => h) (Or.inl ⟨by rfl, fun w hSw => by go_simp⟩) hHeld ?_
  simp only [Act.put, List.setIfInBounds_toArray, List.set_cons_zero, List.set_cons_succ]
  refine takeD (i := 4) (v := .int .i64 (m : Int)) (some 9) rfl rfl (by kernel_rfl) (by kernel_rfl) (by kernel_rfl) (fun _ _ _ h => h) (Or.inl ⟨by rfl, fun w hSw => by obtain ⟨⟨s0, s1⟩, s2, s3⟩ := hSw; go_simp⟩) hHeld ?_
  simp only [Act.put, List.setIfInBounds_toArray, List.set_cons_zero, List.set_cons_succ]
  refine takeD (i := 7) (v := .pointer (some ⟨w.heap.size + 1, 1, none⟩)) (some 12) rfl rfl (by kernel_rfl) (by kernel_rfl) (by kernel_rfl) (fun _ _ _ h => h) (Or.inl ⟨by rfl, fun w hSw => by go_simp⟩) hHeld ?_
  simp only [Act.put, List.setIfInBounds_toArray, List.set_cons_zero, List.set_cons_succ]
  refine takeD (i := 8) (v := .int .i64 (m : Int)) (some 13) rfl rfl (by kernel_rfl) (by kernel_rfl) (by kernel_rfl) (fun _ _ _ h => h) (Or.inl ⟨by rfl, fun w hSw => by obtain ⟨⟨s0, s1⟩, s2, s3⟩ := hSw; go_simp⟩) hHeld ?_
  simp only [Act.put, List.setIfInBounds_toArray, List.set_cons_zero, List.set_cons_succ]
  refine wpAnyH_ready (rs := [5]) (by kernel_rfl) (by simp) ?_
  refine AllReadyH.cons rfl (fun KK hK => ?_) AllReadyH.nil
  go_simp
  refine (HSEC.out W2.drew).mono ?_
  rintro e w9 ⟨rfl, rfl⟩
  go_wp2_with fail
  refine hK.out _ _ (SA.out _ (Below.refl _ _).drew) (fun hHeld => ?_)
  clear hK KK
  refine wpAnyH_ready (rs := [6]) (by kernel_rfl) (by simp) ?_
  refine AllReadyH.cons rfl (fun KK hK => ?_) AllReadyH.nil
  go_simp
  refine (ST.out W2.drew (I2.out.below (Below.refl _ _).drew)).mono ?_
  rintro e w3 ⟨rfl, hb⟩
  have b1 : Below W2.heap.size W2 w3 := (Below.refl _ _).drew.trans hb
  have B1 := hide (Q0.out.trans (b1.mono (by omega)))
  have sa3 := SA.out _ b1
  clear hb b1
  go_wp2_with fail
  refine hK.out _ _ sa3 (fun hHeld => ?_)
  clear hK KK
  refine wpAnyH_ready (rs := [9]) (by kernel_rfl) (by simp) ?_
  refine AllReadyH.cons rfl (fun KK hK => ?_) AllReadyH.nil
  have hrun := HRUN.out w3
  go_wp2_with fail
  refine hK.out _ _ sa3 (fun hHeld => ?_)
  clear hK KK
  clear hrun
  refine takeD (i := 10) (v := .string RX) (some 4) rfl rfl (by kernel_rfl) (by kernel_rfl) (by kernel_rfl) (fun _ _ _ h => h) (Or.inl ⟨by rfl, fun w hSw => by go_simp⟩) hHeld ?_
  simp only [Act.put, List.setIfInBounds_toArray, List.set_cons_zero, List.set_cons_succ]
  refine wpAnyH_done (by kernel_rfl) ?_ _
  go_wp2_with fail
  go_ret
  exact ⟨rfl, B1.out⟩
set_option maxRecDepth 100000 in
set_option maxHeartbeats 3200000 in
theorem spec_extentRead (v : Value) (nS : Nat) (S : Nat → ByteArray) (nC : Nat) (A : Nat → Int) (X : Nat → ByteArray) (a m : Int) (w : World) (hS : nS ≤ 1048576) (hC : nC ≤ 1048576) (h : dskI w w.heap.size v nS S nC A X) :
    Calls Try.prog 12 #[v, .agg #[.int .i64 a, .int .i64 m]] w fun e w' => ∃ t c, e = .returned (doutV (.slice none 0 0) (.slice none 0 0) t c) ∧ rdOut nS S nC A X a m t c ∧ Below w.heap.size w w' := by
  obtain ⟨sv, cv, rfl, hs, hc⟩ := h
  have HI := hide (show dskI w w.heap.size (.agg #[sv, cv]) nS S nC A X from ⟨sv, cv, rfl, hs, hc⟩)
  obtain ⟨sa, sk, e1⟩ : ∃ a c, sv = .slice a nS c := by obtain ⟨a, c, e, _⟩ := hs; exact ⟨a, c, e⟩
  obtain ⟨ca, ck, e2⟩ : ∃ a c, cv = .slice a nC c := by obtain ⟨a, c, e, _⟩ := hc; exact ⟨a, c, e⟩
  subst e1 e2
  clear hs hc
  have HQ := hide (box3 w (.cells #[.slice sa nS sk, .slice ca nC ck] 26) (.cells #[.int .i64 a, .int .i64 m] 34) (.cells #[.slice none 0 0, .slice none 0 0, .string ⟨#[]⟩, .int .i64 0] 30))
  go_enter Try.func12, Try.ntmps12
  go_wp2_with fail
  obtain ⟨q0, q1, q2, q3, q4⟩ := HQ.out
  generalize (((w.alloc (.cells #[.slice sa nS sk, .slice ca nC ck] 26)).alloc (.cells #[.int .i64 a, .int .i64 m] 34)).alloc (.cells #[.slice none 0 0, .slice none 0 0, .string ⟨#[]⟩, .int .i64 0] 30)) = W2 at *
  have I2 : dskI W2 W2.heap.size (.agg #[.slice sa nS sk, .slice ca nC ck]) nS S nC A X := (HI.out.below q0).wide (by omega)
  have HS0 := hide (And.intro q2 (And.intro q3 (And.intro q4 q0)))
  refine (spec_diskRight _ nS S nC A X W2 hS hC I2).mono ?_
  rintro e w1 ⟨⟨r, rfl, hr⟩, hb1⟩
  clear q0 q2 q3 q4 HQ
  obtain ⟨k2, k3, k4, k5⟩ := HS0.out
  replace k2 := (hb1.block w.heap.size (by have := k5.size; omega)).trans k2
  replace k3 := (hb1.block (w.heap.size + 1) (by have := (Array.getElem?_eq_some_iff.1 k4).1; omega)).trans k3
  replace k4 := (hb1.block (w.heap.size + 2) (Array.getElem?_eq_some_iff.1 k4).1).trans k4
  replace k5 := k5.trans (hb1.mono k5.size)
  have HS1 := hide (And.intro k2 (And.intro k3 (And.intro k4 k5)))
  have I1 := hide ((I2.below hb1).wide hb1.size)
  have hz1 := hb1.size
  have b0 : w1.cell? ⟨w.heap.size, 0, none⟩ = some (.slice sa nS sk) := by simp [World.cell?, k2]
  have b1 : w1.cell? ⟨w.heap.size, 1, none⟩ = some (.slice ca nC ck) := by simp [World.cell?, k2]
  have e0 : w1.cell? ⟨w.heap.size + 1, 0, none⟩ = some (.int .i64 a) := by simp [World.cell?, k3]
  have e1 : w1.cell? ⟨w.heap.size + 1, 1, none⟩ = some (.int .i64 m) := by simp [World.cell?, k3]
  have oc0 : w1.cell? ⟨w.heap.size + 2, 0, none⟩ = some (.slice none 0 0) := by simp [World.cell?, k4]
  have of0 : w1.frozen? ⟨w.heap.size + 2, 0, none⟩ = false := by simp [World.frozen?, k4]
  have oc1 : w1.cell? ⟨w.heap.size + 2, 1, none⟩ = some (.slice none 0 0) := by simp [World.cell?, k4]
  have of1 : w1.frozen? ⟨w.heap.size + 2, 1, none⟩ = false := by simp [World.frozen?, k4]
  have oc2 : w1.cell? ⟨w.heap.size + 2, 2, none⟩ = some (.string ⟨#[]⟩) := by simp [World.cell?, k4]
  have of2 : w1.frozen? ⟨w.heap.size + 2, 2, none⟩ = false := by simp [World.frozen?, k4]
  have oc3 : w1.cell? ⟨w.heap.size + 2, 3, none⟩ = some (.int .i64 0) := by simp [World.cell?, k4]
  have of3 : w1.frozen? ⟨w.heap.size + 2, 3, none⟩ = false := by simp [World.frozen?, k4]
  clear k2 k3 k4 k5 HS0 hb1 I2
  cases r with
  | false =>
    have R := hide (show ¬ dskOk nS S nC A X from fun h => by have := hr.2 h; cases this)
    have HR := hide HS1.out.2.2.1
    have HB := hide HS1.out.2.2.2
    clear hr
    go_wp2_with fail
    have fin := set4_blk w1 (w.heap.size + 2) _ _ _ _ (.slice none 0 0) (.slice none 0 0) (.string ⟨#[]⟩) (.int .i64 1) _ HR.out
    have hbf := below_set4 HB.out (w.heap.size + 2) (by omega) (.slice none 0 0) (.slice none 0 0) (.string ⟨#[]⟩) (.int .i64 1)
    exact bodyPost_ret (results_cell_row Try.results12 _ _ (w.heap.size + 2) 30 #[.slice none 0 0, .slice none 0 0, .string ⟨#[]⟩, .int .i64 1] (0, 0) _ rfl fin Try.underlying30 rfl (by kernel_rfl)) rfl ⟨_, _, rfl, .inl ⟨R.out, rfl, rfl⟩, hbf⟩
  | true =>
    have R := hide (hr.1 rfl)
    clear hr
    go_wp2_with fail
    refine (spec_extentRight a m (nS : Int) w1).mono ?_
    rintro e w2 ⟨⟨r, rfl, hr⟩, hb2⟩
    clear b0 b1 e0 e1 oc0 of0 oc1 of1 oc2 of2 oc3 of3
    obtain ⟨k2, k3, k4, k5⟩ := HS1.out
    replace k2 := (hb2.block w.heap.size (by have := k5.size; omega)).trans k2
    replace k3 := (hb2.block (w.heap.size + 1) (by have := (Array.getElem?_eq_some_iff.1 k4).1; omega)).trans k3
    replace k4 := (hb2.block (w.heap.size + 2) (Array.getElem?_eq_some_iff.1 k4).1).trans k4
    replace k5 := k5.trans (hb2.mono k5.size)
    have HS2 := hide (And.intro k2 (And.intro k3 (And.intro k4 k5)))
    have I2 := hide ((I1.out.below hb2).wide hb2.size)
    have hz2 := hb2.size
    have b0 : w2.cell? ⟨w.heap.size, 0, none⟩ = some (.slice sa nS sk) := by simp [World.cell?, k2]
    have b1 : w2.cell? ⟨w.heap.size, 1, none⟩ = some (.slice ca nC ck) := by simp [World.cell?, k2]
    have e0 : w2.cell? ⟨w.heap.size + 1, 0, none⟩ = some (.int .i64 a) := by simp [World.cell?, k3]
    have e1 : w2.cell? ⟨w.heap.size + 1, 1, none⟩ = some (.int .i64 m) := by simp [World.cell?, k3]
    have oc0 : w2.cell? ⟨w.heap.size + 2, 0, none⟩ = some (.slice none 0 0) := by simp [World.cell?, k4]
    have of0 : w2.frozen? ⟨w.heap.size + 2, 0, none⟩ = false := by simp [World.frozen?, k4]
    have oc1 : w2.cell? ⟨w.heap.size + 2, 1, none⟩ = some (.slice none 0 0) := by simp [World.cell?, k4]
    have of1 : w2.frozen? ⟨w.heap.size + 2, 1, none⟩ = false := by simp [World.frozen?, k4]
    have oc2 : w2.cell? ⟨w.heap.size + 2, 2, none⟩ = some (.string ⟨#[]⟩) := by simp [World.cell?, k4]
    have of2 : w2.frozen? ⟨w.heap.size + 2, 2, none⟩ = false := by simp [World.frozen?, k4]
    have oc3 : w2.cell? ⟨w.heap.size + 2, 3, none⟩ = some (.int .i64 0) := by simp [World.cell?, k4]
    have of3 : w2.frozen? ⟨w.heap.size + 2, 3, none⟩ = false := by simp [World.frozen?, k4]
    clear k2 k3 k4 k5 HS1 hb2 I1
    cases r with
    | false =>
      have RE := hide (show ¬ extOk a m (nS : Int) from fun h => by have := hr.2 h; cases this)
      have HR := hide HS2.out.2.2.1
      have HB := hide HS2.out.2.2.2
      clear hr
      go_wp2_with fail
      have fin := set4_blk w2 (w.heap.size + 2) _ _ _ _ (.slice none 0 0) (.slice none 0 0) (.string ⟨#[]⟩) (.int .i64 8) _ HR.out
      have hbf := below_set4 HB.out (w.heap.size + 2) (by omega) (.slice none 0 0) (.slice none 0 0) (.string ⟨#[]⟩) (.int .i64 8)
      exact bodyPost_ret (results_cell_row Try.results12 _ _ (w.heap.size + 2) 30 #[.slice none 0 0, .slice none 0 0, .string ⟨#[]⟩, .int .i64 8] (0, 0) _ rfl fin Try.underlying30 rfl (by kernel_rfl)) rfl ⟨_, _, rfl, .inr (.inl ⟨R.out, RE.out, rfl, rfl⟩), hbf⟩
    | true =>
      have hE := hr.1 rfl
      have RE := hide hE
      unfold extOk at hE
      obtain ⟨m, rfl⟩ : ∃ k : Nat, m = (k : Int) := ⟨m.toNat, by omega⟩
      obtain ⟨a, rfl⟩ : ∃ k : Nat, a = (k : Int) := ⟨a.toNat, by omega⟩
      have hm2 : m ≤ 20000 := by omega
      have hfit : 64 * a + m ≤ 64 * nS := by simp only [Int.toNat_natCast] at hE; omega
      have SR := hide (spec_l09Read _ nS S nC A X a m w2 R.out hm2 hfit I2.out)
      obtain ⟨TX, hTX⟩ : ∃ TX : ByteArray, TX = ⟨(dL (flS S A X (fun _ => true) nC) (64 * a) m).toArray⟩ := ⟨_, rfl⟩
      rw [← hTX] at SR
      have HTX := hide hTX
      clear hr hE hTX
      clear oc0 of0 oc1 of1 oc2 of2 oc3 of3
      go_wp2_with fail
      refine SR.out.mono ?_
      rintro e w3 ⟨rfl, hb3⟩
      clear b0 b1 e0 e1
      obtain ⟨k2, k3, k4, k5⟩ := HS2.out
      replace k2 := (hb3.block w.heap.size (by have := k5.size; omega)).trans k2
      replace k3 := (hb3.block (w.heap.size + 1) (by have := (Array.getElem?_eq_some_iff.1 k4).1; omega)).trans k3
      replace k4 := (hb3.block (w.heap.size + 2) (Array.getElem?_eq_some_iff.1 k4).1).trans k4
      replace k5 := k5.trans (hb3.mono k5.size)
      have HS3 := hide (And.intro k2 (And.intro k3 (And.intro k4 k5)))
      have oc0 : w3.cell? ⟨w.heap.size + 2, 0, none⟩ = some (.slice none 0 0) := by simp [World.cell?, k4]
      have of0 : w3.frozen? ⟨w.heap.size + 2, 0, none⟩ = false := by simp [World.frozen?, k4]
      have oc1 : w3.cell? ⟨w.heap.size + 2, 1, none⟩ = some (.slice none 0 0) := by simp [World.cell?, k4]
      have of1 : w3.frozen? ⟨w.heap.size + 2, 1, none⟩ = false := by simp [World.frozen?, k4]
      have oc2 : w3.cell? ⟨w.heap.size + 2, 2, none⟩ = some (.string ⟨#[]⟩) := by simp [World.cell?, k4]
      have of2 : w3.frozen? ⟨w.heap.size + 2, 2, none⟩ = false := by simp [World.frozen?, k4]
      have oc3 : w3.cell? ⟨w.heap.size + 2, 3, none⟩ = some (.int .i64 0) := by simp [World.cell?, k4]
      have of3 : w3.frozen? ⟨w.heap.size + 2, 3, none⟩ = false := by simp [World.frozen?, k4]
      have HR := hide HS3.out.2.2.1
      have HB := hide HS3.out.2.2.2
      clear hb3 I2 HS2 SR k2 k3 k4 k5
      go_wp2_with fail
      have fin := set4_blk w3 (w.heap.size + 2) _ _ _ _ (.slice none 0 0) (.slice none 0 0) (.string TX) (.int .i64 0) _ HR.out
      have hbf := below_set4 HB.out (w.heap.size + 2) (by omega) (.slice none 0 0) (.slice none 0 0) (.string TX) (.int .i64 0)
      exact bodyPost_ret (results_cell_row Try.results12 _ _ (w.heap.size + 2) 30 #[.slice none 0 0, .slice none 0 0, .string TX, .int .i64 0] (0, 0) _ rfl fin Try.underlying30 rfl (by kernel_rfl)) rfl ⟨_, _, rfl, .inr (.inr ⟨R.out, RE.out, by rw [HTX.out]; rfl, rfl⟩), hbf⟩
end Go.Proofs.Ytipeelkmmjgehaa
/- The walks over the program's through, with read, with patch. -/
namespace Go.Proofs.Ytipeelkmmjgehaa
open Go Go.RowKit
/-- How many bytes of a run from p0 on k sectors have. -/
def dN (p0 n k : Nat) : Nat := min (64 * (p0 / 64 + k)) (p0 + n) - p0
theorem dN_le (p0 n k : Nat) : dN p0 n k ≤ n := by unfold dN; omega
theorem dN_zero (p0 n : Nat) : dN p0 n 0 = 0 := by unfold dN; omega
theorem dN_step (p0 n k m : Nat) (hlt : dN p0 n k < n) (hm : m = min (n - dN p0 n k) (64 - (p0 + dN p0 n k) % 64)) : (p0 + dN p0 n k) / 64 = p0 / 64 + k ∧ dN p0 n k + m = dN p0 n (k + 1) ∧ 64 * (p0 / 64 + k) < p0 + n ∧ (p0 + dN p0 n k) % 64 + m ≤ 64 ∧ 0 < m ∧ (dN p0 n k = 0 ∨ (p0 + dN p0 n k) % 64 = 0) := by
  unfold dN at *
  omega
theorem dN_end (p0 n k : Nat) (h : dN p0 n k = n) (hk : k = 0 ∨ 0 < n ∧ 64 * (p0 / 64 + (k - 1)) < p0 + n) : k = touchN p0 n := by
  unfold dN at h
  unfold touchN
  rw [Nat.min_def] at h
  split at h <;> split <;> omega
theorem range_part {w : World} {g n d m : Nat} {f : Nat → UInt8} (h : w.rangeAt g 0 (bL n f)) (hd : d + m ≤ n) : w.rangeAt g d (bL m fun i => f (d + i)) := fun j v hj => by
  obtain ⟨hj2, rfl⟩ := bL_get hj
  have := h (d + j) (u8V f (d + j)) (bL_at n f (d + j) (by omega))
  rwa [Nat.zero_add] at this
theorem range_blk {w w' : World} {g o : Nat} {l : List Value} (h : w.rangeAt g o l) (hb : w'.heap[g]? = w.heap[g]?) : w'.rangeAt g o l := fun j v hj => by
  have := h j v hj
  rw [← this]
  exact World.cell?_of_block (a := ⟨g, o + j, none⟩) hb
theorem patS_size (F : Nat → ByteArray) (p0 : Nat) (t : ByteArray) (s : Nat) : (patS F p0 t s).size = 64 := by
  show (Array.size _) = 64
  simp
theorem patS_bF (F : Nat → ByteArray) (p0 : Nat) (t : ByteArray) (s j : Nat) (hj : j < 64) : bF (patS F p0 t s) j = pB F p0 t (64 * s + j) := by
  simp [bF, patS, hj]
theorem patS_at (F : Nat → ByteArray) (p0 n k m : Nat) (t : ByteArray) (ht : t.size = n) (hlt : dN p0 n k < n) (hm : m = min (n - dN p0 n k) (64 - (p0 + dN p0 n k) % 64)) (j : Nat) (hj : j < 64) :
    bF (patS F p0 t (p0 / 64 + k)) j = if (p0 + dN p0 n k) % 64 ≤ j ∧ j < (p0 + dN p0 n k) % 64 + m then bF t (dN p0 n k + (j - (p0 + dN p0 n k) % 64)) else bF (F (p0 / 64 + k)) j := by
  obtain ⟨h1, h2, h3, h4, h5, h6⟩ := dN_step p0 n k m hlt hm
  rw [patS_bF _ _ _ _ _ hj]
  unfold pB
  have e1 : (64 * (p0 / 64 + k) + j) / 64 = p0 / 64 + k := by omega
  have e2 : (64 * (p0 / 64 + k) + j) % 64 = j := by omega
  have hle := dN_le p0 n k
  generalize dN p0 n k = d at *
  have hp : p0 + d = 64 * (p0 / 64 + k) + (p0 + d) % 64 := by omega
  generalize hf : (p0 + d) % 64 = f at *
  by_cases c : f ≤ j ∧ j < f + m
  · rw [if_pos c, if_pos (by omega)]
    congr 1
    omega
  · rw [if_neg c, if_neg (by omega)]
    unfold dB
    rw [e1, e2]
set_option maxRecDepth 100000 in
set_option maxHeartbeats 1600000 in
theorem imp_through_patch (wb g n cap p0 nS sk nC mb : Nat) (sa ra : Option Addr) (S : Nat → ByteArray) (M : Int → Option ByteArray) (FF : Nat → ByteArray) (t : ByteArray) (w : World) (hn : nS ≤ 620) (hp : p0 + n ≤ 64 * nS) (hts : t.size = n) (hcap : n ≤ cap) (hcap2 : cap ≤ 9223372036854775807)
    (hFF : ∀ j, j < nS → FF j = (M (j : Int)).getD (S j) ∧ (FF j).size = 64) (hv : vwI w wb (.agg #[.slice sa nS sk, .map (some mb)]) nS S nC M)
    (hwb : w.heap[wb]? = some (.cells #[.slice sa nS sk, .map (some mb), .slice none 0 0] 65)) (hrun : n = 0 ∨ ra = some ⟨g, 0, none⟩ ∧ g < w.heap.size ∧ g ≠ wb ∧ w.rangeAt g 0 (bL n (bF t))) :
    Calls Try.prog 38 #[.pointer (some ⟨wb, 0, none⟩), .int .i64 (p0 : Int), .slice ra n cap, .func (.func 39) #[] #[]] w fun e w' => e = .returned (.tuple #[]) ∧ ∃ wa wcp, w'.ownsRow w.heap.size 74 2 (.slice wa (touchN p0 n) wcp) (touchN p0 n) (wL (fun j => ((p0 / 64 + j : Nat) : Int)) (fun j => patS FF p0 t (p0 / 64 + j)) (touchN p0 n)) ∧ w'.heap[wb]? = some (.cells #[.slice sa nS sk, .map (some mb), .slice wa (touchN p0 n) wcp] 65) ∧ w.grownBy w' (some wb) := by
  have HV := hide hv
  have HWB := hide hwb
  have HRUN := hide hrun
  have HFF := hide hFF
  have hwbl : wb < w.heap.size := (Array.getElem?_eq_some_iff.1 hwb).1
  clear hv hwb hrun hFF
  go_enter Try.func38, Try.ntmps38
  go_wp2_with fail
  go_loopw [1, 2] (fun av rv wx => ∃ (k d : Nat) (wa : Option Addr) (wcp : Nat) (rb : Option Addr), d = dN p0 n k ∧ (k = 0 ∨ 0 < n ∧ 64 * (p0 / 64 + (k - 1)) < p0 + n) ∧ av = .int .i64 ((p0 + d : Nat) : Int) ∧ rv = .slice rb (n - d) (cap - d) ∧ Hid (d < n → rb = some ⟨g, d, none⟩) ∧ Hid (wx.ownsRow w.heap.size 74 2 (.slice wa k wcp) k (wL (fun j => ((p0 / 64 + j : Nat) : Int)) (fun j => patS FF p0 t (p0 / 64 + j)) k)) ∧ Hid (wx.heap[wb]? = some (.cells #[.slice sa nS sk, .map (some mb), .slice wa k wcp] 65)) ∧ Hid (w.grownBy wx (some wb))) (fun _ rv _ => match rv with | .slice _ q _ => q | _ => 0)
  case atStart => exact ⟨0, 0, none, 0, ra, (dN_zero p0 n).symm, .inl rfl, rfl, rfl, fun h => by rcases HRUN.out with h0 | h0; omega; exact h0.1, World.ownsRow_nil _ _ _ _, HWB.out, ⟨rfl, rfl, rfl, Nat.le_refl _, fun _ _ _ => rfl⟩⟩
  case round =>
    obtain ⟨k, d, wa, wcp, rb, hd, hk, rfl, rfl, hrb, HO, HB, HG⟩ := hrel
    have hdn : d ≤ n := by rw [hd]; exact dN_le _ _ _
    obtain ⟨p, hp2⟩ : ∃ p, p = p0 + d := ⟨_, rfl⟩
    obtain ⟨q, hq⟩ : ∃ q, q = n - d := ⟨_, rfl⟩
    obtain ⟨c, hc⟩ : ∃ c, c = cap - d := ⟨_, rfl⟩
    rw [← hp2, ← hq, ← hc]
    by_cases hlt : d < n
    · obtain rfl := hrb.out hlt
      have hqpos : 0 < q := by omega
      have e1 : decide ((0 : Int) < (q : Int)) = true := decide_eq_true (by omega)
      obtain ⟨m, hm⟩ : ∃ m, m = min q (64 - p % 64) := ⟨_, rfl⟩
      have hpt := imp_partAt p g d q c m wr (by omega) hqpos (by omega) (by omega) hm
      obtain ⟨s1, s2, s3, s4, s5, s6⟩ := dN_step p0 n k m (by omega) (by rw [hm, hq, hp2, hd])
      rw [← hd] at s1 s2 s4 s6
      rw [← hp2] at s1 s4 s6
      obtain ⟨s, hs⟩ : ∃ s, s = p0 / 64 + k := ⟨_, rfl⟩
      obtain ⟨f, hf⟩ : ∃ f, f = p % 64 := ⟨_, rfl⟩
      rw [s1, ← hs, ← hf] at hpt
      have HPT := hide hpt
      have hsn : s < nS := by omega
      have hmq : m ≤ q := by omega
      have hqc : q ≤ c := by omega
      have hcb : c ≤ 9223372036854775807 := by omega
      have hpb : p ≤ 39680 := by omega
      have hfm : f + m ≤ 64 := by rw [hf]; exact s4
      have hPs := patS_size FF p0 t s
      have hPb : ∀ j, j < 64 → bF (patS FF p0 t s) j = if f ≤ j ∧ j < f + m then bF t (d + (j - f)) else bF (FF s) j := fun j hj => by
        have h := patS_at FF p0 n k m t hts (by rw [← hd]; exact hlt) (by rw [hm, hq, hp2, hd]) j hj
        rw [← hd, ← hp2, ← hf, ← hs] at h
        exact h
      have hex : wL (fun j => ((p0 / 64 + j : Nat) : Int)) (fun j => patS FF p0 t (p0 / 64 + j)) (k + 1) = wL (fun j => ((p0 / 64 + j : Nat) : Int)) (fun j => patS FF p0 t (p0 / 64 + j)) k ++ [.int .i64 (s : Int), .string (patS FF p0 t s)] := by rw [wL_snoc, ← hs]
      obtain ⟨P, hP⟩ : ∃ P, P = patS FF p0 t s := ⟨_, rfl⟩
      rw [← hP] at hPs hPb hex
      obtain ⟨ws, hws⟩ : ∃ ws, ws = wL (fun j => ((p0 / 64 + j : Nat) : Int)) (fun j => patS FF p0 t (p0 / 64 + j)) k := ⟨_, rfl⟩
      rw [← hws] at HO hex
      have hk1 : k ≤ 1000 := by omega
      obtain ⟨d2, hd2⟩ : ∃ d2, d2 = d + m := ⟨_, rfl⟩
      obtain ⟨p2, hp3⟩ : ∃ p2, p2 = p + m := ⟨_, rfl⟩
      have s7 : (p : Int) + (m : Int) = (p2 : Int) := by omega
      have hp2b : p2 ≤ 39680 := by omega
      have hsrc0 : wr.rangeAt g 0 (bL n (bF t)) ∧ g < wr.heap.size ∧ g ≠ wb := by
        rcases HRUN.out with h0 | ⟨_, h1, h2, h3⟩
        · omega
        · exact ⟨range_blk h3 (HG.out.block g h1 (by simp; omega)), Nat.lt_of_lt_of_le h1 HG.out.size, h2⟩
      have hsrc : wr.rangeAt g d (bL m fun i => bF t (d + i)) := range_part hsrc0.1 (by omega)
      have hgl := hsrc0.2.1
      have hwr := HG.out.size
      have HX := hide (And.intro hPs (And.intro hPb (And.intro hex (And.intro (HFF.out s hsn).1 (And.intro (HFF.out s hsn).2 hsrc)))))
      have HE := hide (show d2 = dN p0 n (k + 1) ∧ p2 = p0 + d2 ∧ q - m = n - d2 ∧ c - m = cap - d2 ∧ (d2 < n ↔ m < q) ∧ 0 < n ∧ 64 * (p0 / 64 + (k + 1 - 1)) < p0 + n ∧ d + m = d2 from ⟨by rw [hd2]; exact s2, by omega, by omega, by omega, by omega, by omega, by simpa using s3, hd2.symm⟩)
      have HV2 := hide (show vwI wr wb (.agg #[.slice sa nS sk, .map (some mb)]) nS S nC M from HV.out.below ⟨HG.out.os, HG.out.tape, HG.out.output, HG.out.size, fun x hx => HG.out.block x (by omega) (by simp; omega)⟩)
      clear hpt hd hp2 hq hc hm s1 s2 s3 s4 s6 hs hf hPs hPb hex hP hws hd2 hp3 hsrc0 hsrc hrb hk
      go_wp2_with fail
      refine HPT.out.mono ?_
      rintro e w1 ⟨rfl, hb1⟩
      have hz1 := hb1.size
      have al0 : Below w1.heap.size w1 (w1.alloc (.cells #[.int .i64 (s : Int), .int .i64 (f : Int), .slice (some ⟨g, d, none⟩) m c] 93)) := (Below.refl _ _).alloc (Nat.le_refl _) _
      have al1 := heap_alloc_new w1 (.cells #[.int .i64 (s : Int), .int .i64 (f : Int), .slice (some ⟨g, d, none⟩) m c] 93)
      have al2 : w1.heap.size < (w1.alloc (.cells #[.int .i64 (s : Int), .int .i64 (f : Int), .slice (some ⟨g, d, none⟩) m c] 93)).heap.size := by simp
      have AL := hide (And.intro al0 al1)
      clear al0 al1
      go_wp2_with fail
      generalize w1.alloc (.cells #[.int .i64 (s : Int), .int .i64 (f : Int), .slice (some ⟨g, d, none⟩) m c] 93) = w2 at *
      have hb2 := hb1.trans (AL.out.1.mono hz1)
      have hz2 := hb2.size
      refine (imp_patch w.heap.size k wb wb g d m c s f nS sk nC mb sa wa wcp S M (FF s) w2 hn hsn HX.out.2.2.2.1 HX.out.2.2.2.2.1 s5 hfm (by omega) ((HV2.out.below (hb2.mono (by omega)))) ((hb2.block wb (by omega)).trans HB.out) (fun i => bF t (d + i)) P (by omega) (range_blk HX.out.2.2.2.2.2 (hb2.block g hgl)) HX.out.1 HX.out.2.1 ws hk1 (own_of_block HO.out (fun x hx => hb2.block x (HO.out.lt x hx).2)) hwbl (by omega)).mono ?_
      rintro e w3 ⟨rfl, a9, c9, ho3, hw3, hf3⟩
      have hpb3 := (hf3.block w1.heap.size al2 (by omega) (fun e => by have := (HO.out.lt w1.heap.size e.symm).2; omega)).trans AL.out.2
      have y2 : w3.cell? ⟨w1.heap.size, 2, none⟩ = some (.slice (some ⟨g, d, none⟩) m c) := by simp [World.cell?, hpb3]
      have R1 := hide (show w3.ownsRow w.heap.size 74 2 (.slice a9 (k + 1) c9) (k + 1) (wL (fun j => ((p0 / 64 + j : Nat) : Int)) (fun j => patS FF p0 t (p0 / 64 + j)) (k + 1)) by rw [HX.out.2.2.1]; exact ho3)
      have R2 := hide hw3
      have R3 := hide (show w.grownBy w3 (some wb) from ⟨hf3.os.trans (hb2.os.trans HG.out.os), hf3.tape.trans (hb2.tape.trans HG.out.tape), hf3.output.trans (hb2.output.trans HG.out.output), by have := hf3.size; omega, fun x h1 h2 => (hf3.block x (by omega) (fun e => h2 (by rw [e])) (fun e => by have := (HO.out.lt x e.symm).1; omega)).trans ((hb2.block x (by omega)).trans (HG.out.block x h1 h2))⟩)
      clear ho3 hw3 hf3 hpb3 hb1 hb2 AL HO HB HG HV2 HX
      go_wp2_with fail
      go_roundw
      case rel =>
        obtain ⟨x1, x2, x3, x4, x5, x6, x7, x8⟩ := HE.out
        exact ⟨k + 1, d2, a9, c9, _, x1, .inr ⟨x6, x7⟩, by rw [x2], by rw [x3, x4], fun h => by rw [if_neg (by have := x5.1 h; omega), x8], R1, R2, R3⟩
      case measure => simp; omega
    · have e1 : decide ((0 : Int) < (q : Int)) = false := decide_eq_false (by omega)
      have hdn2 : d = n := by omega
      have hkk := dN_end p0 n k (by rw [← hd]; exact hdn2) hk
      have HKK := hide hkk
      have hq0 : q = 0 := by omega
      clear hd hk hp2 hq hc hkk hrb hdn2
      go_wp2_with fail
      exact bodyPost_end (v := .tuple #[]) (by simp [results, Try.results38]) rfl ⟨rfl, wa, wcp, by rw [← HKK.out]; exact HO.out, by rw [← HKK.out]; exact HB.out, HG.out⟩
end Go.Proofs.Ytipeelkmmjgehaa
/- The walk over the program's through, with read. -/
namespace Go.Proofs.Ytipeelkmmjgehaa
open Go Go.RowKit
theorem row_u8 {w : World} {g t n : Nat} {f k : Nat → UInt8} (h : w.rowIs g t n (u8V f)) (e : ∀ j, j < n → f j = k j) : w.rowIs g t n (u8V k) := row_cong h (fun j hj => by unfold u8V; rw [e j hj])
set_option maxRecDepth 100000 in
set_option maxHeartbeats 1600000 in
theorem imp_through_read (wb g n p0 nS sk nC mb : Nat) (sa ra : Option Addr) (S : Nat → ByteArray) (M : Int → Option ByteArray) (FF : Nat → ByteArray) (fr : Nat → UInt8) (gt : TypeId) (w : World) (hn : nS ≤ 620) (hp : p0 + n ≤ 64 * nS)
    (hFF : ∀ j, j < nS → FF j = (M (j : Int)).getD (S j) ∧ (FF j).size = 64) (hv : vwI w wb (.agg #[.slice sa nS sk, .map (some mb)]) nS S nC M)
    (hwb : w.heap[wb]? = some (.cells #[.slice sa nS sk, .map (some mb), .slice none 0 0] 65)) (hgw : wb < g) (hrun : n = 0 ∨ ra = some ⟨g, 0, none⟩) (hrow : w.rowIs g gt n (u8V fr)) :
    Calls Try.prog 38 #[.pointer (some ⟨wb, 0, none⟩), .int .i64 (p0 : Int), .slice ra n n, .func (.func 47) #[] #[]] w fun e w' => e = .returned (.tuple #[]) ∧ w'.rowIs g gt n (u8V fun j => dB FF (p0 + j)) ∧ w.grownBy w' (some g) := by
  have HV := hide hv
  have HWB := hide hwb
  have HRUN := hide hrun
  have HFF := hide hFF
  have HROW := hide hrow
  have hgl := hrow.lt
  clear hv hwb hrun hFF hrow
  go_enter Try.func38, Try.ntmps38
  go_wp2_with fail
  go_loopw [1, 2] (fun av rv wx => ∃ (k d : Nat) (rb : Option Addr), d = dN p0 n k ∧ (k = 0 ∨ 0 < n ∧ 64 * (p0 / 64 + (k - 1)) < p0 + n) ∧ av = .int .i64 ((p0 + d : Nat) : Int) ∧ rv = .slice rb (n - d) (n - d) ∧ Hid (d < n → rb = some ⟨g, d, none⟩) ∧ Hid (wx.rowIs g gt n (u8V fun j => if j < d then dB FF (p0 + j) else fr j)) ∧ Hid (w.grownBy wx (some g))) (fun _ rv _ => match rv with | .slice _ q _ => q | _ => 0)
  case atStart => exact ⟨0, 0, ra, (dN_zero p0 n).symm, .inl rfl, rfl, rfl, fun h => by rcases HRUN.out with h0 | h0; omega; exact h0, row_u8 HROW.out (fun j hj => (if_neg (by omega)).symm), ⟨rfl, rfl, rfl, Nat.le_refl _, fun _ _ _ => rfl⟩⟩
  case round =>
    obtain ⟨k, d, rb, hd, hk, rfl, rfl, hrb, HO, HG⟩ := hrel
    have hdn : d ≤ n := by rw [hd]; exact dN_le _ _ _
    obtain ⟨p, hp2⟩ : ∃ p, p = p0 + d := ⟨_, rfl⟩
    obtain ⟨q, hq⟩ : ∃ q, q = n - d := ⟨_, rfl⟩
    rw [← hp2, ← hq]
    by_cases hlt : d < n
    · obtain rfl := hrb.out hlt
      have hqpos : 0 < q := by omega
      have e1 : decide ((0 : Int) < (q : Int)) = true := decide_eq_true (by omega)
      obtain ⟨m, hm⟩ : ∃ m, m = min q (64 - p % 64) := ⟨_, rfl⟩
      have hpt := imp_partAt p g d q q m wr (by omega) hqpos (by omega) (by omega) hm
      obtain ⟨s1, s2, s3, s4, s5, s6⟩ := dN_step p0 n k m (by omega) (by rw [hm, hq, hp2, hd])
      rw [← hd] at s1 s2 s4 s6
      rw [← hp2] at s1 s4 s6
      obtain ⟨s, hs⟩ : ∃ s, s = p0 / 64 + k := ⟨_, rfl⟩
      obtain ⟨f, hf⟩ : ∃ f, f = p % 64 := ⟨_, rfl⟩
      rw [s1, ← hs, ← hf] at hpt
      have HPT := hide hpt
      have hsn : s < nS := by omega
      have hmq : m ≤ q := by omega
      have hcb : q ≤ 1048576 := by omega
      have hpb : p ≤ 39680 := by omega
      have hfm : f + m ≤ 64 := by rw [hf]; exact s4
      obtain ⟨d2, hd2⟩ : ∃ d2, d2 = d + m := ⟨_, rfl⟩
      obtain ⟨p2, hp3⟩ : ∃ p2, p2 = p + m := ⟨_, rfl⟩
      have s7 : (p : Int) + (m : Int) = (p2 : Int) := by omega
      have hp2b : p2 ≤ 39680 := by omega
      have hcell : ∀ j, j < n → (if d ≤ j ∧ j < d + m then bF (FF s) (f + (j - d)) else (if j < d then dB FF (p0 + j) else fr j)) = if j < d2 then dB FF (p0 + j) else fr j := fun j hj => by
        by_cases c1 : d ≤ j ∧ j < d + m
        · rw [if_pos c1, if_pos (by omega)]
          unfold dB
          rw [show (p0 + j) / 64 = s by omega, show (p0 + j) % 64 = f + (j - d) by omega]
        · rw [if_neg c1]
          by_cases c2 : j < d
          · rw [if_pos c2, if_pos (by omega)]
          · rw [if_neg c2, if_neg (by omega)]
      have hwr := HG.out.size
      have HX := hide (And.intro hcell (And.intro (HFF.out s hsn).1 (HFF.out s hsn).2))
      have HE := hide (show d2 = dN p0 n (k + 1) ∧ p2 = p0 + d2 ∧ q - m = n - d2 ∧ (d2 < n ↔ m < q) ∧ 0 < n ∧ 64 * (p0 / 64 + (k + 1 - 1)) < p0 + n ∧ d + m = d2 from ⟨by rw [hd2]; exact s2, by omega, by omega, by omega, by omega, by simpa using s3, hd2.symm⟩)
      have hom : d + m ≤ n := by omega
      have HV2 := hide (show vwI wr wb (.agg #[.slice sa nS sk, .map (some mb)]) nS S nC M from HV.out.below ⟨HG.out.os, HG.out.tape, HG.out.output, HG.out.size, fun x hx => HG.out.block x (by omega) (by simp; omega)⟩)
      have HWB2 := hide ((HG.out.block wb (by omega) (by simp; omega)).trans HWB.out)
      clear hpt hd hp2 hq hm s1 s2 s3 s4 s6 hs hf hd2 hp3 hcell hrb hk
      go_wp2_with fail
      refine HPT.out.mono ?_
      rintro e w1 ⟨rfl, hb1⟩
      have hz1 := hb1.size
      have al0 : Below w1.heap.size w1 (w1.alloc (.cells #[.int .i64 (s : Int), .int .i64 (f : Int), .slice (some ⟨g, d, none⟩) m q] 93)) := (Below.refl _ _).alloc (Nat.le_refl _) _
      have al1 := heap_alloc_new w1 (.cells #[.int .i64 (s : Int), .int .i64 (f : Int), .slice (some ⟨g, d, none⟩) m q] 93)
      have al2 : w1.heap.size < (w1.alloc (.cells #[.int .i64 (s : Int), .int .i64 (f : Int), .slice (some ⟨g, d, none⟩) m q] 93)).heap.size := by simp
      have AL := hide (And.intro al0 al1)
      clear al0 al1
      go_wp2_with fail
      generalize w1.alloc (.cells #[.int .i64 (s : Int), .int .i64 (f : Int), .slice (some ⟨g, d, none⟩) m q] 93) = w2 at *
      have hb2 := hb1.trans (AL.out.1.mono hz1)
      have hz2 := hb2.size
      refine (imp_read wb wb g d m q n s f nS sk nC mb sa (.slice none 0 0) S M (FF s) _ gt w2 hn hsn HX.out.2.1 HX.out.2.2 s5 hfm hom (by omega) (HV2.out.below (hb2.mono (by omega))) ((hb2.block wb (by omega)).trans HWB2.out) (HO.out.of_block (hb2.block g (by omega)))).mono ?_
      rintro e w3 ⟨rfl, ho3, hf3⟩
      have hpb3 := (hf3.block w1.heap.size al2 (by simp; omega)).trans AL.out.2
      have y2 : w3.cell? ⟨w1.heap.size, 2, none⟩ = some (.slice (some ⟨g, d, none⟩) m q) := by simp [World.cell?, hpb3]
      have R1 := hide (show w3.rowIs g gt n (u8V fun j => if j < d2 then dB FF (p0 + j) else fr j) from row_u8 ho3 (fun j hj => HX.out.1 j hj))
      have R3 := hide (show w.grownBy w3 (some g) from ⟨hf3.os.trans (hb2.os.trans HG.out.os), hf3.tape.trans (hb2.tape.trans HG.out.tape), hf3.output.trans (hb2.output.trans HG.out.output), by have := hf3.size; omega, fun x h1 h2 => (hf3.block x (by omega) h2).trans ((hb2.block x (by omega)).trans (HG.out.block x h1 h2))⟩)
      clear ho3 hf3 hpb3 hb1 hb2 AL HO HG HV2 HX
      go_wp2_with fail
      go_roundw
      case rel =>
        obtain ⟨x1, x2, x3, x5, x6, x7, x8⟩ := HE.out
        exact ⟨k + 1, d2, _, x1, .inr ⟨x6, x7⟩, by rw [x2], by rw [x3], fun h => by rw [if_neg (by have := x5.1 h; omega), x8], R1, R3⟩
      case measure => simp; omega
    · have e1 : decide ((0 : Int) < (q : Int)) = false := decide_eq_false (by omega)
      have hdn2 : d = n := by omega
      have HR := hide (show wr.rowIs g gt n (u8V fun j => dB FF (p0 + j)) from row_u8 HO.out (fun j hj => if_pos (by omega)))
      have hq0 : q = 0 := by omega
      clear hd hk hp2 hq hrb hdn2
      go_wp2_with fail
      exact bodyPost_end (v := .tuple #[]) (by simp [results, Try.results38]) rfl ⟨rfl, HR.out, HG.out⟩
end Go.Proofs.Ytipeelkmmjgehaa
/- The walk over the program's ExtentRead (written by mkextrd.py). -/
namespace Go.Proofs.Ytipeelkmmjgehaa
open Go Go.RowKit
set_option maxRecDepth 100000 in
set_option maxHeartbeats 3200000 in
theorem imp_extentRead (v : Value) (nS : Nat) (S : Nat → ByteArray) (nC : Nat) (A : Nat → Int) (X : Nat → ByteArray) (a m : Int) (w : World) (hS : nS ≤ 1048576) (hC : nC ≤ 1048576) (h : dskI w w.heap.size v nS S nC A X) :
    Calls Try.prog 13 #[v, .agg #[.int .i64 a, .int .i64 m]] w fun e w' => ∃ t c, e = .returned (doutV (.slice none 0 0) (.slice none 0 0) t c) ∧ rdOut nS S nC A X a m t c ∧ Below w.heap.size w w' := by
  obtain ⟨sv, cv, rfl, hs, hc⟩ := h
  have HI := hide (show dskI w w.heap.size (.agg #[sv, cv]) nS S nC A X from ⟨sv, cv, rfl, hs, hc⟩)
  obtain ⟨sa, sk, e1⟩ : ∃ a c, sv = .slice a nS c := by obtain ⟨a, c, e, _⟩ := hs; exact ⟨a, c, e⟩
  obtain ⟨ca, ck, e2⟩ : ∃ a c, cv = .slice a nC c := by obtain ⟨a, c, e, _⟩ := hc; exact ⟨a, c, e⟩
  subst e1 e2
  clear hs hc
  have HQ := hide (box3 w (.cells #[.slice sa nS sk, .slice ca nC ck] 26) (.cells #[.int .i64 a, .int .i64 m] 34) (.cells #[.slice none 0 0, .slice none 0 0, .string ⟨#[]⟩, .int .i64 0] 30))
  go_enter Try.func13, Try.ntmps13
  go_wp2_with fail
  obtain ⟨q0, q1, q2, q3, q4⟩ := HQ.out
  generalize (((w.alloc (.cells #[.slice sa nS sk, .slice ca nC ck] 26)).alloc (.cells #[.int .i64 a, .int .i64 m] 34)).alloc (.cells #[.slice none 0 0, .slice none 0 0, .string ⟨#[]⟩, .int .i64 0] 30)) = W2 at *
  have I2 : dskI W2 W2.heap.size (.agg #[.slice sa nS sk, .slice ca nC ck]) nS S nC A X := (HI.out.below q0).wide (by omega)
  have HS0 := hide (And.intro q2 (And.intro q3 (And.intro q4 q0)))
  refine (imp_diskRight _ nS S nC A X W2 hS hC I2).mono ?_
  rintro e w1 ⟨⟨r, rfl, hr⟩, hb1⟩
  clear q0 q2 q3 q4 HQ
  obtain ⟨k2, k3, k4, k5⟩ := HS0.out
  replace k2 := (hb1.block w.heap.size (by have := k5.size; omega)).trans k2
  replace k3 := (hb1.block (w.heap.size + 1) (by have := (Array.getElem?_eq_some_iff.1 k4).1; omega)).trans k3
  replace k4 := (hb1.block (w.heap.size + 2) (Array.getElem?_eq_some_iff.1 k4).1).trans k4
  replace k5 := k5.trans (hb1.mono k5.size)
  have HS1 := hide (And.intro k2 (And.intro k3 (And.intro k4 k5)))
  have I1 := hide ((I2.below hb1).wide hb1.size)
  have hz1 := hb1.size
  have b0 : w1.cell? ⟨w.heap.size, 0, none⟩ = some (.slice sa nS sk) := by simp [World.cell?, k2]
  have b1 : w1.cell? ⟨w.heap.size, 1, none⟩ = some (.slice ca nC ck) := by simp [World.cell?, k2]
  have e0 : w1.cell? ⟨w.heap.size + 1, 0, none⟩ = some (.int .i64 a) := by simp [World.cell?, k3]
  have e1 : w1.cell? ⟨w.heap.size + 1, 1, none⟩ = some (.int .i64 m) := by simp [World.cell?, k3]
  have oc0 : w1.cell? ⟨w.heap.size + 2, 0, none⟩ = some (.slice none 0 0) := by simp [World.cell?, k4]
  have of0 : w1.frozen? ⟨w.heap.size + 2, 0, none⟩ = false := by simp [World.frozen?, k4]
  have oc1 : w1.cell? ⟨w.heap.size + 2, 1, none⟩ = some (.slice none 0 0) := by simp [World.cell?, k4]
  have of1 : w1.frozen? ⟨w.heap.size + 2, 1, none⟩ = false := by simp [World.frozen?, k4]
  have oc2 : w1.cell? ⟨w.heap.size + 2, 2, none⟩ = some (.string ⟨#[]⟩) := by simp [World.cell?, k4]
  have of2 : w1.frozen? ⟨w.heap.size + 2, 2, none⟩ = false := by simp [World.frozen?, k4]
  have oc3 : w1.cell? ⟨w.heap.size + 2, 3, none⟩ = some (.int .i64 0) := by simp [World.cell?, k4]
  have of3 : w1.frozen? ⟨w.heap.size + 2, 3, none⟩ = false := by simp [World.frozen?, k4]
  clear k2 k3 k4 k5 HS0 hb1 I2
  cases r with
  | false =>
    have R := hide (show ¬ dskOk nS S nC A X from fun h => by have := hr.2 h; cases this)
    have HR := hide HS1.out.2.2.1
    have HB := hide HS1.out.2.2.2
    clear hr
    go_wp2_with fail
    have fin := set4_blk w1 (w.heap.size + 2) _ _ _ _ (.slice none 0 0) (.slice none 0 0) (.string ⟨#[]⟩) (.int .i64 1) _ HR.out
    have hbf := below_set4 HB.out (w.heap.size + 2) (by omega) (.slice none 0 0) (.slice none 0 0) (.string ⟨#[]⟩) (.int .i64 1)
    exact bodyPost_ret (results_cell_row Try.results13 _ _ (w.heap.size + 2) 30 #[.slice none 0 0, .slice none 0 0, .string ⟨#[]⟩, .int .i64 1] (0, 0) _ rfl fin Try.underlying30 rfl (by kernel_rfl)) rfl ⟨_, _, rfl, .inl ⟨R.out, rfl, rfl⟩, hbf⟩
  | true =>
    have R := hide (hr.1 rfl)
    clear hr
    go_wp2_with fail
    refine (imp_extentRight a m (nS : Int) w1).mono ?_
    rintro e w2 ⟨⟨r, rfl, hr⟩, hb2⟩
    clear b0 b1 e0 e1 oc0 of0 oc1 of1 oc2 of2 oc3 of3
    obtain ⟨k2, k3, k4, k5⟩ := HS1.out
    replace k2 := (hb2.block w.heap.size (by have := k5.size; omega)).trans k2
    replace k3 := (hb2.block (w.heap.size + 1) (by have := (Array.getElem?_eq_some_iff.1 k4).1; omega)).trans k3
    replace k4 := (hb2.block (w.heap.size + 2) (Array.getElem?_eq_some_iff.1 k4).1).trans k4
    replace k5 := k5.trans (hb2.mono k5.size)
    have HS2 := hide (And.intro k2 (And.intro k3 (And.intro k4 k5)))
    have I2 := hide ((I1.out.below hb2).wide hb2.size)
    have hz2 := hb2.size
    have b0 : w2.cell? ⟨w.heap.size, 0, none⟩ = some (.slice sa nS sk) := by simp [World.cell?, k2]
    have b1 : w2.cell? ⟨w.heap.size, 1, none⟩ = some (.slice ca nC ck) := by simp [World.cell?, k2]
    have e0 : w2.cell? ⟨w.heap.size + 1, 0, none⟩ = some (.int .i64 a) := by simp [World.cell?, k3]
    have e1 : w2.cell? ⟨w.heap.size + 1, 1, none⟩ = some (.int .i64 m) := by simp [World.cell?, k3]
    have oc0 : w2.cell? ⟨w.heap.size + 2, 0, none⟩ = some (.slice none 0 0) := by simp [World.cell?, k4]
    have of0 : w2.frozen? ⟨w.heap.size + 2, 0, none⟩ = false := by simp [World.frozen?, k4]
    have oc1 : w2.cell? ⟨w.heap.size + 2, 1, none⟩ = some (.slice none 0 0) := by simp [World.cell?, k4]
    have of1 : w2.frozen? ⟨w.heap.size + 2, 1, none⟩ = false := by simp [World.frozen?, k4]
    have oc2 : w2.cell? ⟨w.heap.size + 2, 2, none⟩ = some (.string ⟨#[]⟩) := by simp [World.cell?, k4]
    have of2 : w2.frozen? ⟨w.heap.size + 2, 2, none⟩ = false := by simp [World.frozen?, k4]
    have oc3 : w2.cell? ⟨w.heap.size + 2, 3, none⟩ = some (.int .i64 0) := by simp [World.cell?, k4]
    have of3 : w2.frozen? ⟨w.heap.size + 2, 3, none⟩ = false := by simp [World.frozen?, k4]
    clear k2 k3 k4 k5 HS1 hb2 I1
    cases r with
    | false =>
      have RE := hide (show ¬ extOk a m (nS : Int) from fun h => by have := hr.2 h; cases this)
      have HR := hide HS2.out.2.2.1
      have HB := hide HS2.out.2.2.2
      clear hr
      go_wp2_with fail
      have fin := set4_blk w2 (w.heap.size + 2) _ _ _ _ (.slice none 0 0) (.slice none 0 0) (.string ⟨#[]⟩) (.int .i64 8) _ HR.out
      have hbf := below_set4 HB.out (w.heap.size + 2) (by omega) (.slice none 0 0) (.slice none 0 0) (.string ⟨#[]⟩) (.int .i64 8)
      exact bodyPost_ret (results_cell_row Try.results13 _ _ (w.heap.size + 2) 30 #[.slice none 0 0, .slice none 0 0, .string ⟨#[]⟩, .int .i64 8] (0, 0) _ rfl fin Try.underlying30 rfl (by kernel_rfl)) rfl ⟨_, _, rfl, .inr (.inl ⟨R.out, RE.out, rfl, rfl⟩), hbf⟩
    | true =>
      have hE := hr.1 rfl
      have RE := hide hE
      unfold extOk at hE
      obtain ⟨m, rfl⟩ : ∃ k : Nat, m = (k : Int) := ⟨m.toNat, by omega⟩
      obtain ⟨a, rfl⟩ : ∃ k : Nat, a = (k : Int) := ⟨a.toNat, by omega⟩
      have hm2 : m ≤ 20000 := by omega
      have hn6 := R.out.1
      have hn4 := R.out.2.1
      have hfit : 64 * a + m ≤ 64 * nS := by simp only [Int.toNat_natCast] at hE; omega
      obtain ⟨p0, hp0⟩ : ∃ p0, p0 = 64 * a := ⟨_, rfl⟩
      have s1 : (a : Int) * 64 = (p0 : Int) := by omega
      have hpb : (p0 : Int) ≤ 39680 := by omega
      rw [← hp0] at hfit
      have HP0 := hide hp0
      clear hr hE hp0
      clear e0 e1 oc0 of0 oc1 of1 oc2 of2 oc3 of3
      go_wp2_with fail
      refine (imp_viewOf _ nS S nC A X w2 R.out I2.out).mono ?_
      rintro e w3 ⟨o, rfl, hv, hb3⟩
      obtain ⟨sa2, sk2, mb, rfl, _⟩ := id hv
      have HV := hide hv
      clear b0 b1
      obtain ⟨k2, k3, k4, k5⟩ := HS2.out
      replace k2 := (hb3.block w.heap.size (by have := k5.size; omega)).trans k2
      replace k3 := (hb3.block (w.heap.size + 1) (by have := (Array.getElem?_eq_some_iff.1 k4).1; omega)).trans k3
      replace k4 := (hb3.block (w.heap.size + 2) (Array.getElem?_eq_some_iff.1 k4).1).trans k4
      replace k5 := k5.trans (hb3.mono k5.size)
      have HS3 := hide (And.intro k2 (And.intro k3 (And.intro k4 k5)))
      have hz3 := hb3.size
      have hw3 : w.heap.size + 2 < w3.heap.size := (Array.getElem?_eq_some_iff.1 k4).1
      clear hb3 I2 HS2 hv k2 k3 k4 k5
      have hmk : ∀ w : World, (Instr.makeSlice 22 (.int .i64 (m : Int)) (.int .i64 (m : Int))).run Try.prog w = .ok (.slice (some ⟨w.heap.size, 0, none⟩) m m) (w.alloc (.cells (madeCells #[.int .u8 0] m) 5)) := run_make_row' (P := Try.prog) 22 5 (.int .u8 0) 1 (by kernel_rfl) Try.infoB8t rfl .i64 .i64 m (by omega) (by omega)
      have al0 : Below w3.heap.size w3 (w3.alloc (.cells #[.slice sa2 nS sk2, .map (some mb), .slice none 0 0] 65)) := (Below.refl _ _).alloc (Nat.le_refl _) _
      have al1 : (w3.alloc (.cells #[.slice sa2 nS sk2, .map (some mb), .slice none 0 0] 65)).heap[w3.heap.size]? = some (.cells #[.slice sa2 nS sk2, .map (some mb), .slice none 0 0] 65) := heap_alloc_new _ _
      have al2 : (w3.alloc (.cells #[.slice sa2 nS sk2, .map (some mb), .slice none 0 0] 65)).heap.size = w3.heap.size + 1 := World.size_alloc _ _
      obtain ⟨k2, k3, k4, k5⟩ := HS3.out
      replace k2 := (al0.block w.heap.size (by have := k5.size; omega)).trans k2
      replace k3 := (al0.block (w.heap.size + 1) (by have := (Array.getElem?_eq_some_iff.1 k4).1; omega)).trans k3
      replace k4 := (al0.block (w.heap.size + 2) (Array.getElem?_eq_some_iff.1 k4).1).trans k4
      replace k5 := k5.trans (al0.mono k5.size)
      have HS4 := hide (And.intro k2 (And.intro k3 (And.intro k4 k5)))
      have e0 : (w3.alloc (.cells #[.slice sa2 nS sk2, .map (some mb), .slice none 0 0] 65)).cell? ⟨w.heap.size + 1, 0, none⟩ = some (.int .i64 a) := by simp [World.cell?, k3]
      have e1 : (w3.alloc (.cells #[.slice sa2 nS sk2, .map (some mb), .slice none 0 0] 65)).cell? ⟨w.heap.size + 1, 1, none⟩ = some (.int .i64 m) := by simp [World.cell?, k3]
      have bl0 : Below (w3.alloc (.cells #[.slice sa2 nS sk2, .map (some mb), .slice none 0 0] 65)).heap.size (w3.alloc (.cells #[.slice sa2 nS sk2, .map (some mb), .slice none 0 0] 65)) ((w3.alloc (.cells #[.slice sa2 nS sk2, .map (some mb), .slice none 0 0] 65)).alloc (.cells (madeCells #[.int .u8 0] m) 5)) := (Below.refl _ _).alloc (Nat.le_refl _) _
      have bl1 := World.rowIs_made (w3.alloc (.cells #[.slice sa2 nS sk2, .map (some mb), .slice none 0 0] 65)) (.int .u8 0) m 5
      have bl2 : ((w3.alloc (.cells #[.slice sa2 nS sk2, .map (some mb), .slice none 0 0] 65)).alloc (.cells (madeCells #[.int .u8 0] m) 5)).heap.size = (w3.alloc (.cells #[.slice sa2 nS sk2, .map (some mb), .slice none 0 0] 65)).heap.size + 1 := World.size_alloc _ _
      have e0b : ((w3.alloc (.cells #[.slice sa2 nS sk2, .map (some mb), .slice none 0 0] 65)).alloc (.cells (madeCells #[.int .u8 0] m) 5)).cell? ⟨w.heap.size + 1, 0, none⟩ = some (.int .i64 (a : Int)) := by have h := (bl0.block (w.heap.size + 1) (by omega)).trans k3; simp [World.cell?, h]
      have HS5 := hide (show ((w3.alloc (.cells #[.slice sa2 nS sk2, .map (some mb), .slice none 0 0] 65)).alloc (.cells (madeCells #[.int .u8 0] m) 5)).heap[w.heap.size + 2]? = some (.cells #[.slice none 0 0, .slice none 0 0, .string ⟨#[]⟩, .int .i64 0] 30) ∧ Below w.heap.size w ((w3.alloc (.cells #[.slice sa2 nS sk2, .map (some mb), .slice none 0 0] 65)).alloc (.cells (madeCells #[.int .u8 0] m) 5)) ∧ Below w3.heap.size w3 ((w3.alloc (.cells #[.slice sa2 nS sk2, .map (some mb), .slice none 0 0] 65)).alloc (.cells (madeCells #[.int .u8 0] m) 5)) ∧ ((w3.alloc (.cells #[.slice sa2 nS sk2, .map (some mb), .slice none 0 0] 65)).alloc (.cells (madeCells #[.int .u8 0] m) 5)).heap[w3.heap.size]? = some (.cells #[.slice sa2 nS sk2, .map (some mb), .slice none 0 0] 65) ∧ ((w3.alloc (.cells #[.slice sa2 nS sk2, .map (some mb), .slice none 0 0] 65)).alloc (.cells (madeCells #[.int .u8 0] m) 5)).rowIs (w3.heap.size + 1) 5 m (u8V fun _ => 0) from
        ⟨(bl0.block (w.heap.size + 2) (by omega)).trans k4, k5.trans (bl0.mono (by omega)), al0.trans (bl0.mono (by omega)), (bl0.block w3.heap.size (by omega)).trans al1, by rw [al2] at bl1; exact bl1⟩)
      have z5 : w3.heap.size + 1 < ((w3.alloc (.cells #[.slice sa2 nS sk2, .map (some mb), .slice none 0 0] 65)).alloc (.cells (madeCells #[.int .u8 0] m) 5)).heap.size := by omega
      clear al0 al1 bl0 bl1 bl2 k2 k3 k4 k5 HS3 HS4
      go_wp2_with fail
      clear e0 e1 e0b hmk al2
      generalize ((w3.alloc (.cells #[.slice sa2 nS sk2, .map (some mb), .slice none 0 0] 65)).alloc (.cells (madeCells #[.int .u8 0] m) 5)) = W5 at *
      obtain ⟨FF, hFF⟩ : ∃ FF, FF = flS S A X (fun _ => true) nC := ⟨_, rfl⟩
      have hFz : ∀ j, j < nS → FF j = (latM A X nC (j : Int)).getD (S j) ∧ (FF j).size = 64 := fun j hj => ⟨by rw [hFF]; exact flS_lat2 S A X nC j, by rw [hFF]; exact flS_size S A X _ nS R.out.2.2.1 nC (fun j hj => (R.out.2.2.2 j hj).2.2) j hj⟩
      have HFF := hide hFF
      clear hFF
      refine (imp_through_read w3.heap.size (w3.heap.size + 1) m p0 nS sk2 nC mb sa2 _ S (latM A X nC) FF (fun _ => 0) 5 W5 hn6 hfit hFz (HV.out.below HS5.out.2.2.1) HS5.out.2.2.2.1 (by omega) (.inr rfl) HS5.out.2.2.2.2).mono ?_
      rintro e w6 ⟨rfl, hr6, hg6⟩
      obtain ⟨TX, hTX⟩ : ∃ TX : ByteArray, TX = ⟨(dL FF p0 m).toArray⟩ := ⟨_, rfl⟩
      have hcv : (convert 22 9 (.slice (some ⟨w3.heap.size + 1, 0, none⟩) m m)).run Try.prog w6 = .ok (.string TX) w6 := by
        have h := run_convert_bytes_back (P := Try.prog) w6 22 9 5 ⟨w3.heap.size + 1, 0, none⟩ m (dL FF p0 m) Try.underlying22 Try.underlying5 Try.underlying9 (fun j hj => by
          have hj2 : j < m := by rw [dL_len] at hj; exact hj
          have ea : (⟨w3.heap.size + 1, 0, none⟩ : Addr).add j = ⟨w3.heap.size + 1, j, none⟩ := by by_cases hz : j = 0 <;> simp [Addr.add, hz]
          rw [ea, hr6.cell (i := j) hj2]
          simp [u8V, dL])
        rw [dL_len] at h
        rw [hTX]; exact h
      have k4 := (hg6.block (w.heap.size + 2) (by omega) (by simp; omega)).trans HS5.out.1
      have HB := hide (HS5.out.2.1.grown hg6 (by omega) (fun x hx => by cases hx; omega))
      have HR := hide k4
      have HTX := hide hTX
      have oc0 : w6.cell? ⟨w.heap.size + 2, 0, none⟩ = some (.slice none 0 0) := by simp [World.cell?, k4]
      have of0 : w6.frozen? ⟨w.heap.size + 2, 0, none⟩ = false := by simp [World.frozen?, k4]
      have oc1 : w6.cell? ⟨w.heap.size + 2, 1, none⟩ = some (.slice none 0 0) := by simp [World.cell?, k4]
      have of1 : w6.frozen? ⟨w.heap.size + 2, 1, none⟩ = false := by simp [World.frozen?, k4]
      have oc2 : w6.cell? ⟨w.heap.size + 2, 2, none⟩ = some (.string ⟨#[]⟩) := by simp [World.cell?, k4]
      have of2 : w6.frozen? ⟨w.heap.size + 2, 2, none⟩ = false := by simp [World.frozen?, k4]
      have oc3 : w6.cell? ⟨w.heap.size + 2, 3, none⟩ = some (.int .i64 0) := by simp [World.cell?, k4]
      have of3 : w6.frozen? ⟨w.heap.size + 2, 3, none⟩ = false := by simp [World.frozen?, k4]
      clear k4 hg6 hr6 HS5 hTX
      go_wp2_with fail
      have fin := set4_blk w6 (w.heap.size + 2) _ _ _ _ (.slice none 0 0) (.slice none 0 0) (.string TX) (.int .i64 0) _ HR.out
      have hbf := below_set4 HB.out (w.heap.size + 2) (by omega) (.slice none 0 0) (.slice none 0 0) (.string TX) (.int .i64 0)
      exact bodyPost_ret (results_cell_row Try.results13 _ _ (w.heap.size + 2) 30 #[.slice none 0 0, .slice none 0 0, .string TX, .int .i64 0] (0, 0) _ rfl fin Try.underlying30 rfl (by kernel_rfl)) rfl ⟨_, _, rfl, .inr (.inr ⟨R.out, RE.out, by rw [HTX.out, HFF.out, HP0.out]; rfl, rfl⟩), hbf⟩
end Go.Proofs.Ytipeelkmmjgehaa
/- The law of ExtentRead holds. -/
namespace Go.Proofs.Ytipeelkmmjgehaa
open Go Go.RowKit
theorem rdOut_is {nS : Nat} {S : Nat → ByteArray} {nC : Nat} {A : Nat → Int} {X : Nat → ByteArray} {a m : Int} {t u : ByteArray} {c d : Int} (h1 : rdOut nS S nC A X a m t c) (h2 : rdOut nS S nC A X a m u d) : t = u ∧ c = d := by
  rcases h1 with ⟨p1, e1, f1⟩ | ⟨p1, q1, e1, f1⟩ | ⟨p1, q1, e1, f1⟩ <;> rcases h2 with ⟨p2, e2, f2⟩ | ⟨p2, q2, e2, f2⟩ | ⟨p2, q2, e2, f2⟩ <;> first | exact ⟨e1.trans e2.symm, f1.trans f2.symm⟩ | (exfalso; exact p1 p2) | (exfalso; exact p2 p1) | (exfalso; exact q1 q2) | (exfalso; exact q2 q1)
theorem rdOut_some (nS : Nat) (S : Nat → ByteArray) (nC : Nat) (A : Nat → Int) (X : Nat → ByteArray) (a m : Int) : ∃ t c, rdOut nS S nC A X a m t c := by
  by_cases h1 : dskOk nS S nC A X
  · by_cases h2 : extOk a m (nS : Int)
    · exact ⟨_, _, .inr (.inr ⟨h1, h2, rfl, rfl⟩)⟩
    · exact ⟨_, _, .inr (.inl ⟨h1, h2, rfl, rfl⟩)⟩
  · exact ⟨_, _, .inl ⟨h1, rfl, rfl⟩⟩
theorem rd_out {f : Nat} {args : Array Value} {u : World} {nS : Nat} {S : Nat → ByteArray} {nC : Nat} {A : Nat → Int} {X : Nat → ByteArray} {a m : Int} (t : ByteArray) (c : Int) (hd : rdOut nS S nC A X a m t c)
    (h : Calls Try.prog f args u fun e w' => ∃ t c, e = .returned (doutV (.slice none 0 0) (.slice none 0 0) t c) ∧ rdOut nS S nC A X a m t c ∧ Below u.heap.size u w') :
    Calls Try.prog f args u fun e w1 => e = .returned (doutV (.slice none 0 0) (.slice none 0 0) t c) ∧ Below u.heap.size u w1 :=
  h.mono fun _ _ ⟨t2, c2, h1, h2, h3⟩ => by
    obtain ⟨rfl, rfl⟩ := rdOut_is h2 hd
    exact ⟨h1, h3⟩
theorem fnExactExtentRead_walk (v : Value) (nS : Nat) (S : Nat → ByteArray) (nC : Nat) (A : Nat → Int) (X : Nat → ByteArray) (a m : Int) (w : World) (hI : dskI w w.heap.size v nS S nC A X) (hS : nS ≤ maxLen) (hC : nC ≤ maxLen) (hSz : ∀ j, j < nS → (S j).size ≤ maxLen) (hXz : ∀ j, j < nC → (X j).size ≤ maxLen) :
    Calls Try.prog 8 #[v, .agg #[.int .i64 a, .int .i64 m]] w fun e w' => e = .returned (.bool true) ∧ Below w.heap.size w w' := by
  unfold maxLen at hS hC
  have hSz' : ∀ j, j < nS → (S j).size ≤ 9223372036854775807 := fun j hj => Nat.le_trans (hSz j hj) (by unfold maxLen; omega)
  have hXz' : ∀ j, j < nC → (X j).size ≤ 9223372036854775807 := fun j hj => Nat.le_trans (hXz j hj) (by unfold maxLen; omega)
  obtain ⟨t, c, hd⟩ := rdOut_some nS S nC A X a m
  exact fnExactExtentRead_core v nS S nC A X a m t c w (by omega) (by omega) hSz' hXz'
    (fun b c2 _ _ u x h => rd_out t c hd (spec_extentRead x nS S nC A X a m u b c2 h)) (fun b c2 _ _ u x h => rd_out t c hd (imp_extentRead x nS S nC A X a m u b c2 h)) hI
end Go.Proofs.Ytipeelkmmjgehaa
/- A disk that came in, opened. -/
namespace Go.Proofs.Ytipeelkmmjgehaa
open Go.ChangeShapes Go.WideShapes Go.ChangeAt Go.RowKit Go.Deep Go.Joins
theorem Try.cellsLawWr : Try.prog.cellsOf 106 = 2 := by kernel_rfl
theorem Try.cellsLawDisk : Try.prog.cellsOf 45 = 2 := by kernel_rfl
theorem Try.cellsI64d : Try.prog.cellsOf 2 = 1 := by kernel_rfl
theorem Try.cellsStrd : Try.prog.cellsOf 9 = 1 := by kernel_rfl
theorem addD (b off i : Nat) : (⟨b, off, none⟩ : Addr).add i = ⟨b, off + i, none⟩ := by by_cases hz : i = 0 <;> simp [Addr.add, hz]
set_option maxRecDepth 100000 in
theorem open_strsD {H : Type} {enc : TypeId × Value → H} {W : World} {sv : Value} {fuel : Nat} {x : DataW H × List MemPlace} (h : DataW.trod enc Try.prog W 0 (fun _ => true) true fuel 23 [sv] = some x) :
    ∃ (nS : Nat) (S : Nat → ByteArray), strI W W.heap.size sv nS S ∧ nS ≤ maxLen ∧ ∀ j, j < nS → (S j).size ≤ maxLen := by
  rcases open_slice1 Try.underlying23 Try.cellsStrd h with ⟨hcs, _⟩ | ⟨y, len, cap, m, n, V, D, Pl, hcs, _, hl, hm, hmm, _, hx⟩
  · simp at hcs
    subst hcs
    exact ⟨0, fun _ => ⟨#[]⟩, ⟨none, 0, rfl, Nat.le_refl _, .inl rfl⟩, Nat.zero_le _, fun j hj => by omega⟩
  · simp at hcs
    subst hcs
    have hmc : m = cap := by simpa using hmm
    subst hmc
    haveI : Inhabited ByteArray := ⟨⟨#[]⟩⟩
    obtain ⟨S, hS⟩ := choose_lt (α := ByteArray) (n := len) (p := fun i s => W.cell? (y.add i) = some (.string s) ∧ s.size ≤ maxLen) (fun i hi => by
      obtain ⟨h1, h2⟩ := hx i (by omega)
      obtain ⟨s, e0, _, hs⟩ := DataW.trod_string Try.underlying9 h2
      simp at e0
      exact ⟨s, by rw [h1, e0], hs⟩)
    refine ⟨len, S, ⟨some y, m, rfl, hl, ?_⟩, Nat.le_trans hl hm, fun j hj => (hS j hj).2⟩
    by_cases h0 : len = 0
    · exact .inl h0
    · obtain ⟨b, off, spot⟩ := y
      have hc0 := (hS 0 (by omega)).1
      have hspot : spot = none := by simpa [Addr.add] using World.cell?_spot hc0
      subst hspot
      have hb := World.block_lt_of_cell? W _ hc0
      refine .inr ⟨b, off, rfl, by simpa [Addr.add] using hb, fun j hj => ?_⟩
      have h1 := (hS j hj).1
      rw [addD] at h1
      exact h1
set_option maxRecDepth 100000 in
theorem open_wrs {H : Type} {enc : TypeId × Value → H} {W : World} {cv : Value} {fuel : Nat} {x : DataW H × List MemPlace} (h : DataW.trod enc Try.prog W 0 (fun _ => true) true fuel 43 [cv] = some x) :
    ∃ (nC : Nat) (A : Nat → Int) (X : Nat → ByteArray), sliI 2 W W.heap.size cv nC (cWr A X) ∧ nC ≤ maxLen ∧ ∀ j, j < nC → (X j).size ≤ maxLen := by
  rcases open_slice Try.underlying43 h with ⟨hcs, _⟩ | ⟨y, len, cap, m, n, D, Pl, hcs, _, hl, hm, hmm, _, hx⟩
  · simp at hcs
    subst hcs
    exact ⟨0, fun _ => 0, fun _ => ⟨#[]⟩, ⟨none, 0, rfl, Nat.le_refl _, .inl rfl⟩, Nat.zero_le _, fun j hj => by omega⟩
  · simp at hcs
    subst hcs
    have hmc : m = cap := by simpa using hmm
    subst hmc
    rw [Try.cellsLawWr] at hx
    obtain ⟨V, hV⟩ := choose_lt (α := Int × ByteArray) (n := len) (p := fun i v => W.cell? (y.add (i * 2)) = some (.int .i64 v.1) ∧ W.cell? ((y.add (i * 2)).add 1) = some (.string v.2) ∧ v.2.size ≤ maxLen) (fun i hi => by
      obtain ⟨cs', h1, h2⟩ := hx i (by omega)
      obtain ⟨y0, y1, n2, _, hlen, t0, t1⟩ := trod_struct2 Try.underlying106 h2
      rw [Try.cellsLawWr] at hlen
      match cs', hlen with
      | [c0, c1], _ =>
        obtain ⟨z0, e0, _, _⟩ := DataW.trod_int Try.underlying2 t0
        obtain ⟨z1, e1, _, hz1⟩ := DataW.trod_string Try.underlying9 t1
        rw [show Try.prog.cellsOf _ = 1 from Try.cellsI64d] at e0
        rw [show Try.prog.cellsOf _ = 1 from Try.cellsStrd] at e1
        simp at e0 e1
        subst e0 e1
        have hc := (World.cells?_some h1).2.2
        refine ⟨⟨z0, z1⟩, ?_, ?_, hz1⟩
        · have := hc 0 (by omega)
          simpa [Addr.add] using this
        · have := hc 1 (by omega)
          simpa using this)
    refine ⟨len, fun j => (V j).1, fun j => (V j).2, ⟨some y, m, rfl, hl, ?_⟩, Nat.le_trans hl hm, fun j hj => (hV j hj).2.2⟩
    by_cases h0 : len = 0
    · exact .inl h0
    · obtain ⟨b, off, spot⟩ := y
      have hc0 := (hV 0 (by omega)).1
      have hspot : spot = none := by simpa [Addr.add] using World.cell?_spot hc0
      subst hspot
      have hb := World.block_lt_of_cell? W _ hc0
      refine .inr ⟨b, off, rfl, by simpa [Addr.add] using hb, fun j hj i hi => ?_⟩
      obtain ⟨h1, h2, _⟩ := hV j hj
      rw [addD, Nat.mul_comm j 2] at h1
      rw [addD, addD, Nat.mul_comm j 2] at h2
      match i, hi with
      | 0, _ => exact h1
      | 1, _ => exact h2
set_option maxRecDepth 100000 in
theorem open_disk {H : Type} {enc : TypeId × Value → H} {W : World} {b0 : Nat} {v : Value} {d : DataW H} {p : List MemPlace} (hv : Value.okWide Try.prog W .any b0 45 v) (h : DataW.Trod enc Try.prog W 0 (fun _ => true) true 45 v d p) :
    ∃ (nS : Nat) (S : Nat → ByteArray) (nC : Nat) (A : Nat → Int) (X : Nat → ByteArray), dskI W W.heap.size v nS S nC A X ∧ nS ≤ maxLen ∧ nC ≤ maxLen ∧ (∀ j, j < nS → (S j).size ≤ maxLen) ∧ ∀ j, j < nC → (X j).size ≤ maxLen := by
  obtain ⟨c0, c1, y0, y1, n, rfl, _, _, h0, h1⟩ := open_agg2 Try.underlying45 (by kernel_rfl) Try.cellsLawDisk hv h
  obtain ⟨nS, S, hs, h2, h3⟩ := open_strsD h0
  obtain ⟨nC, A, X, hc, h4, h5⟩ := open_wrs h1
  exact ⟨nS, S, nC, A, X, ⟨_, _, rfl, hs, hc⟩, h2, h4, h3, h5⟩
end Go.Proofs.Ytipeelkmmjgehaa
/- An extent that came in, opened. -/
namespace Go.Proofs.Ytipeelkmmjgehaa
open Go.ChangeShapes Go.WideShapes Go.ChangeAt Go.RowKit Go.Deep Go.Joins
theorem Try.cellsLawExt : Try.prog.cellsOf 39 = 2 := by kernel_rfl
set_option maxRecDepth 100000 in
theorem open_ext {H : Type} {enc : TypeId × Value → H} {W : World} {b0 : Nat} {v : Value} {d : DataW H} {p : List MemPlace} (hv : Value.okWide Try.prog W .any b0 39 v) (h : DataW.Trod enc Try.prog W 0 (fun _ => true) true 39 v d p) :
    ∃ a m : Int, v = .agg #[.int .i64 a, .int .i64 m] := by
  obtain ⟨c0, c1, y0, y1, n, rfl, _, _, h0, h1⟩ := open_agg2 Try.underlying39 (by kernel_rfl) Try.cellsLawExt hv h
  obtain ⟨z0, e0, _, _⟩ := DataW.trod_int Try.underlying2 h0
  obtain ⟨z1, e1, _, _⟩ := DataW.trod_int Try.underlying2 h1
  simp at e0 e1
  subst e0 e1
  exact ⟨z0, z1, rfl⟩
end Go.Proofs.Ytipeelkmmjgehaa

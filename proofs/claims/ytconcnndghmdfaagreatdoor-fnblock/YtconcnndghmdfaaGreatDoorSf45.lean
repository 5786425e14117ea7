/- Put together: SealPs, SealPc, SealPd, SealPb, OpW. -/
import Derived.WalkSmall
import Derived.Test.YtconcnndghmdfaaGreatDoorSf44
namespace Go.Proofs.YtconcnndghmdfaaGreatDoor
open Go.RowKit
def farOk10 (n : Int) : Bool := decide (0 ≤ n) && decide (n ≤ 256)
def faultP (c : Int) : Value := .iface 84 (.agg #[.int .i64 c])
set_option maxRecDepth 100000 in
theorem imp_idRight (id : Int) (w : World) :
 Calls Tryz.prog 24 #[.int .i64 id] w fun e w' => e = .returned (.bool (idOk id)) ∧ Below w.heap.size w w' := by
 have R := hide (show idOk id = (decide (0 ≤ id) && decide (id ≤ 2000000)) from rfl)
 by_cases h1 : 0 ≤ id
 · have h1' : decide (0 ≤ id) = true := decide_eq_true h1
   by_cases h2 : id ≤ 2000000
   · have h2' : decide (id ≤ 2000000) = true := decide_eq_true h2
     have R2 := hide (show idOk id = true by rw [R.out, h1', h2', Bool.and_self])
     go_enter Tryz.func24, Tryz.ntmps24
     go_wp2_with fail
     go_ret
     exact ⟨by rw [R2.out]; rfl, Below.refl _ _⟩
   · have h2' : decide (id ≤ 2000000) = false := decide_eq_false h2
     have R2 := hide (show idOk id = false by rw [R.out, h1', h2', Bool.true_and])
     go_enter Tryz.func24, Tryz.ntmps24
     go_wp2_with fail
     go_ret
     exact ⟨by rw [R2.out]; rfl, Below.refl _ _⟩
 · have h1' : decide (0 ≤ id) = false := decide_eq_false h1
   have R2 := hide (show idOk id = false by rw [R.out, h1', Bool.false_and])
   go_enter Tryz.func24, Tryz.ntmps24
   go_wp2_with fail
   go_ret
   exact ⟨by rw [R2.out]; rfl, Below.refl _ _⟩
set_option maxRecDepth 100000 in
theorem imp_farRight (id : Int) (w : World) :
 Calls Tryz.prog 25 #[.int .i64 id] w fun e w' => e = .returned (.bool (farOk10 id)) ∧ Below w.heap.size w w' := by
 have R := hide (show farOk10 id = (decide (0 ≤ id) && decide (id ≤ 256)) from rfl)
 by_cases h1 : 0 ≤ id
 · have h1' : decide (0 ≤ id) = true := decide_eq_true h1
   by_cases h2 : id ≤ 256
   · have h2' : decide (id ≤ 256) = true := decide_eq_true h2
     have R2 := hide (show farOk10 id = true by rw [R.out, h1', h2', Bool.and_self])
     go_enter Tryz.func25, Tryz.ntmps25
     go_wp2_with fail
     go_ret
     exact ⟨by rw [R2.out]; rfl, Below.refl _ _⟩
   · have h2' : decide (id ≤ 256) = false := decide_eq_false h2
     have R2 := hide (show farOk10 id = false by rw [R.out, h1', h2', Bool.true_and])
     go_enter Tryz.func25, Tryz.ntmps25
     go_wp2_with fail
     go_ret
     exact ⟨by rw [R2.out]; rfl, Below.refl _ _⟩
 · have h1' : decide (0 ≤ id) = false := decide_eq_false h1
   have R2 := hide (show farOk10 id = false by rw [R.out, h1', Bool.false_and])
   go_enter Tryz.func25, Tryz.ntmps25
   go_wp2_with fail
   go_ret
   exact ⟨by rw [R2.out]; rfl, Below.refl _ _⟩
theorem imp_demand_yes (c : Int) (w : World) : Calls Tryz.prog 62 #[.bool true, .int .i64 c] w fun e w' => e = .returned (.tuple #[]) ∧ w' = w := by
 go_enter Tryz.func62, Tryz.ntmps62
 go_wp2_with fail
 go_end0
 exact ⟨rfl, rfl⟩
theorem imp_demand_no (c : Int) (w : World) : Calls Tryz.prog 62 #[.bool false, .int .i64 c] w fun e w' => e = .panicked [{ v := faultP c, recovered := false }] ∧ w' = w := by
 go_enter Tryz.func62, Tryz.ntmps62
 go_wp2_with fail
 exact ⟨rfl, rfl, rfl⟩
theorem run_fault (v : Value) (x : TypeId) (W : World) : (Instr.typeAssert (.iface 84 v) x 84 false).run Tryz.prog W = .ok v W := by
 simp [Instr.typeAssert, run_underlying Tryz.underlying84]
set_option maxRecDepth 100000 in
theorem imp_faultCode (c : Int) (w : World) : Calls Tryz.prog 36 #[faultP c] w fun e w' => e = .returned (.int .i64 c) ∧ w' = w := by
 have hta := run_fault
 have hfi : ∀ W : World, (Instr.field 84 (.agg #[.int .i64 c]) 0).run Tryz.prog W = .ok (.int .i64 c) W := fun W => by kernel_rfl
 unfold faultP
 go_enter Tryz.func36, Tryz.ntmps36
 go_wp2_with fail
 go_ret
 exact ⟨rfl, rfl⟩
def inFront (s p : ByteArray) : Prop := p.size ≤ s.size ∧ s.extract 0 p.size = p
instance (s p : ByteArray) : Decidable (inFront s p) := by unfold inFront; infer_instance
def cutT (s p : ByteArray) : ByteArray := if inFront s p then s.extract p.size s.size else s
theorem list_beq (a b : ByteArray) : (a.toList == b.toList) = decide (a = b) := by
 by_cases h : a = b
 · subst h; simp
 · rw [decide_eq_false h]
   exact beq_eq_false_iff_ne.2 (fun e => h (by rw [ByteArray.toList_eq, ByteArray.toList_eq] at e; exact ByteArray.ext (Array.toList_inj.1 e)))
set_option maxRecDepth 100000 in
theorem imp_hasPrefix (s p : ByteArray) (w : World) :
 Calls Tryz.prog 144 #[.string s, .string p] w fun e w' => e = .returned (.bool (decide (inFront s p))) ∧ w' = w := by
 by_cases h1 : p.size ≤ s.size
 · have h1' : (p.size : Int) ≤ (s.size : Int) := by omega
   have hsl : ∀ W : World, (Instr.slice 9 (.string s) none (some (.int .i64 (p.size : Int))) none).run Tryz.prog W = .ok (.string (s.extract 0 p.size)) W := fun W => run_front (P := Tryz.prog) W 9 s p.size Tryz.underlying9 h1
   have E := hide (show decide (inFront s p) = decide (s.extract 0 p.size = p) from decide_eq_decide.2 ⟨fun h => h.2, fun h => ⟨h1, h⟩⟩)
   go_enter Tryz.func144, Tryz.ntmps144
   go_wp2_with fail
   go_ret
   exact ⟨by rw [E.out, ← list_beq]; rfl, rfl⟩
 · have h1' : (s.size : Int) < (p.size : Int) := by omega
   have E := hide (show decide (inFront s p) = false from decide_eq_false fun h => h1 h.1)
   go_enter Tryz.func144, Tryz.ntmps144
   go_wp2_with fail
   go_ret
   exact ⟨by rw [E.out]; rfl, rfl⟩
set_option maxRecDepth 100000 in
theorem imp_cutLite (s p : ByteArray) (w : World) :
 Calls Tryz.prog 130 #[.string s, .string p] w fun e w' => e = .returned (.tuple #[.string (cutT s p), .bool (decide (inFront s p))]) ∧ w' = w := by
 have S := fun W => imp_hasPrefix s p W
 by_cases h : inFront s p
 · have E := hide (show cutT s p = s.extract p.size s.size from if_pos h)
   have D := hide (show decide (inFront s p) = true from decide_eq_true h)
   rw [D.out] at S
   have h1 : (p.size : Int) ≤ (s.size : Int) := by have := h.1; omega
   have S := hide S
   clear h
   go_enter Tryz.func130, Tryz.ntmps130
   go_wp2_with fail
   refine (S.out _).mono ?_
   rintro e w1 ⟨rfl, rfl⟩
   clear S
   go_wp2_with fail
   go_ret2
   exact ⟨by rw [E.out, D.out]; first | done | rfl, rfl⟩
 · have E := hide (show cutT s p = s from if_neg h)
   have D := hide (show decide (inFront s p) = false from decide_eq_false h)
   rw [D.out] at S
   have S := hide S
   clear h
   go_enter Tryz.func130, Tryz.ntmps130
   go_wp2_with fail
   refine (S.out _).mono ?_
   rintro e w1 ⟨rfl, rfl⟩
   clear S
   go_wp2_with fail
   go_ret2
   exact ⟨by rw [E.out, D.out]; first | done | rfl, rfl⟩
set_option maxRecDepth 100000 in
theorem imp_cutPre (s p : ByteArray) (w : World) :
 Calls Tryz.prog 98 #[.string s, .string p] w fun e w' => e = .returned (.tuple #[.string (cutT s p), .bool (decide (inFront s p))]) ∧ w' = w := by
 have S := hide (fun W => imp_cutLite s p W)
 go_enter Tryz.func98, Tryz.ntmps98
 go_wp2_with fail
 refine (S.out _).mono ?_
 rintro e w1 ⟨rfl, rfl⟩
 clear S
 go_wp2_with fail
 go_ret2
 exact ⟨rfl, rfl⟩
set_option maxRecDepth 100000 in
set_option maxHeartbeats 16000000 in
theorem imp_sealGoodF (H M : ByteArray) (id far : Int) (t : ByteArray) (w : World) (htab : Tab w) (hk : keysOk (H, M) = true) (h0 : 0 ≤ id) (h1 : id ≤ 2000000) (h2 : 0 ≤ far) (h3 : far ≤ 256) (ht : t.size ≤ 4000) (hf0 : 0 < far) :
 Calls Tryz.prog 7 #[.agg #[.string H, .string M], .int .i64 id, .int .i64 far, .string t] w fun e w' => e = .returned (.string (sealB (H, M) id far t)) ∧ Below w.heap.size w w' := by
 obtain ⟨hH, hM⟩ : H.size = 16 ∧ M.size = 32 := by unfold keysOk at hk; simpa using hk
 have hi : idOk id = true := by unfold idOk; simp; omega
 have hr : farOk10 far = true := by unfold farOk10; simp; omega
 have SK := hide (fun W => by have h := imp_keysRight H M W; rw [hk] at h; exact h)
 have SI := hide (fun W => by have h := imp_idRight id W; rw [hi] at h; exact h)
 have SR := hide (fun W => by have h := imp_farRight far W; rw [hr] at h; exact h)
 clear hi hr hk
 obtain ⟨N, rfl⟩ := Int.eq_ofNat_of_zero_le h0
 obtain ⟨F, rfl⟩ := Int.eq_ofNat_of_zero_le h2
 have d4 : ¬ (4000 : Int) < (t.size : Int) := by omega
 have d5 : decide ((4000 : Int) < (t.size : Int)) = false := decide_eq_false d4
 have hsz := sealT_size (H, M) (N : Int) (F : Int) t h0 h1 h2 h3 ht
 have hp := packB_few (difB t (F : Int)) (by rw [difB_size]; exact ht)
 have hds : (difB t (F : Int)).size ≤ 4000 := by rw [difB_size]; exact ht
 have hpk : packS (difB t (F : Int)) = packB (difB t (F : Int)) := if_pos hds
 obtain ⟨num, hnum⟩ : ∃ f : Int → ByteArray, f = fun n => ⟨(encNum (foldNum n)).toArray⟩ := ⟨_, rfl⟩
 have SN0 : ∀ (n : Int) (W : World), 0 ≤ n → n ≤ 2000000 → Calls Tryz.prog 28 #[.int .i64 n] W fun e w' => e = .returned (.string (num n)) ∧ Below W.heap.size W w' := fun n W a b => by rw [hnum]; exact impl_putNum n W (by omega) (by omega)
 have SN := hide SN0
 clear SN0
 have SP0 : ∀ W : World, Calls Tryz.prog 30 #[.string (difB t (F : Int))] W fun e w' => e = .returned (.string (packB (difB t (F : Int)))) ∧ Below W.heap.size W w' := fun W => by have h := imp_pack (difB t (F : Int)) W (by omega); rw [hpk] at h; exact h
 have SP := hide SP0
 clear SP0
 have SC := hide (fun W => imp_ctrA H (packB (difB t (F : Int))) N W hH (by omega) (by omega))
 have E := hide (show sealB (H, M) (N : Int) (F : Int) t = sealT (H, M) (N : Int) (F : Int) t ++ take16 (macT M (sealT (H, M) (N : Int) (F : Int) t)) from rfl)
 have ET := hide (show sealT (H, M) (N : Int) (F : Int) t = (num (N : Int) ++ num (F : Int)) ++ ⟨(ctrL (kB (keyF H)) N (bF (packB (difB t (F : Int)))) (packB (difB t (F : Int))).size).toArray⟩ by rw [hnum]; rfl)
 have HT := hide htab
 clear hnum hpk htab
 obtain ⟨D, hD⟩ : ∃ D, D = difB t (F : Int) := ⟨_, rfl⟩
 rw [← hD] at SP SC ET
 have HD := hide hD
 generalize packB D = PD at *
 generalize (⟨(ctrL (kB (keyF H)) N (bF PD) PD.size).toArray⟩ : ByteArray) = C at *
 generalize sealB (H, M) (N : Int) (F : Int) t = Z at *
 generalize sealT (H, M) (N : Int) (F : Int) t = T at *
 have SX0 : ∀ (B : Nat) (W : World), Below w.heap.size w W → W.heap[B]? = some (.cells #[.string (num (N : Int)), .string (num (F : Int)), .string C] 9 (0, 0)) →
  Calls Tryz.prog 27 #[.agg #[.string H, .string M], .slice (some ⟨B, 0, none⟩) 3 3] W fun e w' => e = .returned (.string Z) ∧ Below W.heap.size W w' := fun B W hl hc => by
  have h := imp_sealed H M (num (N : Int)) (num (F : Int)) C B W (by omega) (by rw [← ET.out]; omega) (HT.out.low hl) hc
  rw [← ET.out, ← E.out] at h
  exact h
 have SX := hide SX0
 clear SX0
 clear ET E HT hsz hp hds hD
 have DN := hide (show ¬ (0 : Int) < (F : Int) → D = t from fun h => HD.out.trans (if_neg h))
 have hf : (0 : Int) < (F : Int) := hf0
 · have SD0 : ∀ W : World, Calls Tryz.prog 26 #[.string t, .int .i64 (F : Int)] W fun e w' => e = .returned (.string D) ∧ Below W.heap.size W w' := fun W => by
    have h := imp_differ t (F : Int) W (by omega)
    have hfo : farOk t (F : Int) := ⟨by omega, by omega, by omega⟩
    rw [show differS t (F : Int) = D from (if_pos hfo).trans (HD.out.trans (if_pos hf)).symm] at h
    exact h
   have SD := hide SD0
   clear SD0
   clear HD DN
   go_enter Tryz.func7, Tryz.ntmps7
   go_wp2_with fail
   refine (SK.out _).mono ?_
   rintro e w1 ⟨rfl, hb1⟩
   have HB := KeyW.one hb1
   have c0 := HB.c0
   have c1 := HB.c1
   clear hb1 SK
   go_wp2_with fail
   refine (SI.out _).mono ?_
   rintro e w2 ⟨rfl, hb2⟩
   have HB := HB.call hb2
   have c0 := HB.c0
   have c1 := HB.c1
   clear hb2 SI
   go_wp2_with fail
   refine (SR.out _).mono ?_
   rintro e w3 ⟨rfl, hb3⟩
   have HB := HB.call hb3
   have c0 := HB.c0
   have c1 := HB.c1
   clear hb3 SR
   go_wp2_with fail
   refine (SD.out _).mono ?_
   rintro e w4 ⟨rfl, hb4⟩
   have HB := HB.call hb4
   have c0 := HB.c0
   have c1 := HB.c1
   clear hb4 SD
   go_wp2_with fail
   go_region_held3 (fun W' => W'.cell? ⟨w.heap.size, 0, none⟩ = some (.string H) ∧ W'.cell? ⟨w.heap.size, 1, none⟩ = some (.string M)) (first | exact ⟨c0, c1⟩ | exact ⟨HB.drew.c0, HB.drew.c1⟩ | exact ⟨a0, a1⟩ | exact ⟨(HB.alloc _).c0, (HB.alloc _).c1⟩ | go_keep) (first | (go_at_call 28; refine (SN.out _ _ (by omega) (by omega)).mono ?_; rintro e w2 ⟨rfl, hb2⟩; have HB := (show KeyW w H M w2 by first | exact HB.call hb2 | exact HB.call' hb2); have c0 := HB.c0; have c1 := HB.c1; clear hb2) | (go_at_call 30; refine (SP.out _).mono ?_; rintro e w2 ⟨rfl, hb2⟩; have HB := (show KeyW w H M w2 by first | exact HB.call hb2 | exact HB.call' hb2); have c0 := HB.c0; have c1 := HB.c1; clear hb2) | (go_at_call 29; refine (SC.out _).mono ?_; rintro e w2 ⟨rfl, hb2⟩; have HB := (show KeyW w H M w2 by first | exact HB.call hb2 | exact HB.call' hb2); have c0 := HB.c0; have c1 := HB.c1; clear hb2; have HA := HB.alloc (.cells #[.string (num (N : Int)), .string (num (F : Int)), .string C] 9); have a0 := HA.c0; have a1 := HA.c1; clear HA) | (go_at_call 27; refine (SX.out _ _ (by first | exact HB.low.alloc HB.low.size _ | exact (HB.low.alloc HB.low.size _).drew | exact HB.low.drew.alloc HB.low.drew.size _) (by first | exact heap_alloc_new _ _ | simp)).mono ?_; rintro e w2 ⟨rfl, hb2⟩; have HB := (show KeyW w H M w2 by first | exact (HB.alloc _).call hb2 | exact (HB.alloc _).call' hb2); have c0 := HB.c0; have c1 := HB.c1; clear hb2))
   all_goals (
    go_wp2_with fail
    go_ret
    exact ⟨rfl, HB.low⟩)
set_option maxRecDepth 100000 in
set_option maxHeartbeats 16000000 in
theorem imp_sealGoodN (H M : ByteArray) (id far : Int) (t : ByteArray) (w : World) (htab : Tab w) (hk : keysOk (H, M) = true) (h0 : 0 ≤ id) (h1 : id ≤ 2000000) (h2 : 0 ≤ far) (h3 : far ≤ 256) (ht : t.size ≤ 4000) (hf0 : ¬ 0 < far) :
 Calls Tryz.prog 7 #[.agg #[.string H, .string M], .int .i64 id, .int .i64 far, .string t] w fun e w' => e = .returned (.string (sealB (H, M) id far t)) ∧ Below w.heap.size w w' := by
 obtain ⟨hH, hM⟩ : H.size = 16 ∧ M.size = 32 := by unfold keysOk at hk; simpa using hk
 have hi : idOk id = true := by unfold idOk; simp; omega
 have hr : farOk10 far = true := by unfold farOk10; simp; omega
 have SK := hide (fun W => by have h := imp_keysRight H M W; rw [hk] at h; exact h)
 have SI := hide (fun W => by have h := imp_idRight id W; rw [hi] at h; exact h)
 have SR := hide (fun W => by have h := imp_farRight far W; rw [hr] at h; exact h)
 clear hi hr hk
 obtain ⟨N, rfl⟩ := Int.eq_ofNat_of_zero_le h0
 obtain ⟨F, rfl⟩ := Int.eq_ofNat_of_zero_le h2
 have d4 : ¬ (4000 : Int) < (t.size : Int) := by omega
 have d5 : decide ((4000 : Int) < (t.size : Int)) = false := decide_eq_false d4
 have hsz := sealT_size (H, M) (N : Int) (F : Int) t h0 h1 h2 h3 ht
 have hp := packB_few (difB t (F : Int)) (by rw [difB_size]; exact ht)
 have hds : (difB t (F : Int)).size ≤ 4000 := by rw [difB_size]; exact ht
 have hpk : packS (difB t (F : Int)) = packB (difB t (F : Int)) := if_pos hds
 obtain ⟨num, hnum⟩ : ∃ f : Int → ByteArray, f = fun n => ⟨(encNum (foldNum n)).toArray⟩ := ⟨_, rfl⟩
 have SN0 : ∀ (n : Int) (W : World), 0 ≤ n → n ≤ 2000000 → Calls Tryz.prog 28 #[.int .i64 n] W fun e w' => e = .returned (.string (num n)) ∧ Below W.heap.size W w' := fun n W a b => by rw [hnum]; exact impl_putNum n W (by omega) (by omega)
 have SN := hide SN0
 clear SN0
 have SP0 : ∀ W : World, Calls Tryz.prog 30 #[.string (difB t (F : Int))] W fun e w' => e = .returned (.string (packB (difB t (F : Int)))) ∧ Below W.heap.size W w' := fun W => by have h := imp_pack (difB t (F : Int)) W (by omega); rw [hpk] at h; exact h
 have SP := hide SP0
 clear SP0
 have SC := hide (fun W => imp_ctrA H (packB (difB t (F : Int))) N W hH (by omega) (by omega))
 have E := hide (show sealB (H, M) (N : Int) (F : Int) t = sealT (H, M) (N : Int) (F : Int) t ++ take16 (macT M (sealT (H, M) (N : Int) (F : Int) t)) from rfl)
 have ET := hide (show sealT (H, M) (N : Int) (F : Int) t = (num (N : Int) ++ num (F : Int)) ++ ⟨(ctrL (kB (keyF H)) N (bF (packB (difB t (F : Int)))) (packB (difB t (F : Int))).size).toArray⟩ by rw [hnum]; rfl)
 have HT := hide htab
 clear hnum hpk htab
 obtain ⟨D, hD⟩ : ∃ D, D = difB t (F : Int) := ⟨_, rfl⟩
 rw [← hD] at SP SC ET
 have HD := hide hD
 generalize packB D = PD at *
 generalize (⟨(ctrL (kB (keyF H)) N (bF PD) PD.size).toArray⟩ : ByteArray) = C at *
 generalize sealB (H, M) (N : Int) (F : Int) t = Z at *
 generalize sealT (H, M) (N : Int) (F : Int) t = T at *
 have SX0 : ∀ (B : Nat) (W : World), Below w.heap.size w W → W.heap[B]? = some (.cells #[.string (num (N : Int)), .string (num (F : Int)), .string C] 9 (0, 0)) →
  Calls Tryz.prog 27 #[.agg #[.string H, .string M], .slice (some ⟨B, 0, none⟩) 3 3] W fun e w' => e = .returned (.string Z) ∧ Below W.heap.size W w' := fun B W hl hc => by
  have h := imp_sealed H M (num (N : Int)) (num (F : Int)) C B W (by omega) (by rw [← ET.out]; omega) (HT.out.low hl) hc
  rw [← ET.out, ← E.out] at h
  exact h
 have SX := hide SX0
 clear SX0
 clear ET E HT hsz hp hds hD
 have DN := hide (show ¬ (0 : Int) < (F : Int) → D = t from fun h => HD.out.trans (if_neg h))
 have hf : ¬ (0 : Int) < (F : Int) := hf0
 · have e := DN.out hf
   subst e
   clear HD DN
   go_enter Tryz.func7, Tryz.ntmps7
   go_wp2_with fail
   refine (SK.out _).mono ?_
   rintro e w1 ⟨rfl, hb1⟩
   have HB := KeyW.one hb1
   have c0 := HB.c0
   have c1 := HB.c1
   clear hb1 SK
   go_wp2_with fail
   refine (SI.out _).mono ?_
   rintro e w2 ⟨rfl, hb2⟩
   have HB := HB.call hb2
   have c0 := HB.c0
   have c1 := HB.c1
   clear hb2 SI
   go_wp2_with fail
   refine (SR.out _).mono ?_
   rintro e w3 ⟨rfl, hb3⟩
   have HB := HB.call hb3
   have c0 := HB.c0
   have c1 := HB.c1
   clear hb3 SR
   go_wp2_with fail
   go_region_held3 (fun W' => W'.cell? ⟨w.heap.size, 0, none⟩ = some (.string H) ∧ W'.cell? ⟨w.heap.size, 1, none⟩ = some (.string M)) (first | exact ⟨c0, c1⟩ | exact ⟨HB.drew.c0, HB.drew.c1⟩ | exact ⟨a0, a1⟩ | exact ⟨(HB.alloc _).c0, (HB.alloc _).c1⟩ | go_keep) (first | (go_at_call 28; refine (SN.out _ _ (by omega) (by omega)).mono ?_; rintro e w2 ⟨rfl, hb2⟩; have HB := (show KeyW w H M w2 by first | exact HB.call hb2 | exact HB.call' hb2); have c0 := HB.c0; have c1 := HB.c1; clear hb2) | (go_at_call 30; refine (SP.out _).mono ?_; rintro e w2 ⟨rfl, hb2⟩; have HB := (show KeyW w H M w2 by first | exact HB.call hb2 | exact HB.call' hb2); have c0 := HB.c0; have c1 := HB.c1; clear hb2) | (go_at_call 29; refine (SC.out _).mono ?_; rintro e w2 ⟨rfl, hb2⟩; have HB := (show KeyW w H M w2 by first | exact HB.call hb2 | exact HB.call' hb2); have c0 := HB.c0; have c1 := HB.c1; clear hb2; have HA := HB.alloc (.cells #[.string (num (N : Int)), .string (num (F : Int)), .string C] 9); have a0 := HA.c0; have a1 := HA.c1; clear HA) | (go_at_call 27; refine (SX.out _ _ (by first | exact HB.low.alloc HB.low.size _ | exact (HB.low.alloc HB.low.size _).drew | exact HB.low.drew.alloc HB.low.drew.size _) (by first | exact heap_alloc_new _ _ | simp)).mono ?_; rintro e w2 ⟨rfl, hb2⟩; have HB := (show KeyW w H M w2 by first | exact (HB.alloc _).call hb2 | exact (HB.alloc _).call' hb2); have c0 := HB.c0; have c1 := HB.c1; clear hb2))
   all_goals (
    go_wp2_with fail
    go_ret
    exact ⟨rfl, HB.low⟩)
set_option maxRecDepth 100000 in
set_option maxHeartbeats 3200000 in
theorem imp_blockSeal (H M : ByteArray) (id far : Int) (t : ByteArray) (w : World) (htab : Tab w) (ht : t.size ≤ 9223372036854775807) :
 Calls Tryz.prog 7 #[.agg #[.string H, .string M], .int .i64 id, .int .i64 far, .string t] w fun e w' => e = .returned (.string (sealS (H, M) id far t)) ∧ Below w.heap.size w w' := by
 by_cases hk : keysOk (H, M) = true
 · have SK := hide (fun W => by have h := imp_keysRight H M W; rw [hk] at h; exact h)
   by_cases hi : idOk id = true
   · have SI := hide (fun W => by have h := imp_idRight id W; rw [hi] at h; exact h)
     obtain ⟨h0, h1⟩ : 0 ≤ id ∧ id ≤ 2000000 := by unfold idOk at hi; simpa using hi
     by_cases hr : farOk10 far = true
     · have SR := hide (fun W => by have h := imp_farRight far W; rw [hr] at h; exact h)
       obtain ⟨h2, h3⟩ : 0 ≤ far ∧ far ≤ 256 := by unfold farOk10 at hr; simpa using hr
       by_cases h4 : t.size ≤ 4000
       · rw [show sealS (H, M) id far t = sealB (H, M) id far t from if_pos ⟨hk, hi, h2, h3, h4⟩]
         by_cases hf : 0 < far
         · exact imp_sealGoodF H M id far t w htab hk h0 h1 h2 h3 h4 hf
         · exact imp_sealGoodN H M id far t w htab hk h0 h1 h2 h3 h4 hf
       · have d4 : (4000 : Int) < (t.size : Int) := by omega
         have d5 : decide ((4000 : Int) < (t.size : Int)) = true := decide_eq_true d4
         have E := hide (show sealS (H, M) id far t = ⟨#[]⟩ from if_neg (fun h => h4 h.2.2.2.2))
         clear hk hi hr htab
         go_enter Tryz.func7, Tryz.ntmps7
         go_wp2_with fail
         refine (SK.out _).mono ?_
         rintro e w1 ⟨rfl, hb1⟩
         have HB := KeyW.one hb1
         have c0 := HB.c0
         have c1 := HB.c1
         clear hb1 SK
         go_wp2_with fail
         refine (SI.out _).mono ?_
         rintro e w2 ⟨rfl, hb2⟩
         have HB := HB.call hb2
         have c0 := HB.c0
         have c1 := HB.c1
         clear hb2 SI
         go_wp2_with fail
         refine (SR.out _).mono ?_
         rintro e w3 ⟨rfl, hb3⟩
         have HB := HB.call hb3
         have c0 := HB.c0
         have c1 := HB.c1
         clear hb3 SR
         go_wp2_with fail
         go_ret
         exact ⟨by rw [E.out]; first | done | rfl, HB.low⟩
     · have hr' : farOk10 far = false := Bool.eq_false_iff.2 hr
       have SR := hide (fun W => by have h := imp_farRight far W; rw [hr'] at h; exact h)
       have E := hide (show sealS (H, M) id far t = ⟨#[]⟩ from if_neg (fun h => hr (by unfold farOk10; simp; exact ⟨h.2.2.1, h.2.2.2.1⟩)))
       clear hk hi hr hr' htab
       go_enter Tryz.func7, Tryz.ntmps7
       go_wp2_with fail
       refine (SK.out _).mono ?_
       rintro e w1 ⟨rfl, hb1⟩
       have HB := KeyW.one hb1
       have c0 := HB.c0
       have c1 := HB.c1
       clear hb1 SK
       go_wp2_with fail
       refine (SI.out _).mono ?_
       rintro e w2 ⟨rfl, hb2⟩
       have HB := HB.call hb2
       have c0 := HB.c0
       have c1 := HB.c1
       clear hb2 SI
       go_wp2_with fail
       refine (SR.out _).mono ?_
       rintro e w3 ⟨rfl, hb3⟩
       have HB := HB.call hb3
       have c0 := HB.c0
       have c1 := HB.c1
       clear hb3 SR
       go_wp2_with fail
       go_ret
       exact ⟨by rw [E.out]; first | done | rfl, HB.low⟩
   · have hi' : idOk id = false := Bool.eq_false_iff.2 hi
     have SI := hide (fun W => by have h := imp_idRight id W; rw [hi'] at h; exact h)
     have E := hide (show sealS (H, M) id far t = ⟨#[]⟩ from if_neg (fun h => hi h.2.1))
     clear hk hi hi' htab
     go_enter Tryz.func7, Tryz.ntmps7
     go_wp2_with fail
     refine (SK.out _).mono ?_
     rintro e w1 ⟨rfl, hb1⟩
     have HB := KeyW.one hb1
     have c0 := HB.c0
     have c1 := HB.c1
     clear hb1 SK
     go_wp2_with fail
     refine (SI.out _).mono ?_
     rintro e w2 ⟨rfl, hb2⟩
     have HB := HB.call hb2
     have c0 := HB.c0
     have c1 := HB.c1
     clear hb2 SI
     go_wp2_with fail
     go_ret
     exact ⟨by rw [E.out]; first | done | rfl, HB.low⟩
 · have hk' : keysOk (H, M) = false := Bool.eq_false_iff.2 hk
   have SK := hide (fun W => by have h := imp_keysRight H M W; rw [hk'] at h; exact h)
   have E := hide (show sealS (H, M) id far t = ⟨#[]⟩ from if_neg (fun h => hk h.1))
   clear hk hk' htab
   go_enter Tryz.func7, Tryz.ntmps7
   go_wp2_with fail
   refine (SK.out _).mono ?_
   rintro e w1 ⟨rfl, hb1⟩
   have HB := KeyW.one hb1
   have c0 := HB.c0
   have c1 := HB.c1
   clear hb1 SK
   go_wp2_with fail
   go_ret
   exact ⟨by rw [E.out]; first | done | rfl, HB.low⟩
end Go.Proofs.YtconcnndghmdfaaGreatDoor
namespace Go.Proofs.YtconcnndghmdfaaGreatDoor
open Go.RowKit Go
structure OpW (w : World) (H M : ByteArray) (w2 : World) : Prop where
 b : Below (w.heap.size + 2) ((w.alloc (.cells #[.string H, .string M] 24)).alloc (.cells #[.string ⟨#[]⟩, .int .i64 0, .int .i64 0] 31)) w2
namespace OpW
variable {w w1 w2 : World} {H M : ByteArray}
theorem one (h : Below ((w.alloc (.cells #[.string H, .string M] 24)).alloc (.cells #[.string ⟨#[]⟩, .int .i64 0, .int .i64 0] 31)).heap.size ((w.alloc (.cells #[.string H, .string M] 24)).alloc (.cells #[.string ⟨#[]⟩, .int .i64 0, .int .i64 0] 31)) w2) : OpW w H M w2 := ⟨by simpa using h⟩
theorem start : OpW w H M ((w.alloc (.cells #[.string H, .string M] 24)).alloc (.cells #[.string ⟨#[]⟩, .int .i64 0, .int .i64 0] 31)) := ⟨Below.refl _ _⟩
theorem size (h : OpW w H M w2) : w.heap.size + 2 ≤ w2.heap.size := by have := h.b.size; simpa using this
theorem call (h : OpW w H M w1) (hb : Below w1.heap.size w1 w2) : OpW w H M w2 := ⟨h.b.trans (hb.mono h.size)⟩
theorem call' (h : OpW w H M w1) (hb : Below w1.drew.heap.size w1.drew w2) : OpW w H M w2 := ⟨h.b.drew.trans (hb.mono h.size)⟩
theorem alloc (h : OpW w H M w1) (o : Obj) : OpW w H M (w1.alloc o) := ⟨h.b.alloc h.size o⟩
theorem drew (h : OpW w H M w1) : OpW w H M w1.drew := ⟨h.b.drew⟩
theorem keys (h : OpW w H M w2) : w2.heap[w.heap.size]? = some (.cells #[.string H, .string M] 24 (0, 0)) := by
 refine (h.b.block w.heap.size (by omega)).trans ?_
 exact (((Below.refl (w.alloc (.cells #[.string H, .string M] 24)).heap.size _).alloc (Nat.le_refl _) _).block w.heap.size (by simp)).trans (heap_alloc_new w _)
theorem row (h : OpW w H M w2) : w2.heap[w.heap.size + 1]? = some (.cells #[.string ⟨#[]⟩, .int .i64 0, .int .i64 0] 31 (0, 0)) := by
 refine (h.b.block (w.heap.size + 1) (by omega)).trans ?_
 have := heap_alloc_new (w.alloc (.cells #[.string H, .string M] 24)) (.cells #[.string ⟨#[]⟩, .int .i64 0, .int .i64 0] 31)
 simpa using this
theorem c0 (h : OpW w H M w2) : w2.cell? ⟨w.heap.size, 0, none⟩ = some (.string H) := by simp [World.cell?, h.keys]
theorem c1 (h : OpW w H M w2) : w2.cell? ⟨w.heap.size, 1, none⟩ = some (.string M) := by simp [World.cell?, h.keys]
theorem r0 (h : OpW w H M w2) : w2.cell? ⟨w.heap.size + 1, 0, none⟩ = some (.string ⟨#[]⟩) := by simp [World.cell?, h.row]
theorem r1 (h : OpW w H M w2) : w2.cell? ⟨w.heap.size + 1, 1, none⟩ = some (.int .i64 0) := by simp [World.cell?, h.row]
theorem r2 (h : OpW w H M w2) : w2.cell? ⟨w.heap.size + 1, 2, none⟩ = some (.int .i64 0) := by simp [World.cell?, h.row]
theorem fz (h : OpW w H M w2) (o : Nat) : w2.frozen? ⟨w.heap.size + 1, o, none⟩ = false := by simp [World.frozen?, h.row]
theorem low (h : OpW w H M w2) : Below w.heap.size w w2 := (((Below.refl _ _).alloc (Nat.le_refl _) _).alloc (by simp) _).trans (h.b.mono (by omega))
theorem code (h : OpW w H M w2) (c : Int) : (w2.setCell ⟨w.heap.size + 1, 2, none⟩ (.int .i64 c)).heap[w.heap.size + 1]? = some (.cells #[.string ⟨#[]⟩, .int .i64 0, .int .i64 c] 31 (0, 0)) := by simp [World.setCell, Array.getElem?_modify, h.row]
theorem text (h : OpW w H M w2) (t : ByteArray) : (w2.setCell ⟨w.heap.size + 1, 0, none⟩ (.string t)).heap[w.heap.size + 1]? = some (.cells #[.string t, .int .i64 0, .int .i64 0] 31 (0, 0)) := by simp [World.setCell, Array.getElem?_modify, h.row]
theorem all (h : OpW w H M w2) (t : ByteArray) (a c : Int) : (((w2.setCell ⟨w.heap.size + 1, 0, none⟩ (.string t)).setCell ⟨w.heap.size + 1, 1, none⟩ (.int .i64 a)).setCell ⟨w.heap.size + 1, 2, none⟩ (.int .i64 c)).heap[w.heap.size + 1]? = some (.cells #[.string t, .int .i64 a, .int .i64 c] 31 (0, 0)) := by simp [World.setCell, Array.getElem?_modify, h.row]
theorem set (h : OpW w H M w2) (o : Nat) (v : Value) : Below w.heap.size w (w2.setCell ⟨w.heap.size + 1, o, none⟩ v) := h.low.setCell (Nat.le_succ _) _
theorem set3 (h : OpW w H M w2) (a b c : Value) : Below w.heap.size w (((w2.setCell ⟨w.heap.size + 1, 0, none⟩ a).setCell ⟨w.heap.size + 1, 1, none⟩ b).setCell ⟨w.heap.size + 1, 2, none⟩ c) := ((h.low.setCell (Nat.le_succ _) _).setCell (Nat.le_succ _) _).setCell (Nat.le_succ _) _
end OpW
structure OpY (w : World) (H M : ByteArray) (y : Nat) (n a c : Int) (w2 : World) : Prop where
 o : OpW w H M w2
 r : w2.heap[y]? = some (.cells #[.int .i64 n, .int .i64 a, .int .i64 c] 91 (0, 0))
namespace OpY
variable {w w1 w2 : World} {H M : ByteArray} {y : Nat} {n a c : Int}
theorem one (h : OpW w H M w1) : OpY w H M w1.heap.size n a c (w1.alloc (.cells #[.int .i64 n, .int .i64 a, .int .i64 c] 91)) := ⟨h.alloc _, heap_alloc_new w1 _⟩
theorem lt (h : OpY w H M y n a c w2) : y < w2.heap.size := (Array.getElem?_eq_some_iff.1 h.r).1
theorem call (h : OpY w H M y n a c w1) (hb : Below w1.heap.size w1 w2) : OpY w H M y n a c w2 := ⟨h.o.call hb, (hb.block y h.lt).trans h.r⟩
theorem call' (h : OpY w H M y n a c w1) (hb : Below w1.drew.heap.size w1.drew w2) : OpY w H M y n a c w2 := ⟨h.o.call' hb, (hb.block y h.lt).trans h.r⟩
theorem drew (h : OpY w H M y n a c w1) : OpY w H M y n a c w1.drew := ⟨h.o.drew, h.r⟩
theorem alloc (h : OpY w H M y n a c w1) (o : Obj) : OpY w H M y n a c (w1.alloc o) := ⟨h.o.alloc o, (((Below.refl w1.heap.size w1).alloc (Nat.le_refl _) o).block y h.lt).trans h.r⟩
theorem y0 (h : OpY w H M y n a c w2) : w2.cell? ⟨y, 0, none⟩ = some (.int .i64 n) := by simp [World.cell?, h.r]
theorem y1 (h : OpY w H M y n a c w2) : w2.cell? ⟨y, 1, none⟩ = some (.int .i64 a) := by simp [World.cell?, h.r]
theorem y2 (h : OpY w H M y n a c w2) : w2.cell? ⟨y, 2, none⟩ = some (.int .i64 c) := by simp [World.cell?, h.r]
end OpY
structure OpZ (w : World) (H M : ByteArray) (y : Nat) (n a c : Int) (z : Nat) (w2 : World) : Prop where
 oy : OpY w H M y n a c w2
 g : w.heap.size + 2 ≤ z
 ne : y ≠ z
 r : w2.heap[z]? = some (.cells #[.string ⟨#[]⟩, .int .i64 0, .int .i64 0] 31 (0, 0))
namespace OpZ
variable {w w1 w2 : World} {H M : ByteArray} {y z : Nat} {n a c : Int}
theorem one (h : OpY w H M y n a c w1) : OpZ w H M y n a c w1.heap.size (w1.alloc (.cells #[.string ⟨#[]⟩, .int .i64 0, .int .i64 0] 31)) := ⟨h.alloc _, h.o.size, Nat.ne_of_lt h.lt, heap_alloc_new w1 _⟩
theorem here (h : OpY w H M y n a c w1) (hz : w1.heap.size = z) : OpZ w H M y n a c z (w1.alloc (.cells #[.string ⟨#[]⟩, .int .i64 0, .int .i64 0] 31)) := by subst hz; exact one h
theorem lt (h : OpZ w H M y n a c z w2) : z < w2.heap.size := (Array.getElem?_eq_some_iff.1 h.r).1
theorem call (h : OpZ w H M y n a c z w1) (hb : Below w1.heap.size w1 w2) : OpZ w H M y n a c z w2 := ⟨h.oy.call hb, h.g, h.ne, (hb.block z h.lt).trans h.r⟩
theorem z0 (h : OpZ w H M y n a c z w2) : w2.cell? ⟨z, 0, none⟩ = some (.string ⟨#[]⟩) := by simp [World.cell?, h.r]
theorem z1 (h : OpZ w H M y n a c z w2) : w2.cell? ⟨z, 1, none⟩ = some (.int .i64 0) := by simp [World.cell?, h.r]
theorem z2 (h : OpZ w H M y n a c z w2) : w2.cell? ⟨z, 2, none⟩ = some (.int .i64 0) := by simp [World.cell?, h.r]
theorem fz (h : OpZ w H M y n a c z w2) (o : Nat) : w2.frozen? ⟨z, o, none⟩ = false := by simp [World.frozen?, h.r]
theorem set (h : OpZ w H M y n a c z w2) (u v x : Value) : OpY w H M y n a c (((w2.setCell ⟨z, 0, none⟩ u).setCell ⟨z, 1, none⟩ v).setCell ⟨z, 2, none⟩ x) :=
 ⟨⟨((h.oy.o.b.setCell (p := ⟨z, 0, none⟩) h.g u).setCell (p := ⟨z, 1, none⟩) h.g v).setCell (p := ⟨z, 2, none⟩) h.g x⟩, by
   have hn : z ≠ y := fun e => h.ne e.symm
   simp [World.setCell, Array.getElem?_modify, hn, h.oy.r]⟩
theorem fin (h : OpZ w H M y n a c z w2) (u v x : Value) : (((w2.setCell ⟨z, 0, none⟩ u).setCell ⟨z, 1, none⟩ v).setCell ⟨z, 2, none⟩ x).heap[z]? = some (.cells #[u, v, x] 31 (0, 0)) := by simp [World.setCell, Array.getElem?_modify, h.r]
end OpZ
theorem num1_agg (t : ByteArray) : ∃ n c : Int, numAns 0 (num1 t) = .agg #[.int .i64 n, .int .i64 ((num1 t).2.2 : Int), .int .i64 c] ∧ (c = 0 ↔ (num1 t).1 = 0) ∧ (c = 0 → n = unfold (num1 t).2.1) := by
 rcases decAt_form t 0 with ⟨U, m, h, hm⟩ | h | h <;> unfold num1 <;> rw [h]
 · refine ⟨unfold U, 0, ?_, by simp, fun _ => rfl⟩
   rw [numAns_good]; unfold numOut; simp
 · exact ⟨0, 3, by rw [numAns_bad 0 3 (by omega)]; rfl, by simp, by simp⟩
 · exact ⟨0, 4, by rw [numAns_bad 0 4 (by omega)]; rfl, by simp, by simp⟩
theorem num2_agg (t : ByteArray) : ∃ n a c : Int, numAns (num1 t).2.2 (num2 t) = .agg #[.int .i64 n, .int .i64 a, .int .i64 c] ∧ (c = 0 ↔ (num2 t).1 = 0) ∧ (c = 0 → n = unfold (num2 t).2.1 ∧ a = (fromX t : Int)) := by
 unfold fromX num2
 rcases decAt_form t (num1 t).2.2 with ⟨U, m, h, hm⟩ | h | h <;> rw [h]
 · refine ⟨unfold U, ((num1 t).2.2 : Int) + m, 0, ?_, by simp, fun _ => ⟨rfl, by show _ = (((num1 t).2.2 + m : Nat) : Int); omega⟩⟩
   rw [numAns_good]; rfl
 · exact ⟨0, 0, 3, by rw [numAns_bad _ 3 (by omega)]; rfl, by simp, by simp⟩
 · exact ⟨0, 0, 4, by rw [numAns_bad _ 4 (by omega)]; rfl, by simp, by simp⟩
end Go.Proofs.YtconcnndghmdfaaGreatDoor

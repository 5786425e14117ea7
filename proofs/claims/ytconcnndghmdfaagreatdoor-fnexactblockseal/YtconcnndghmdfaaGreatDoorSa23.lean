/- Put together: SealF, KeyW, SealS, SealKr, SealKi, SealB, ImpRot. -/
import Derived.Test.YtconcnndghmdfaaGreatDoorSa5
import Derived.Test.YtconcnndghmdfaaGreatDoorSa10
import Derived.Test.YtconcnndghmdfaaGreatDoorSa21
import Derived.Test.YtconcnndghmdfaaGreatDoorSa22
import Derived.Test.YtconcnndghmdfaaGreatDoorSa16
import Derived.Deep.RegionHeld3
import Derived.BigRegion
import Derived.Test.YtconcnndghmdfaaGreatDoorSa1
namespace Go.Proofs.YtconcnndghmdfaaGreatDoor
open Go.RowKit
/-- A number, and a text in cipher. -/
def numB (n : Int) : ByteArray := ⟨(encNum (foldNum n)).toArray⟩
def hidB (key : ByteArray) (n : Nat) (t : ByteArray) : ByteArray := ⟨(ctrL (kB (keyF key)) n (bF t) t.size).toArray⟩
theorem hidB_size (key : ByteArray) (n : Nat) (t : ByteArray) : (hidB key n t).size = t.size := by
  unfold hidB; rw [size_mk]; simp [ctrL]
/-- What is packed: the text, or its Differ. -/
def difB (t : ByteArray) (far : Int) : ByteArray := if 0 < far then ⟨((List.range t.size).map (difF (bF t) far.toNat)).toArray⟩ else t
theorem difB_size (t : ByteArray) (far : Int) : (difB t far).size = t.size := by
  unfold difB
  split
  · rw [size_mk]; simp
  · rfl
/-- A pack of at most 4000 bytes has at most 17006. -/
theorem packB_few (t : ByteArray) (h : t.size ≤ 4000) : (packB t).size ≤ 17006 := by
  have h1 := codeToks_len (bF t) t.size h
  have h4 := encNum_le 1 (foldNum t.size) (by unfold foldNum; rw [if_neg (by omega)]; show (2 * (t.size : Int)).toNat < 16384; omega)
  have e1 : (⟨(encNum (foldNum (t.size : Int))).toArray⟩ : ByteArray).size = (encNum (foldNum (t.size : Int))).length := size_mk _
  have e2 : (⟨(codeOf (toksBits (parseL (bF t) t.size))).toArray⟩ : ByteArray).size = (codeOf (toksBits (parseL (bF t) t.size))).length := size_mk _
  have e3 : (packB t).size = _ + _ := ByteArray.size_append
  rw [e3, e1, e2]
  omega
/-- What stands ahead of a sealed block's last 16 bytes, and the block. -/
def sealT (k : ByteArray × ByteArray) (id far : Int) (t : ByteArray) : ByteArray := numB id ++ numB far ++ hidB k.1 id.toNat (packB (difB t far))
def sealB (k : ByteArray × ByteArray) (id far : Int) (t : ByteArray) : ByteArray := sealT k id far t ++ take16 (macT k.2 (sealT k id far t))
def sealOk (k : ByteArray × ByteArray) (id far : Int) (t : ByteArray) : Prop := keysOk k = true ∧ idOk id = true ∧ 0 ≤ far ∧ far ≤ 256 ∧ t.size ≤ 4000
instance (k : ByteArray × ByteArray) (id far : Int) (t : ByteArray) : Decidable (sealOk k id far t) := by unfold sealOk; infer_instance
def sealS (k : ByteArray × ByteArray) (id far : Int) (t : ByteArray) : ByteArray := if sealOk k id far t then sealB k id far t else ⟨#[]⟩
theorem numB_size (n : Int) (h0 : 0 ≤ n) (h1 : n ≤ 2000000) : (numB n).size ≤ 4 := by
  have := encNum_le 3 (foldNum n) (by unfold foldNum; rw [if_neg (by omega)]; show (2 * n).toNat < 128 ^ 4; omega)
  unfold numB
  rw [size_mk]
  exact this
theorem sealT_size (k : ByteArray × ByteArray) (id far : Int) (t : ByteArray) (h0 : 0 ≤ id) (h1 : id ≤ 2000000) (h2 : 0 ≤ far) (h3 : far ≤ 256) (ht : t.size ≤ 4000) : (sealT k id far t).size ≤ 17014 := by
  have a := numB_size id h0 h1
  have b := numB_size far h2 (by omega)
  have c := packB_few (difB t far) (by rw [difB_size]; exact ht)
  unfold sealT
  rw [ByteArray.size_append, ByteArray.size_append, hidB_size]
  omega
end Go.Proofs.YtconcnndghmdfaaGreatDoor
namespace Go.Proofs.YtconcnndghmdfaaGreatDoor
open Go.RowKit
/-- Where the keys' block stands, and all that was there before. -/
structure KeyW (w : World) (H M : ByteArray) (w2 : World) : Prop where
  b : Below (w.heap.size + 1) (w.alloc (.cells #[.string H, .string M] 24)) w2
theorem KeyW.size {w w2 : World} {H M : ByteArray} (h : KeyW w H M w2) : w.heap.size + 1 ≤ w2.heap.size := by have := h.b.size; simpa using this
theorem KeyW.call {w w1 w2 : World} {H M : ByteArray} (h : KeyW w H M w1) (hb : Below w1.heap.size w1 w2) : KeyW w H M w2 := ⟨h.b.trans (hb.mono h.size)⟩
theorem KeyW.call' {w w1 w2 : World} {H M : ByteArray} (h : KeyW w H M w1) (hb : Below w1.drew.heap.size w1.drew w2) : KeyW w H M w2 := ⟨h.b.drew.trans (hb.mono h.size)⟩
theorem KeyW.c0 {w w2 : World} {H M : ByteArray} (h : KeyW w H M w2) : w2.cell? ⟨w.heap.size, 0, none⟩ = some (.string H) := (keys_cells h.b (Nat.lt_succ_self _) (heap_alloc_new w _)).1
theorem KeyW.c1 {w w2 : World} {H M : ByteArray} (h : KeyW w H M w2) : w2.cell? ⟨w.heap.size, 1, none⟩ = some (.string M) := (keys_cells h.b (Nat.lt_succ_self _) (heap_alloc_new w _)).2.1
theorem KeyW.alloc {w w1 : World} {H M : ByteArray} (h : KeyW w H M w1) (o : Obj) : KeyW w H M (w1.alloc o) := ⟨h.b.alloc h.size o⟩
theorem KeyW.drew {w w1 : World} {H M : ByteArray} (h : KeyW w H M w1) : KeyW w H M w1.drew := ⟨h.b.drew⟩
theorem KeyW.low {w w2 : World} {H M : ByteArray} (h : KeyW w H M w2) : Below w.heap.size w w2 := ((Below.refl _ _).alloc (Nat.le_refl _) _).trans (h.b.mono (Nat.le_succ _))
theorem KeyW.one {w w1 : World} {H M : ByteArray} (h : Below (w.alloc (.cells #[.string H, .string M] 24)).heap.size (w.alloc (.cells #[.string H, .string M] 24)) w1) : KeyW w H M w1 := ⟨by simpa using h⟩
end Go.Proofs.YtconcnndghmdfaaGreatDoor
namespace Go.Proofs.YtconcnndghmdfaaGreatDoor
open Go.RowKit
set_option maxRecDepth 100000 in
set_option maxHeartbeats 8000000 in
theorem spec_seal0 (H M : ByteArray) (id far : Int) (t : ByteArray) (w : World) (hk : keysOk (H, M) = true) (h0 : 0 ≤ id) (h1 : id ≤ 2000000) (h2 : 0 ≤ far) (h3 : far ≤ 256) (ht : t.size ≤ 4000) :
    Calls Tryz.prog 33 #[.agg #[.string H, .string M], .int .i64 id, .int .i64 far, .string t] w fun e w' => e = .returned (.string (sealB (H, M) id far t)) ∧ Below w.heap.size w w' := by
  obtain ⟨hH, hM⟩ : H.size = 16 ∧ M.size = 32 := by unfold keysOk at hk; simpa using hk
  obtain ⟨N, rfl⟩ := Int.eq_ofNat_of_zero_le h0
  obtain ⟨F, rfl⟩ := Int.eq_ofNat_of_zero_le h2
  have hsz := sealT_size (H, M) (N : Int) (F : Int) t h0 h1 h2 h3 ht
  have hp := packB_few (difB t (F : Int)) (by rw [difB_size]; exact ht)
  have hds : (difB t (F : Int)).size ≤ 4000 := by rw [difB_size]; exact ht
  obtain ⟨num, hnum⟩ : ∃ f : Int → ByteArray, f = fun n => ⟨(encNum (foldNum n)).toArray⟩ := ⟨_, rfl⟩
  have S1 : ∀ (n : Int) (W : World), 0 ≤ n → n ≤ 2000000 → Calls Tryz.prog 39 #[.int .i64 n] W fun e w' => e = .returned (.string (num n)) ∧ Below W.heap.size W w' := fun n W a b => by rw [hnum]; exact spec_putNum n W (by omega) (by omega)
  have S1 := hide S1
  have S3 := hide (fun W => spec_pack0 (difB t (F : Int)) W hds)
  have S4 := hide (fun W => spec_ctrA H (packB (difB t (F : Int))) N W hH (by omega) (by omega))
  have S5 := hide (fun W => spec_mac M (sealT (H, M) (N : Int) (F : Int) t) W (by omega) (by omega))
  have hn1 : (num (N : Int)).size ≤ 4 := by rw [hnum]; exact numB_size _ h0 h1
  have hn2 : (num (F : Int)).size ≤ 4 := by rw [hnum]; exact numB_size _ h2 (by omega)
  have hC : (⟨(ctrL (kB (keyF H)) N (bF (packB (difB t (F : Int)))) (packB (difB t (F : Int))).size).toArray⟩ : ByteArray).size ≤ 17006 := Nat.le_trans (Nat.le_of_eq (hidB_size H N (packB (difB t (F : Int))))) hp
  have HX := macT_size M (sealT (H, M) (N : Int) (F : Int) t)
  have E := hide (show sealB (H, M) (N : Int) (F : Int) t = sealT (H, M) (N : Int) (F : Int) t ++ (macT M (sealT (H, M) (N : Int) (F : Int) t)).extract 0 16 from rfl)
  have ET := hide (show sealT (H, M) (N : Int) (F : Int) t = (num (N : Int) ++ num (F : Int)) ++ ⟨(ctrL (kB (keyF H)) N (bF (packB (difB t (F : Int)))) (packB (difB t (F : Int))).size).toArray⟩ by rw [hnum]; rfl)
  clear hnum
  have hsl : ∀ W : World, (Instr.slice 9 (.string (macT M (sealT (H, M) (N : Int) (F : Int) t))) none (some (.int .i64 16)) none).run Tryz.prog W = .ok (.string ((macT M (sealT (H, M) (N : Int) (F : Int) t)).extract 0 16)) W := fun W => run_front (P := Tryz.prog) W 9 (macT M (sealT (H, M) (N : Int) (F : Int) t)) 16 Tryz.underlying9 (by rw [HX]; decide)
  have hX' : (16 : Int) ≤ ((macT M (sealT (H, M) (N : Int) (F : Int) t)).size : Int) := by rw [HX]; decide
  obtain ⟨D, hD⟩ : ∃ D, D = difB t (F : Int) := ⟨_, rfl⟩
  rw [← hD] at S3 S4 ET hC
  have HD := hide hD
  generalize packB D = PD at *
  generalize (⟨(ctrL (kB (keyF H)) N (bF PD) PD.size).toArray⟩ : ByteArray) = C at *
  generalize sealB (H, M) (N : Int) (F : Int) t = Z at *
  generalize sealT (H, M) (N : Int) (F : Int) t = T at *
  obtain ⟨X, hXe⟩ : ∃ X, X = macT M T := ⟨_, rfl⟩
  rw [← hXe] at S5 E hsl hX'
  have hX16 : (X.extract 0 16).size ≤ 16 := by rw [ByteArray.size_extract]; omega
  clear hXe HX hD
  have ET := ET.out
  subst ET
  have hq1 : ¬ 9223372036854775807 < (num (N : Int)).size + (num (F : Int)).size := by omega
  have hq2 : ¬ 9223372036854775807 < (num (N : Int)).size + (num (F : Int)).size + C.size := by omega
  have DB := hide (show (0 : Int) < (F : Int) → D = ⟨((List.range t.size).map (difF (bF t) F)).toArray⟩ from fun h => HD.out.trans (if_pos h))
  have DN := hide (show ¬ (0 : Int) < (F : Int) → D = t from fun h => HD.out.trans (if_neg h))
  clear HD hsz hp hds
  have q0 := Below.refl w.heap.size w
  by_cases hf : (0 : Int) < (F : Int)
  · have SD := hide (fun W => spec_differA t F W (by omega) (by omega) (by omega))
    rw [← DB.out hf] at SD
    go_enter Tryz.func33, Tryz.ntmps33
    go_wp2_with fail
    refine (SD.out _).mono ?_
    rintro e w1 ⟨rfl, hb1⟩
    simp at hb1
    have HB : KeyW w H M w1 := ⟨hb1⟩
    have c0 := HB.c0
    have c1 := HB.c1
    clear SD hb1
    go_wp2_with fail
    go_region_held3 (fun W' => W'.cell? ⟨w.heap.size, 0, none⟩ = some (.string H) ∧ W'.cell? ⟨w.heap.size, 1, none⟩ = some (.string M)) (first | exact ⟨c0, c1⟩ | exact ⟨HB.drew.c0, HB.drew.c1⟩ | exact ⟨(HB.alloc _).c0, (HB.alloc _).c1⟩ | go_keep) (first | (go_at_call 39; refine (S1.out _ _ (by omega) (by omega)).mono ?_; rintro e w2 ⟨rfl, hb2⟩; have HB := (show KeyW w H M w2 by first | exact HB.call hb2 | exact HB.call' hb2); have c0 := HB.c0; have c1 := HB.c1; clear hb2) | (go_at_call 59; refine (S3.out _).mono ?_; rintro e w2 ⟨rfl, hb2⟩; have HB := (show KeyW w H M w2 by first | exact HB.call hb2 | exact HB.call' hb2); have c0 := HB.c0; have c1 := HB.c1; clear hb2) | (go_at_call 58; refine (S4.out _).mono ?_; rintro e w2 ⟨rfl, hb2⟩; have HB := (show KeyW w H M w2 by first | exact HB.call hb2 | exact HB.call' hb2); have c0 := HB.c0; have c1 := HB.c1; clear hb2))
    all_goals (
      go_wp2_with fail
      refine (S5.out _).mono ?_; rintro e w2 ⟨rfl, hb2⟩; have HB := (show KeyW w H M w2 by first | exact HB.call hb2 | exact HB.call' hb2); have c0 := HB.c0; have c1 := HB.c1; clear hb2
      go_wp2_with fail
      go_ret
      exact ⟨by rw [E.out]; first | done | rfl, ((Below.refl _ _).alloc (Nat.le_refl _) _).trans (HB.b.mono (Nat.le_succ _))⟩)
  · have e := DN.out hf
    subst e
    go_enter Tryz.func33, Tryz.ntmps33
    go_wp2_with fail
    have HB : KeyW w H M (w.alloc (.cells #[.string H, .string M] 24)) := ⟨Below.refl _ _⟩
    have c0 := HB.c0
    have c1 := HB.c1
    go_region_held3 (fun W' => W'.cell? ⟨w.heap.size, 0, none⟩ = some (.string H) ∧ W'.cell? ⟨w.heap.size, 1, none⟩ = some (.string M)) (first | exact ⟨c0, c1⟩ | exact ⟨HB.drew.c0, HB.drew.c1⟩ | exact ⟨(HB.alloc _).c0, (HB.alloc _).c1⟩ | go_keep) (first | (go_at_call 39; refine (S1.out _ _ (by omega) (by omega)).mono ?_; rintro e w2 ⟨rfl, hb2⟩; have HB := (show KeyW w H M w2 by first | exact HB.call hb2 | exact HB.call' hb2); have c0 := HB.c0; have c1 := HB.c1; clear hb2) | (go_at_call 59; refine (S3.out _).mono ?_; rintro e w2 ⟨rfl, hb2⟩; have HB := (show KeyW w H M w2 by first | exact HB.call hb2 | exact HB.call' hb2); have c0 := HB.c0; have c1 := HB.c1; clear hb2) | (go_at_call 58; refine (S4.out _).mono ?_; rintro e w2 ⟨rfl, hb2⟩; have HB := (show KeyW w H M w2 by first | exact HB.call hb2 | exact HB.call' hb2); have c0 := HB.c0; have c1 := HB.c1; clear hb2))
    all_goals (
      go_wp2_with fail
      refine (S5.out _).mono ?_; rintro e w2 ⟨rfl, hb2⟩; have HB := (show KeyW w H M w2 by first | exact HB.call hb2 | exact HB.call' hb2); have c0 := HB.c0; have c1 := HB.c1; clear hb2
      go_wp2_with fail
      go_ret
      exact ⟨by rw [E.out]; first | done | rfl, ((Below.refl _ _).alloc (Nat.le_refl _) _).trans (HB.b.mono (Nat.le_succ _))⟩)
end Go.Proofs.YtconcnndghmdfaaGreatDoor
namespace Go.Proofs.YtconcnndghmdfaaGreatDoor
open Go.RowKit
set_option maxRecDepth 100000 in
theorem spec_keysRight (H M : ByteArray) (w : World) :
    Calls Tryz.prog 31 #[.agg #[.string H, .string M]] w fun e w' => e = .returned (.bool (keysOk (H, M))) ∧ Below w.heap.size w w' := by
  have q0 := hide ((Below.refl w.heap.size w).alloc (Nat.le_refl _) (.cells #[.string H, .string M] 24))
  have R := hide (show keysOk (H, M) = (decide (H.size = 16) && decide (M.size = 32)) from rfl)
  by_cases h1 : H.size = 16
  · have h1' : (H.size : Int) = 16 := by omega
    by_cases h2 : M.size = 32
    · have h2' : (M.size : Int) = 32 := by omega
      have R2 := hide (show keysOk (H, M) = true by rw [R.out, decide_eq_true h1, decide_eq_true h2, Bool.and_self])
      go_enter Tryz.func31, Tryz.ntmps31
      go_wp2_with fail
      go_ret
      exact ⟨by rw [R2.out]; rfl, q0.out⟩
    · have h2' : ((M.size : Int) == 32) = false := beq_eq_false_iff_ne.2 (by omega)
      have R2 := hide (show keysOk (H, M) = false by rw [R.out, decide_eq_true h1, decide_eq_false h2, Bool.true_and])
      go_enter Tryz.func31, Tryz.ntmps31
      go_wp2_with fail
      go_ret
      exact ⟨by rw [R2.out]; rfl, q0.out⟩
  · have h1' : ((H.size : Int) == 16) = false := beq_eq_false_iff_ne.2 (by omega)
    have R2 := hide (show keysOk (H, M) = false by rw [R.out, decide_eq_false h1, Bool.false_and])
    go_enter Tryz.func31, Tryz.ntmps31
    go_wp2_with fail
    go_ret
    exact ⟨by rw [R2.out]; rfl, q0.out⟩
end Go.Proofs.YtconcnndghmdfaaGreatDoor
namespace Go.Proofs.YtconcnndghmdfaaGreatDoor
open Go.RowKit
set_option maxRecDepth 100000 in
theorem spec_id10 (id : Int) (w : World) :
    Calls Tryz.prog 32 #[.int .i64 id] w fun e w' => e = .returned (.bool (idOk id)) ∧ Below w.heap.size w w' := by
  have R := hide (show idOk id = (decide (0 ≤ id) && decide (id ≤ 2000000)) from rfl)
  by_cases h1 : 0 ≤ id
  · have h1' : decide (0 ≤ id) = true := decide_eq_true h1
    by_cases h2 : id ≤ 2000000
    · have h2' : decide (id ≤ 2000000) = true := decide_eq_true h2
      have R2 := hide (show idOk id = true by rw [R.out, h1', h2', Bool.and_self])
      go_enter Tryz.func32, Tryz.ntmps32
      go_wp2_with fail
      go_ret
      exact ⟨by rw [R2.out]; rfl, Below.refl _ _⟩
    · have h2' : decide (id ≤ 2000000) = false := decide_eq_false h2
      have R2 := hide (show idOk id = false by rw [R.out, h1', h2', Bool.true_and])
      go_enter Tryz.func32, Tryz.ntmps32
      go_wp2_with fail
      go_ret
      exact ⟨by rw [R2.out]; rfl, Below.refl _ _⟩
  · have h1' : decide (0 ≤ id) = false := decide_eq_false h1
    have R2 := hide (show idOk id = false by rw [R.out, h1', Bool.false_and])
    go_enter Tryz.func32, Tryz.ntmps32
    go_wp2_with fail
    go_ret
    exact ⟨by rw [R2.out]; rfl, Below.refl _ _⟩
end Go.Proofs.YtconcnndghmdfaaGreatDoor
namespace Go.Proofs.YtconcnndghmdfaaGreatDoor
open Go.RowKit
set_option maxRecDepth 100000 in
set_option maxHeartbeats 3200000 in
theorem spec_blockSeal (H M : ByteArray) (id far : Int) (t : ByteArray) (w : World) (ht : t.size ≤ 9223372036854775807) :
    Calls Tryz.prog 8 #[.agg #[.string H, .string M], .int .i64 id, .int .i64 far, .string t] w fun e w' => e = .returned (.string (sealS (H, M) id far t)) ∧ Below w.heap.size w w' := by
  by_cases hk : keysOk (H, M) = true
  · have SK := hide (fun W => by have h := spec_keysRight H M W; rw [hk] at h; exact h)
    by_cases hi : idOk id = true
    · have SI := hide (fun W => by have h := spec_id10 id W; rw [hi] at h; exact h)
      obtain ⟨h0, h1⟩ : 0 ≤ id ∧ id ≤ 2000000 := by unfold idOk at hi; simpa using hi
      by_cases h2 : 0 ≤ far
      · have d2 : decide (far < 0) = false := decide_eq_false (by omega)
        by_cases h3 : far ≤ 256
        · have d3 : decide (256 < far) = false := decide_eq_false (by omega)
          by_cases h4 : t.size ≤ 4000
          · have d4 : ¬ (4000 : Int) < (t.size : Int) := by omega
            have d5 : decide ((4000 : Int) < (t.size : Int)) = false := decide_eq_false d4
            have E := hide (show sealS (H, M) id far t = sealB (H, M) id far t from if_pos ⟨hk, hi, h2, h3, h4⟩)
            have SS := hide (fun W => spec_seal0 H M id far t W hk h0 h1 h2 h3 h4)
            clear hk hi
            generalize sealB (H, M) id far t = Z at *
            go_enter Tryz.func8, Tryz.ntmps8
            go_wp2_with fail
            refine (SK.out _).mono ?_
            rintro e w1 ⟨rfl, hb1⟩
            have HB := KeyW.one hb1
            have c0 := HB.c0
            have c1 := HB.c1
            clear hb1 SK
            go_wp2_with fail
            refine (SI.out _).mono ?_
            rintro e w2 ⟨rfl, hb2⟩
            have HB := HB.call hb2
            have c0 := HB.c0
            have c1 := HB.c1
            clear hb2 SI
            go_wp2_with fail
            refine (SS.out _).mono ?_
            rintro e w3 ⟨rfl, hb3⟩
            have HB := HB.call hb3
            have c0 := HB.c0
            have c1 := HB.c1
            clear hb3 SS
            go_wp2_with fail
            go_ret
            exact ⟨by rw [E.out]; first | done | rfl, HB.low⟩
          · have d4 : (4000 : Int) < (t.size : Int) := by omega
            have d5 : decide ((4000 : Int) < (t.size : Int)) = true := decide_eq_true d4
            have E := hide (show sealS (H, M) id far t = ⟨#[]⟩ from if_neg (fun h => h4 h.2.2.2.2))
            clear hk hi
            go_enter Tryz.func8, Tryz.ntmps8
            go_wp2_with fail
            refine (SK.out _).mono ?_
            rintro e w1 ⟨rfl, hb1⟩
            have HB := KeyW.one hb1
            have c0 := HB.c0
            have c1 := HB.c1
            clear hb1 SK
            go_wp2_with fail
            refine (SI.out _).mono ?_
            rintro e w2 ⟨rfl, hb2⟩
            have HB := HB.call hb2
            have c0 := HB.c0
            have c1 := HB.c1
            clear hb2 SI
            go_wp2_with fail
            go_ret
            exact ⟨by rw [E.out]; first | done | rfl, HB.low⟩
        · have d3 : decide (256 < far) = true := decide_eq_true (by omega)
          have d4 : 256 < far := by omega
          have E := hide (show sealS (H, M) id far t = ⟨#[]⟩ from if_neg (fun h => h3 h.2.2.2.1))
          clear hk hi
          go_enter Tryz.func8, Tryz.ntmps8
          go_wp2_with fail
          refine (SK.out _).mono ?_
          rintro e w1 ⟨rfl, hb1⟩
          have HB := KeyW.one hb1
          have c0 := HB.c0
          have c1 := HB.c1
          clear hb1 SK
          go_wp2_with fail
          refine (SI.out _).mono ?_
          rintro e w2 ⟨rfl, hb2⟩
          have HB := HB.call hb2
          have c0 := HB.c0
          have c1 := HB.c1
          clear hb2 SI
          go_wp2_with fail
          go_ret
          exact ⟨by rw [E.out]; first | done | rfl, HB.low⟩
      · have d2 : decide (far < 0) = true := decide_eq_true (by omega)
        have d4 : far < 0 := by omega
        have E := hide (show sealS (H, M) id far t = ⟨#[]⟩ from if_neg (fun h => h2 h.2.2.1))
        clear hk hi
        go_enter Tryz.func8, Tryz.ntmps8
        go_wp2_with fail
        refine (SK.out _).mono ?_
        rintro e w1 ⟨rfl, hb1⟩
        have HB := KeyW.one hb1
        have c0 := HB.c0
        have c1 := HB.c1
        clear hb1 SK
        go_wp2_with fail
        refine (SI.out _).mono ?_
        rintro e w2 ⟨rfl, hb2⟩
        have HB := HB.call hb2
        have c0 := HB.c0
        have c1 := HB.c1
        clear hb2 SI
        go_wp2_with fail
        go_ret
        exact ⟨by rw [E.out]; first | done | rfl, HB.low⟩
    · have hi' : idOk id = false := Bool.eq_false_iff.2 hi
      have SI := hide (fun W => by have h := spec_id10 id W; rw [hi'] at h; exact h)
      have E := hide (show sealS (H, M) id far t = ⟨#[]⟩ from if_neg (fun h => hi h.2.1))
      clear hk hi hi'
      go_enter Tryz.func8, Tryz.ntmps8
      go_wp2_with fail
      refine (SK.out _).mono ?_
      rintro e w1 ⟨rfl, hb1⟩
      have HB := KeyW.one hb1
      have c0 := HB.c0
      have c1 := HB.c1
      clear hb1 SK
      go_wp2_with fail
      refine (SI.out _).mono ?_
      rintro e w2 ⟨rfl, hb2⟩
      have HB := HB.call hb2
      have c0 := HB.c0
      have c1 := HB.c1
      clear hb2 SI
      go_wp2_with fail
      go_ret
      exact ⟨by rw [E.out]; first | done | rfl, HB.low⟩
  · have hk' : keysOk (H, M) = false := Bool.eq_false_iff.2 hk
    have SK := hide (fun W => by have h := spec_keysRight H M W; rw [hk'] at h; exact h)
    have E := hide (show sealS (H, M) id far t = ⟨#[]⟩ from if_neg (fun h => hk h.1))
    clear hk hk'
    go_enter Tryz.func8, Tryz.ntmps8
    go_wp2_with fail
    refine (SK.out _).mono ?_
    rintro e w1 ⟨rfl, hb1⟩
    have HB := KeyW.one hb1
    have c0 := HB.c0
    have c1 := HB.c1
    clear hb1 SK
    go_wp2_with fail
    go_ret
    exact ⟨by rw [E.out]; first | done | rfl, HB.low⟩
end Go.Proofs.YtconcnndghmdfaaGreatDoor
namespace Go.Proofs.YtconcnndghmdfaaGreatDoor
open Go.RowKit
theorem or_comm32 (a b : Nat) : or32 a b = or32 b a := by unfold or32; exact Nat.or_comm _ _
theorem rot_eq (x k S : Nat) (h : S + k = 32) : bits .or .u32 ((x : Int) * 2 ^ S % 4294967296) ((x : Int) / 2 ^ k) = ((turn32 x k : Nat) : Int) := by
  have e : ((x : Int) * 2 ^ S % 4294967296) = ((shl32 x S : Nat) : Int) := by rw [← r_shl, IntKind.wrap_u32]
  have hk : S = 32 - k := by omega
  rw [r_shr, e, r_or, or_comm32, hk]; rfl
theorem and31 : ∀ k : Fin 32, 1 ≤ k.1 → bits .and .u64 (IntKind.u64.wrap (-(k.1 : Int))) 31 = ((32 - k.1 : Nat) : Int) := by decide
set_option maxRecDepth 100000 in
set_option maxHeartbeats 400000 in
theorem rot (x k : Nat) (w : World) (hk0 : 1 ≤ k) (hk : k ≤ 31) :
    Calls Tryz.prog 165 #[.int .u32 x, .int .i64 (-(k : Int))] w fun e w' => e = .returned (.int .u32 (turn32 x k)) ∧ w = w' := by
  have hand : bits .and .u64 (IntKind.u64.wrap (-(k : Int))) 31 = ((32 - k : Nat) : Int) := and31 ⟨k, by omega⟩ hk0
  go_enter Tryz.func165, Tryz.ntmps165
  go_wp2_with fail
  have ht := rot_eq x k (32 - k) (by omega)
  have hk2 : 32 - (32 - k) = k := by omega
  rw [hk2]
  simp only [ht]
  go_ret
  exact ⟨rfl, rfl⟩
theorem rotK (x : Nat) (K : Int) (w : World) (h0 : 1 ≤ K) (h : K ≤ 31) :
    Calls Tryz.prog 165 #[.int .u32 x, .int .i64 (-K)] w fun e w' => e = .returned (.int .u32 (turn32 x K.toNat)) ∧ w = w' := by
  have := rot x K.toNat w (by omega) (by omega)
  rwa [show ((K.toNat : Nat) : Int) = K by omega] at this
set_option maxRecDepth 100000 in
set_option maxHeartbeats 400000 in
theorem twice (x : Nat) (J K : Int) (w : World) (j0 : 1 ≤ J) (j1 : J ≤ 31) (k0 : 1 ≤ K) (k1 : K ≤ 31) :
    Calls Tryz.prog 164 #[.int .u32 x, .int .i64 J, .int .i64 K] w fun e w' => e = .returned (.int .u32 (xor32 (turn32 x J.toNat) (turn32 x K.toNat))) ∧ w = w' := by
  have hx := r_xor (turn32 x J.toNat) (turn32 x K.toNat)
  go_enter Tryz.func164, Tryz.ntmps164
  go_wp2_with fail
  refine (rotK x J w j0 j1).mono ?_
  rintro e w1 ⟨rfl, rfl⟩
  go_wp2_with fail
  refine (rotK x K w k0 k1).mono ?_
  rintro e w2 ⟨rfl, rfl⟩
  go_wp2_with fail
  go_ret
  exact ⟨rfl, rfl⟩
set_option maxRecDepth 100000 in
set_option maxHeartbeats 400000 in
theorem thrice (x : Nat) (I J K : Int) (w : World) (i0 : 1 ≤ I) (i1 : I ≤ 31) (j0 : 1 ≤ J) (j1 : J ≤ 31) (k0 : 1 ≤ K) (k1 : K ≤ 31) :
    Calls Tryz.prog 161 #[.int .u32 x, .int .i64 I, .int .i64 J, .int .i64 K] w fun e w' => e = .returned (.int .u32 (xor32 (xor32 (turn32 x I.toNat) (turn32 x J.toNat)) (turn32 x K.toNat))) ∧ w = w' := by
  have hx := r_xor (xor32 (turn32 x I.toNat) (turn32 x J.toNat)) (turn32 x K.toNat)
  go_enter Tryz.func161, Tryz.ntmps161
  go_wp2_with fail
  refine (twice x I J w i0 i1 j0 j1).mono ?_
  rintro e w1 ⟨rfl, rfl⟩
  go_wp2_with fail
  refine (rotK x K w k0 k1).mono ?_
  rintro e w2 ⟨rfl, rfl⟩
  go_wp2_with fail
  go_ret
  exact ⟨rfl, rfl⟩
end Go.Proofs.YtconcnndghmdfaaGreatDoor

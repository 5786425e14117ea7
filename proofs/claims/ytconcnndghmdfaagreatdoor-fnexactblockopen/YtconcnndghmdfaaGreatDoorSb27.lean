/- Put together: KeyW, SealPn, SealPr, ImpAesT, TabMath, ImpTab. -/
import Derived.Test.YtconcnndghmdfaaGreatDoorSb1
import Derived.Test.YtconcnndghmdfaaGreatDoorSb23
import Derived.Test.YtconcnndghmdfaaGreatDoorSb26
import Derived.Test.YtconcnndghmdfaaGreatDoorSb19
import Derived.BigRegion
import Derived.BigQuiet
import Derived.WalkSmall
import Derived.Test.YtconcnndghmdfaaGreatDoorSb4
import Derived.Test.YtconcnndghmdfaaGreatDoorSb13
namespace Go.Proofs.YtconcnndghmdfaaGreatDoor
open Go.RowKit
/-- Where the keys' block stands, and all that was there before. -/
structure KeyW (w : World) (H M : ByteArray) (w2 : World) : Prop where
  b : Below (w.heap.size + 1) (w.alloc (.cells #[.string H, .string M] 24)) w2
theorem KeyW.size {w w2 : World} {H M : ByteArray} (h : KeyW w H M w2) : w.heap.size + 1 ≤ w2.heap.size := by have := h.b.size; simpa using this
theorem KeyW.call {w w1 w2 : World} {H M : ByteArray} (h : KeyW w H M w1) (hb : Below w1.heap.size w1 w2) : KeyW w H M w2 := ⟨h.b.trans (hb.mono h.size)⟩
theorem KeyW.call' {w w1 w2 : World} {H M : ByteArray} (h : KeyW w H M w1) (hb : Below w1.drew.heap.size w1.drew w2) : KeyW w H M w2 := ⟨h.b.drew.trans (hb.mono h.size)⟩
theorem KeyW.c0 {w w2 : World} {H M : ByteArray} (h : KeyW w H M w2) : w2.cell? ⟨w.heap.size, 0, none⟩ = some (.string H) := (keys_cells h.b (Nat.lt_succ_self _) (heap_alloc_new w _)).1
theorem KeyW.c1 {w w2 : World} {H M : ByteArray} (h : KeyW w H M w2) : w2.cell? ⟨w.heap.size, 1, none⟩ = some (.string M) := (keys_cells h.b (Nat.lt_succ_self _) (heap_alloc_new w _)).2.1
theorem KeyW.alloc {w w1 : World} {H M : ByteArray} (h : KeyW w H M w1) (o : Obj) : KeyW w H M (w1.alloc o) := ⟨h.b.alloc h.size o⟩
theorem KeyW.drew {w w1 : World} {H M : ByteArray} (h : KeyW w H M w1) : KeyW w H M w1.drew := ⟨h.b.drew⟩
theorem KeyW.low {w w2 : World} {H M : ByteArray} (h : KeyW w H M w2) : Below w.heap.size w w2 := ((Below.refl _ _).alloc (Nat.le_refl _) _).trans (h.b.mono (Nat.le_succ _))
theorem KeyW.one {w w1 : World} {H M : ByteArray} (h : Below (w.alloc (.cells #[.string H, .string M] 24)).heap.size (w.alloc (.cells #[.string H, .string M] 24)) w1) : KeyW w H M w1 := ⟨by simpa using h⟩
end Go.Proofs.YtconcnndghmdfaaGreatDoor
namespace Go.Proofs.YtconcnndghmdfaaGreatDoor
open Go.RowKit Go
set_option maxRecDepth 100000 in
set_option maxHeartbeats 1600000 in
theorem imp_body_short (H M b : ByteArray) (w : World) (hs : b.size < 18) :
    Calls Tryz.prog 64 #[.agg #[.string H, .string M], .string b] w fun e w' => e = .panicked [{ v := faultP 4, recovered := false }] ∧ Below w.heap.size w w' := by
  have h' : ¬ 18 ≤ (b.size : Int) := by omega
  have d' : decide (18 ≤ (b.size : Int)) = false := decide_eq_false h'
  have q0 := hide ((Below.refl w.heap.size w).alloc (Nat.le_refl _) (.cells #[.string H, .string M] 24))
  have SD := hide (fun W => imp_demand_no 4 W)
  go_enter Tryz.func64, Tryz.ntmps64
  go_wp2_with fail
  refine (SD.out _).mono ?_
  rintro e w1 ⟨rfl, rfl⟩
  go_wp2_with fail
  exact ⟨rfl, rfl, q0.out⟩
set_option maxRecDepth 100000 in
set_option maxHeartbeats 3200000 in
theorem imp_body (H M b : ByteArray) (w : World) (htab : Tab w) (hM : M.size ≤ 20000) (hs : 18 ≤ b.size) (hb : b.size ≤ 20000) :
    Calls Tryz.prog 64 #[.agg #[.string H, .string M], .string b] w fun e w' => e = (if take16 (macT M (bodyX b)) = tailX b then .returned (.string (bodyX b)) else .panicked [{ v := faultP 10, recovered := false }]) ∧ Below w.heap.size w w' := by
  have h' : 18 ≤ (b.size : Int) := by omega
  have d' : decide (18 ≤ (b.size : Int)) = true := decide_eq_true h'
  obtain ⟨L, hL⟩ : ∃ L, b.size = L + 16 := ⟨b.size - 16, by omega⟩
  have hn : (b.size : Int) - 16 = (L : Int) := by omega
  have hbd : b.extract 0 L = bodyX b := by unfold bodyX; rw [show b.size - 16 = L by omega]
  have htl : b.extract L b.size = tailX b := by unfold tailX; rw [show b.size - 16 = L by omega]
  have hls : (bodyX b).size = L := by rw [bodyX_size]; omega
  have hsl1 : ∀ W : World, (Instr.slice 9 (.string b) none (some (.int .i64 (L : Int))) none).run Tryz.prog W = .ok (.string (bodyX b)) W := fun W => by rw [← hbd]; exact run_front (P := Tryz.prog) W 9 b L Tryz.underlying9 (by omega)
  have hsl2 : ∀ W : World, (Instr.slice 9 (.string b) (some (.int .i64 (L : Int))) none none).run Tryz.prog W = .ok (.string (tailX b)) W := fun W => by rw [← htl]; exact run_back (P := Tryz.prog) W 9 b L Tryz.underlying9 (by omega)
  have SM := hide (fun W (h : Tab W) => imp_macOf H M (bodyX b) W hM (by omega) h)
  have SD := hide (fun W => imp_demand_yes 4 W)
  have SE := hide (fun W => imp_demand_yes 10 W)
  have SN := hide (fun W => imp_demand_no 10 W)
  have HT := hide htab
  have HB0 : KeyW w H M (w.alloc (.cells #[.string H, .string M] 24)) := ⟨Below.refl _ _⟩
  have HB := hide HB0
  have c0 := HB0.c0
  have c1 := HB0.c1
  generalize take16 (macT M (bodyX b)) = X at *
  generalize bodyX b = BD at *
  generalize tailX b = TL at *
  clear hbd htl hls htab HB0 hL
  by_cases hX : X = TL
  · rw [if_pos hX]
    subst hX
    go_enter Tryz.func64, Tryz.ntmps64
    go_wp2_with fail
    refine (SD.out _).mono ?_
    rintro e w1 ⟨rfl, rfl⟩
    go_wp2_with fail
    go_quiet (fail)
    go_wp2_with fail
    refine (SM.out _ (HT.out.low (below_drewN HB.out.low nq))).mono ?_
    rintro e w2 ⟨rfl, hb2⟩
    have HB2 := hide (show KeyW w H M w2 from ⟨(below_drewN HB.out.b nq).trans (hb2.mono HB.out.size)⟩)
    clear hb2
    go_wp2_with fail
    refine (SE.out _).mono ?_
    rintro e w3 ⟨rfl, rfl⟩
    go_wp2_with fail
    go_ret
    exact ⟨rfl, HB2.out.low⟩
  · rw [if_neg hX]
    have hq2 : (X.toList == TL.toList) = false := by rw [list_beq, decide_eq_false hX]
    go_enter Tryz.func64, Tryz.ntmps64
    go_wp2_with fail
    refine (SD.out _).mono ?_
    rintro e w1 ⟨rfl, rfl⟩
    go_wp2_with fail
    go_quiet (fail)
    go_wp2_with fail
    refine (SM.out _ (HT.out.low (below_drewN HB.out.low nq))).mono ?_
    rintro e w2 ⟨rfl, hb2⟩
    have HB2 := hide (show KeyW w H M w2 from ⟨(below_drewN HB.out.b nq).trans (hb2.mono HB.out.size)⟩)
    clear hb2
    go_wp2_with fail
    refine (SN.out _).mono ?_
    rintro e w3 ⟨rfl, rfl⟩
    go_wp2_with fail
    exact ⟨rfl, rfl, HB2.out.low⟩
theorem numRet_at (t : ByteArray) (q : Nat) : (∃ n a : Int, numRet q (decAt t q) = .tuple #[.int .i64 n, .int .i64 a, .nilIface] ∧ (decAt t q).1 = 0 ∧ n = unfold (decAt t q).2.1 ∧ a = ((q + (decAt t q).2.2 : Nat) : Int)) ∨ (∃ c : Int, numRet q (decAt t q) = .tuple #[.int .i64 0, .int .i64 0, faultP c] ∧ ¬ (decAt t q).1 = 0) := by
  rcases decAt_form t q with ⟨U, m, h, hm⟩ | h | h <;> rw [h]
  · refine .inl ⟨unfold U, (q : Int) + m, by rw [numRet_good], rfl, rfl, ?_⟩
    show (q : Int) + (m : Int) = ((q + m : Nat) : Int); omega
  · exact .inr ⟨3, by rw [numRet_bad q 3 (by omega)]; rfl, by simp⟩
  · exact .inr ⟨4, by rw [numRet_bad q 4 (by omega)]; rfl, by simp⟩
set_option maxRecDepth 100000 in
set_option maxHeartbeats 3200000 in
theorem imp_hiddenOf (t : ByteArray) (id : Int) (w : World) (h0 : 0 ≤ id) (h1 : id ≤ 2000000) (ht : t.size ≤ 20000) :
    Calls Tryz.prog 63 #[.string t, .int .i64 id] w fun e w' => e = (if headOk t id then .returned (.tuple #[.int .i64 (farX t), .string (restX t)]) else .panicked [{ v := faultP 5, recovered := false }]) ∧ Below w.heap.size w w' := by
  have SN := hide (show ∀ W : World, Calls Tryz.prog 28 #[.int .i64 id] W fun e w' => e = .returned (.string (numB id)) ∧ Below W.heap.size W w' from fun W => impl_putNum id W (by omega) (by omega))
  have SP := hide (fun W => imp_cutPre t (numB id) W)
  have SD := hide (fun W => imp_demand_yes 5 W)
  have SE := hide (fun W => imp_demand_no 5 W)
  by_cases hf : inFront t (numB id)
  · obtain ⟨k1, k2, k3, k4, k5⟩ := front_yes t id h0 h1 hf
    rw [decide_eq_true hf] at SP
    have hcs : (cutT t (numB id)).size ≤ 20000 := by rw [k5, ByteArray.size_extract]; omega
    have SR0 : ∀ W : World, Calls Tryz.prog 99 #[.string (cutT t (numB id)), .int .i64 0] W fun e w' => e = .returned (numRet 0 (decAt (cutT t (numB id)) 0)) ∧ W = w' := fun W => impl_readNum (cutT t (numB id)) 0 W hcs (by decide)
    rcases numRet_at (cutT t (numB id)) 0 with ⟨n, a, e1, e2, e3, e4⟩ | ⟨c, e1, e2⟩
    · rw [e1] at SR0
      rw [k4] at e2 e3 e4
      have hm : fromX t = (numB id).size + (num2 t).2.2 := by unfold fromX; rw [k3]
      have hle := fromX_le t
      have hN : (numB id).size ≤ t.size := hf.1
      have hrx : (cutT t (numB id)).extract (num2 t).2.2 (cutT t (numB id)).size = restX t := by
        rw [k5, rest_cut, ← hm]; rfl
      have hsl : ∀ W : World, (Instr.slice 9 (.string (cutT t (numB id))) (some (.int .i64 a)) none none).run Tryz.prog W = .ok (.string (restX t)) W := fun W => by
        rw [e4, Nat.zero_add, ← hrx]; exact run_back (P := Tryz.prog) W 9 _ _ Tryz.underlying9 (by rw [k5, ByteArray.size_extract]; omega)
      have hfar : farX t = n := e3.symm
      have hok : headOk t id ↔ (0 ≤ n ∧ n ≤ 256) := by
        unfold headOk
        rw [← e3]
        exact ⟨fun h => ⟨h.2.2.2.1, h.2.2.2.2⟩, fun h => ⟨k1, e2, k2, h.1, h.2⟩⟩
      have SR := hide SR0
      clear SR0 e1 e2 e3 e4 hm hle hN hrx hcs k1 k2 k3 k4 k5 hf
      rw [hfar]
      generalize restX t = RX at *
      generalize cutT t (numB id) = CT at *
      by_cases hr : 0 ≤ n ∧ n ≤ 256
      · rw [if_pos (hok.2 hr)]
        have SF := hide (fun W => by have h := imp_farRight n W; rw [show farOk10 n = true by unfold farOk10; simp; exact hr] at h; exact h)
        clear hok hr hfar
        go_enter Tryz.func63, Tryz.ntmps63
        go_wp2_with fail
        refine (SN.out _).mono ?_
        rintro e w1 ⟨rfl, hb1⟩
        go_wp2_with fail
        refine (SP.out _).mono ?_
        rintro e w2 ⟨rfl, rfl⟩
        go_wp2_with fail
        refine (SD.out _).mono ?_
        rintro e w3 ⟨rfl, rfl⟩
        go_wp2_with fail
        refine (SR.out _).mono ?_
        rintro e w4 ⟨rfl, rfl⟩
        go_wp2_with fail
        refine (SF.out _).mono ?_
        rintro e w5 ⟨rfl, hb5⟩
        have HB := hide (hb1.trans (hb5.mono hb1.size))
        clear hb1 hb5
        go_wp2_with fail
        refine (SD.out _).mono ?_
        rintro e w6 ⟨rfl, rfl⟩
        go_wp2_with fail
        go_quiet (fail)
        go_wp2_with fail
        go_ret2
        exact ⟨rfl, below_drewN HB.out _⟩
      · rw [if_neg (fun h => hr (hok.1 h))]
        have SF := hide (fun W => by have h := imp_farRight n W; rw [show farOk10 n = false from Bool.eq_false_iff.2 (fun h => hr (by unfold farOk10 at h; simpa using h))] at h; exact h)
        clear hok hr hfar
        go_enter Tryz.func63, Tryz.ntmps63
        go_wp2_with fail
        refine (SN.out _).mono ?_
        rintro e w1 ⟨rfl, hb1⟩
        go_wp2_with fail
        refine (SP.out _).mono ?_
        rintro e w2 ⟨rfl, rfl⟩
        go_wp2_with fail
        refine (SD.out _).mono ?_
        rintro e w3 ⟨rfl, rfl⟩
        go_wp2_with fail
        refine (SR.out _).mono ?_
        rintro e w4 ⟨rfl, rfl⟩
        go_wp2_with fail
        refine (SF.out _).mono ?_
        rintro e w5 ⟨rfl, hb5⟩
        have HB := hide (hb1.trans (hb5.mono hb1.size))
        clear hb1 hb5
        go_wp2_with fail
        refine (SE.out _).mono ?_
        rintro e w6 ⟨rfl, rfl⟩
        go_wp2_with fail
        exact ⟨rfl, rfl, HB.out⟩
    · rw [e1] at SR0
      rw [k4] at e2
      rw [if_neg (fun h => e2 h.2.1)]
      have SR := hide SR0
      clear SR0 e1 e2 k1 k2 k3 k4 k5 hf hcs
      unfold faultP at SR
      generalize cutT t (numB id) = CT at *
      go_enter Tryz.func63, Tryz.ntmps63
      go_wp2_with fail
      refine (SN.out _).mono ?_
      rintro e w1 ⟨rfl, hb1⟩
      go_wp2_with fail
      refine (SP.out _).mono ?_
      rintro e w2 ⟨rfl, rfl⟩
      go_wp2_with fail
      refine (SD.out _).mono ?_
      rintro e w3 ⟨rfl, rfl⟩
      go_wp2_with fail
      refine (SR.out _).mono ?_
      rintro e w4 ⟨rfl, rfl⟩
      go_wp2_with fail
      refine (SE.out _).mono ?_
      rintro e w6 ⟨rfl, rfl⟩
      go_wp2_with fail
      exact ⟨rfl, rfl, hb1⟩
  · rw [if_neg (front_no t id h0 h1 hf)]
    rw [decide_eq_false hf] at SP
    clear hf
    generalize cutT t (numB id) = CT at *
    go_enter Tryz.func63, Tryz.ntmps63
    go_wp2_with fail
    refine (SN.out _).mono ?_
    rintro e w1 ⟨rfl, hb1⟩
    go_wp2_with fail
    refine (SP.out _).mono ?_
    rintro e w2 ⟨rfl, rfl⟩
    go_wp2_with fail
    refine (SE.out _).mono ?_
    rintro e w3 ⟨rfl, rfl⟩
    go_wp2_with fail
    exact ⟨rfl, rfl, hb1⟩
end Go.Proofs.YtconcnndghmdfaaGreatDoor
namespace Go.Proofs.YtconcnndghmdfaaGreatDoor
open Go.RowKit
set_option maxRecDepth 100000 in
theorem imp_keysRight (H M : ByteArray) (w : World) :
    Calls Tryz.prog 23 #[.agg #[.string H, .string M]] w fun e w' => e = .returned (.bool (keysOk (H, M))) ∧ Below w.heap.size w w' := by
  have q0 := hide ((Below.refl w.heap.size w).alloc (Nat.le_refl _) (.cells #[.string H, .string M] 24))
  have R := hide (show keysOk (H, M) = (decide (H.size = 16) && decide (M.size = 32)) from rfl)
  by_cases h1 : H.size = 16
  · have h1' : (H.size : Int) = 16 := by omega
    by_cases h2 : M.size = 32
    · have h2' : (M.size : Int) = 32 := by omega
      have R2 := hide (show keysOk (H, M) = true by rw [R.out, decide_eq_true h1, decide_eq_true h2, Bool.and_self])
      go_enter Tryz.func23, Tryz.ntmps23
      go_wp2_with fail
      go_ret
      exact ⟨by rw [R2.out]; rfl, q0.out⟩
    · have h2' : ((M.size : Int) == 32) = false := beq_eq_false_iff_ne.2 (by omega)
      have R2 := hide (show keysOk (H, M) = false by rw [R.out, decide_eq_true h1, decide_eq_false h2, Bool.true_and])
      go_enter Tryz.func23, Tryz.ntmps23
      go_wp2_with fail
      go_ret
      exact ⟨by rw [R2.out]; rfl, q0.out⟩
  · have h1' : ((H.size : Int) == 16) = false := beq_eq_false_iff_ne.2 (by omega)
    have R2 := hide (show keysOk (H, M) = false by rw [R.out, decide_eq_false h1, Bool.false_and])
    go_enter Tryz.func23, Tryz.ntmps23
    go_wp2_with fail
    go_ret
    exact ⟨by rw [R2.out]; rfl, q0.out⟩
end Go.Proofs.YtconcnndghmdfaaGreatDoor
namespace Go.Proofs.YtconcnndghmdfaaGreatDoor
open Go.RowKit
theorem dblI_hi : ∀ b : Fin 256, 128 ≤ b.1 → bits .xor .u8 ((b.1 : Int) * 2 % 256) 27 = ((dbl b.1 : Nat) : Int) := by decide +kernel
theorem dblI_lo : ∀ b : Fin 256, b.1 < 128 → (b.1 : Int) * 2 = ((dbl b.1 : Nat) : Int) := by decide +kernel
set_option maxRecDepth 100000 in
set_option maxHeartbeats 400000 in
theorem imp_doubled (b : Nat) (w : World) (hb : b < 256) :
    Calls Tryz.prog 110 #[.int .u8 b] w fun e w' => e = .returned (.int .u8 (dbl b : Nat)) ∧ w = w' := by
  by_cases h : 128 ≤ b
  · have hv := hide (dblI_hi ⟨b, hb⟩ h)
    go_enter Tryz.func110, Tryz.ntmps110
    go_wp2_with fail
    go_ret
    exact ⟨ret_int hv.out, rfl⟩
  · have hv := hide (dblI_lo ⟨b, hb⟩ (by show b < 128; omega))
    go_enter Tryz.func110, Tryz.ntmps110
    go_wp2_with fail
    go_ret
    exact ⟨ret_int hv.out, rfl⟩
theorem tN_stay (a b k : Nat) (h : b / 2 ^ k = 0) : ∀ m, tN a b (k + m) = tN a b k
  | 0 => rfl
  | m + 1 => by
    have hz : b / 2 ^ (k + m) = 0 := by rw [Nat.pow_add, ← Nat.div_div_eq_div_mul, h, Nat.zero_div]
    show (if b / 2 ^ (k + m) % 2 = 1 then _ else tN a b (k + m)) = _
    rw [hz, if_neg (by omega), tN_stay a b k h m]
theorem bit8 : ∀ b : Fin 256, bits .and .u8 (b.1 : Int) 1 = ((b.1 % 2 : Nat) : Int) := by decide +kernel
theorem xor8N (a b : Nat) (ha : a < 256) (hb : b < 256) : bits .xor .u8 (a : Int) (b : Int) = ((a ^^^ b : Nat) : Int) := by
  have h := r_xor8 (UInt8.ofNat a) (UInt8.ofNat b)
  rwa [UInt8.toNat_xor, UInt8.toNat_ofNat', UInt8.toNat_ofNat', Nat.mod_eq_of_lt ha, Nat.mod_eq_of_lt hb] at h
set_option maxRecDepth 100000 in
set_option maxHeartbeats 800000 in
theorem imp_times (a b : Nat) (w : World) (ha : a < 256) (hb : b < 256) :
    Calls Tryz.prog 108 #[.int .u8 a, .int .u8 b] w fun e w' => e = .returned (.int .u8 (times a b : Nat)) ∧ w = w' := by
  go_enter Tryz.func108, Tryz.ntmps108
  go_wp2_with fail
  go_loopw [0, 1, 5] (fun x y n wx => ∃ k B : Nat, k ≤ 8 ∧ Hid (B = b / 2 ^ k) ∧ B < 256 ∧ x = .int .u8 (tA a k : Nat) ∧ y = .int .u8 (B : Nat) ∧ n = .int .u8 (tN a b k : Nat) ∧ w = wx) (fun _ y _ _ => (intOf y).toNat)
  case atStart => exact ⟨0, b, by omega, by show b = _; simp, hb, rfl, rfl, rfl, rfl⟩
  case round =>
    obtain ⟨k, B, hk, hB, hB8, rfl, rfl, rfl, rfl⟩ := hrel
    by_cases h0 : 0 < B
    · have h0' : (0 : Int) < (B : Int) := by omega
      have hk8 : k < 8 := by
        rcases Nat.lt_or_ge k 8 with h | h
        · exact h
        · have e : k = 8 := by omega
          have := hB.out
          rw [e, Nat.div_eq_of_lt hb] at this; omega
      have hA := tA_lt a ha k
      have hN := tN_lt a b ha k
      have eA := hide (show tA a (k + 1) = dbl (tA a k) from rfl)
      have eN := hide (show tN a b (k + 1) = if B % 2 = 1 then tN a b k ^^^ tA a k else tN a b k by rw [hB.out]; rfl)
      have eB := hide (show B / 2 = b / 2 ^ (k + 1) by rw [hB.out, Nat.pow_succ, Nat.div_div_eq_div_mul])
      generalize tA a k = A at *
      generalize tN a b k = N at *
      have hbt := bit8 ⟨B, hB8⟩
      simp only at hbt
      have hx1 := hide (xor8N N A (by omega) (by omega))
      clear hB
      by_cases hbit : B % 2 = 1
      · rw [hbit] at hbt
        rw [if_pos hbit] at eN
        go_wp2_with fail
        refine (imp_doubled A _ hA).mono ?_
        rintro e w1 ⟨rfl, rfl⟩
        go_wp2_with fail
        refine ⟨⟨k + 1, B / 2, by omega, eB, by omega, by rw [eA.out], by go_num, by rw [hx1.out, eN.out], trivial⟩, by simp [intOf]; omega⟩
      · have h00 : B % 2 = 0 := by omega
        rw [h00] at hbt
        rw [if_neg hbit] at eN
        go_wp2_with fail
        refine (imp_doubled A _ hA).mono ?_
        rintro e w1 ⟨rfl, rfl⟩
        go_wp2_with fail
        refine ⟨⟨k + 1, B / 2, by omega, eB, by omega, by rw [eA.out], by go_num, by rw [eN.out], trivial⟩, by simp [intOf]; omega⟩
    · have hz : B = 0 := by omega
      subst hz
      have hE := hide (show tN a b k = times a b by
        have h := tN_stay a b k hB.out.symm (8 - k)
        rw [show k + (8 - k) = 8 by omega] at h
        rw [times, h])
      go_wp2_with fail
      go_ret
      exact ⟨by rw [← hE.out]; rfl, rfl⟩
theorem rot8_eq (x k S : Nat) (hx : x < 256) (hk : k ≤ 4) (h : S = 8 - k) : bits .or .u8 ((x : Int) * 2 ^ k % 256) ((x : Int) / 2 ^ S) = (((x * 2 ^ k) % 256 ||| x / 2 ^ (8 - k) : Nat) : Int) := by
  subst h
  have hall : ∀ k : Fin 5, ∀ x : Fin 256, bits .or .u8 ((x.1 : Int) * 2 ^ k.1 % 256) ((x.1 : Int) / 2 ^ (8 - k.1)) = (((x.1 * 2 ^ k.1) % 256 ||| x.1 / 2 ^ (8 - k.1) : Nat) : Int) := by decide +kernel
  exact hall ⟨k, by omega⟩ ⟨x, hx⟩
theorem and7 : ∀ k : Fin 5, bits .and .u64 (IntKind.u64.wrap (k.1 : Int)) 7 = (k.1 : Int) := by decide
def rot8 (x k : Nat) : Nat := (x * 2 ^ k) % 256 ||| x / 2 ^ (8 - k)
theorem rot8_lt (x k : Nat) (hx : x < 256) : rot8 x k < 256 := Nat.or_lt_two_pow (n := 8) (Nat.mod_lt _ (by decide)) (Nat.lt_of_le_of_lt (Nat.div_le_self _ _) hx)
set_option maxRecDepth 100000 in
set_option maxHeartbeats 400000 in
theorem imp_rot8 (x k : Nat) (w : World) (hx : x < 256) (hk : k ≤ 4) :
    Calls Tryz.prog 140 #[.int .u8 x, .int .i64 (k : Int)] w fun e w' => e = .returned (.int .u8 (rot8 x k : Nat)) ∧ w = w' := by
  have hand : bits .and .u64 (k : Int) 7 = (k : Int) := by
    have := and7 ⟨k, by omega⟩
    simp only at this
    rwa [show IntKind.u64.wrap (k : Int) = (k : Int) by rw [IntKind.wrap_u64]; omega] at this
  go_enter Tryz.func140, Tryz.ntmps140
  go_wp2_with fail
  go_ret
  exact ⟨ret_int (rot8_eq x k (8 - k) hx hk rfl), rfl⟩
set_option maxRecDepth 100000 in
set_option maxHeartbeats 400000 in
theorem imp_turned (b : Nat) (w : World) (hb : b < 256) :
    Calls Tryz.prog 107 #[.int .u8 b] w fun e w' => e = .returned (.int .u8 (ring b 5 : Nat)) ∧ w = w' := by
  have h0 := hide (show bits .xor .u8 (b : Int) 99 = ((ring b 1 : Nat) : Int) by
    have := xor8N b 99 hb (by decide)
    rw [show ((99 : Nat) : Int) = 99 from rfl] at this
    rw [this]
    show _ = ((99 ^^^ ((b * 2 ^ 0) % 256 ||| b / 2 ^ 8) : Nat) : Int)
    rw [Nat.pow_zero, Nat.mul_one, Nat.mod_eq_of_lt hb, Nat.div_eq_of_lt hb, Nat.or_zero, Nat.xor_comm])
  go_enter Tryz.func107, Tryz.ntmps107
  go_wp2_with fail
  go_loopw [3, 7] (fun s i wx => ∃ k : Nat, k ≤ 4 ∧ i = .int .i64 k ∧ s = .int .u8 (ring b (k + 1) : Nat) ∧ w = wx) (fun _ i _ => 4 - (intOf i).toNat)
  case atStart => exact ⟨0, by omega, rfl, by rw [h0.out], rfl⟩
  case round =>
    clear h0
    obtain ⟨k, hk, rfl, rfl, rfl⟩ := hrel
    have hr := ring_lt b hb (k + 1) (by omega)
    by_cases hlt : k < 4
    · have eR := hide (show ring b (k + 1 + 1) = ring b (k + 1) ^^^ rot8 b (k + 1) from rfl)
      generalize hR2 : ring b (k + 1 + 1) = R2 at *
      generalize ring b (k + 1) = R at *
      obtain ⟨m, hm⟩ : ∃ m, m = k + 1 := ⟨_, rfl⟩
      have hm' : (k : Int) + 1 = (m : Int) := by omega
      have hx := hide (xor8N R (rot8 b (k + 1)) hr (rot8_lt b _ hb))
      rw [← hm] at hx eR
      have HM := hide hm
      clear hm
      go_wp2_with fail
      refine (imp_rot8 b m _ hb (by omega)).mono ?_
      rintro e w1 ⟨rfl, rfl⟩
      go_wp2_with fail
      exact ⟨⟨k + 1, by omega, by go_num, by rw [hx.out, hR2, eR.out], trivial⟩, by simp [intOf]; omega⟩
    · have hE := hide (show ring b (k + 1) = ring b 5 by rw [show k = 4 by omega])
      go_wp2_with fail
      go_ret
      exact ⟨by rw [← hE.out]; rfl, rfl⟩
end Go.Proofs.YtconcnndghmdfaaGreatDoor
namespace Go.Proofs.YtconcnndghmdfaaGreatDoor
def it (g : Nat) : Nat → Nat
  | 0 => 1
  | k + 1 => times (it g k) g
theorem it_lt (g : Nat) : ∀ k, it g k < 256
  | 0 => by show (1 : Nat) < 256; omega
  | k + 1 => times_lt _ _ (it_lt g k)
theorem it_zero (g : Nat) : it g 0 = 1 := rfl
theorem it_succ (g k : Nat) : it g (k + 1) = times (it g k) g := rfl
def tabAt : Nat → Nat → UInt8
  | 0, j => if j = 0 then 99 else 0
  | k + 1, j => if j = it 3 k then UInt8.ofNat (ring (it 246 k) 5) else tabAt k j
def chk : Nat → Nat → Nat → Bool
  | 0, _, _ => true
  | n + 1, p, u => (u == pw p 8) && chk n (times p 3) (times u 246)
theorem chk_all : chk 255 1 1 = true := by decide +kernel
theorem chk_at : ∀ n k, chk n (it 3 k) (it 246 k) = true → ∀ i, k ≤ i → i < k + n → it 246 i = pw (it 3 i) 8
  | 0, k, _, i, h1, h2 => by omega
  | n + 1, k, h, i, h1, h2 => by
    unfold chk at h
    rw [Bool.and_eq_true] at h
    by_cases e : i = k
    · subst e; exact eq_of_beq h.1
    · exact chk_at n (k + 1) h.2 i (by omega) (by omega)
def mask : Nat → Nat → Nat
  | 0, _ => 0
  | n + 1, p => 2 ^ p ||| mask n (times p 3)
theorem mask_all : mask 255 1 = 2 ^ 256 - 2 := by decide +kernel
theorem mask_bit : ∀ n k j, (mask n (it 3 k)).testBit j = true → ∃ i, k ≤ i ∧ i < k + n ∧ it 3 i = j
  | 0, k, j, h => by simp [mask] at h
  | n + 1, k, j, h => by
    unfold mask at h
    rw [Nat.testBit_or, Bool.or_eq_true] at h
    rcases h with h | h
    · refine ⟨k, by omega, by omega, ?_⟩
      rw [Nat.testBit_two_pow] at h
      simpa using h
    · obtain ⟨i, h1, h2, h3⟩ := mask_bit n (k + 1) j h
      exact ⟨i, by omega, by omega, h3⟩
theorem full_bit : ∀ j : Fin 256, j.1 ≠ 0 → (2 ^ 256 - 2 : Nat).testBit j.1 = true := by decide +kernel
theorem sbox_zero : sbox 0 = 99 := by decide +kernel
theorem tab_some : ∀ n, n ≤ 255 → ∀ j, (j = 0 ∨ ∃ i, i < n ∧ it 3 i = j) → tabAt n j = sbox j
  | 0, _, j, h => by
    rcases h with rfl | ⟨i, hi, _⟩
    · rw [sbox_zero]; rfl
    · omega
  | n + 1, hn, j, h => by
    have e : it 246 n = pw (it 3 n) 8 := chk_at 255 0 chk_all n (by omega) (by omega)
    unfold tabAt
    by_cases hj : j = it 3 n
    · rw [if_pos hj, e, hj]; rfl
    · rw [if_neg hj]
      refine tab_some n (by omega) j ?_
      rcases h with h | ⟨i, hi, h⟩
      · exact .inl h
      · refine .inr ⟨i, ?_, h⟩
        rcases Nat.lt_or_ge i n with h2 | h2
        · exact h2
        · have : i = n := by omega
          subst this; exact absurd h.symm hj
theorem tab_end (j : Nat) (hj : j < 256) : tabAt 255 j = sbox j := by
  refine tab_some 255 (by omega) j ?_
  by_cases h0 : j = 0
  · exact .inl h0
  · have h := full_bit ⟨j, hj⟩ h0
    rw [← mask_all] at h
    obtain ⟨i, _, h2, h3⟩ := mask_bit 255 0 j h
    exact .inr ⟨i, by omega, h3⟩
end Go.Proofs.YtconcnndghmdfaaGreatDoor
namespace Go.Proofs.YtconcnndghmdfaaGreatDoor
open Go.RowKit
theorem Tryz.infoTab : (Tryz.prog.info? 96).map (fun i => (i.zero, i.size)) = some (some (.agg (bL 256 fun _ => 0).toArray), 256) := by kernel_rfl
theorem ofNat_toNat (n : Nat) (h : n < 256) : (UInt8.ofNat n).toNat = n := by rw [UInt8.toNat_ofNat']; exact Nat.mod_eq_of_lt h
attribute [local irreducible] times ring it
set_option maxRecDepth 100000 in
set_option maxHeartbeats 800000 in
theorem imp_table (w : World) :
    Calls Tryz.prog 74 #[] w fun e w' => e = .returned (.agg (bL 256 sbox).toArray) ∧ Below w.heap.size w w' := by
  obtain ⟨hz, hsz⟩ := zero_of_info Tryz.infoTab
  have r1 := row_alloc (w.alloc (.cells (bL 256 fun _ => 0).toArray 96)) 96 256 (fun _ => 0)
  rw [World.size_alloc] at r1
  have c0 := r1.cell (i := 0) (by omega)
  have f0 := r1.frozen 0
  go_enter Tryz.func74, Tryz.ntmps74
  go_wp2_with fail
  clear hz c0 f0
  go_loopw [2, 3, 5] (fun p u i wx => ∃ (k P U : Nat) (f : Nat → UInt8), k ≤ 255 ∧ i = .int .i64 k ∧ p = .int .u8 (P : Nat) ∧ u = .int .u8 (U : Nat) ∧ Hid (P = it 3 k) ∧ Hid (U = it 246 k) ∧ P < 256 ∧ U < 256 ∧ Hid (∀ j, j < 256 → f j = tabAt k j) ∧ wx.rowIs w.heap.size 96 256 (u8V fun _ => 0) ∧ wx.rowIs (w.heap.size + 1) 96 256 (u8V f) ∧ Below w.heap.size w wx) (fun _ _ i _ => 255 - (intOf i).toNat)
  case atStart => exact ⟨0, 1, 1, fun j => if j = 0 then 99 else 0, by omega, rfl, rfl, rfl, (it_zero 3).symm, (it_zero 246).symm, by omega, by omega, fun j _ => rfl, (row_alloc w _ 256 _).alloc _, by have h := row_alloc_set (w.alloc (.cells (bL 256 fun _ => 0).toArray 96)) 96 256 0 (fun _ => 0) 99 99 rfl; rw [World.size_alloc] at h; exact h, ((Below.refl _ _).alloc (Nat.le_refl _) _).alloc (by simp) _⟩
  case round =>
    clear r1
    obtain ⟨k, P, U, f, hk, rfl, rfl, rfl, hP, hU, hP8, hU8, hf, hres, hrw, hbl⟩ := hrel
    by_cases hlt : k < 255
    · have hR := ring_lt U hU8 5 (by omega)
      have ck := hrw.cell (i := P) hP8
      have hfz := hrw.frozen P
      have hP' : (P : Int) < 256 := by omega
      have HV := hide (show UInt8.ofNat (ring U 5) = UInt8.ofNat (ring (it 246 k) 5) by rw [hU.out])
      have HR := hide (ofNat_toNat (ring U 5) hR)
      have e3 := hide (show times P 3 = it 3 (k + 1) by rw [hP.out, it_succ])
      have e246 := hide (show times U 246 = it 246 (k + 1) by rw [hU.out, it_succ])
      have l3 := times_lt P 3 hP8
      have l246 := times_lt U 246 hU8
      have s1 := fun w => imp_turned U w hU8
      have s2 := fun w => imp_times P 3 w hP8 (by decide)
      have s3 := fun w => imp_times U 246 w hU8 (by decide)
      generalize ring U 5 = R at *
      generalize times P 3 = P3 at *
      generalize times U 246 = U3 at *
      have S := hide (And.intro s1 (And.intro s2 s3))
      clear s1 s2 s3 hsz
      go_wp2_with fail
      refine (S.out.1 _).mono ?_
      rintro e w1 ⟨rfl, rfl⟩
      go_wp2_with fail
      refine (S.out.2.1 _).mono ?_
      rintro e w1 ⟨rfl, rfl⟩
      go_wp2_with fail
      refine (S.out.2.2 _).mono ?_
      rintro e w1 ⟨rfl, rfl⟩
      go_wp2_with fail
      go_roundw
      case rel =>
        refine ⟨k + 1, P3, U3, fun j => if j = P then UInt8.ofNat R else f j, by omega, by go_num, rfl, rfl, e3, e246, l3, l246, fun j hj => ?_, hres.setOther (by simp) _, set_byte hrw HR.out.symm, hbl.setCell (by simp) _⟩
        show (if j = P then UInt8.ofNat R else f j) = if j = it 3 k then _ else tabAt k j
        rw [← hP.out, HV.out, hf.out j hj]
      case measure => simp [intOf]; omega
    · have hrw2 : wr.rowIs (w.heap.size + 1) 96 256 (u8V sbox) := hrw.congr fun i hi => by rw [u8V, u8V, hf.out i hi, show k = 255 by omega, tab_end i hi]
      have hth := row_there (o := 0) (n := 256) hres (by omega)
      have hfin := row_setCells0 (k := sbox) hres
      clear hf hrw
      go_wp2_with (first | (refine wpList_load_B rfl 96 _ rfl (w.heap.size + 1) 0 rfl _ _ 256 _ sbox _ hrw2 (by omega) (fun j _ => by rw [Nat.zero_add]) Tryz.underlying96 rfl hsz ?_) | (refine wpList_store_B rfl 96 _ _ rfl w.heap.size 0 256 sbox rfl rfl hth hsz ?_))
      exact bodyPost_ret (ret_B Tryz.results74 _ _ w.heap.size 256 _ sbox _ rfl hfin Tryz.underlying96 rfl hsz) rfl ⟨rfl, below_setCells' hbl (Nat.le_refl _)⟩
end Go.Proofs.YtconcnndghmdfaaGreatDoor

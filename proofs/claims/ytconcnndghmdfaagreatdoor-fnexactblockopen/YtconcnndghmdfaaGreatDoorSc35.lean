/- Put together: RngQ, RngG, UnpF, BelowI. -/
import Derived.Test.YtconcnndghmdfaaGreatDoorSc34
import Derived.Deep.RegionWith
import Derived.Test.YtconcnndghmdfaaGreatDoorSc16
import Derived.Test.YtconcnndghmdfaaGreatDoorSc9
import Derived.Test.YtconcnndghmdfaaGreatDoorRows
import Derived.WalkKit
import Derived.Below
namespace Go.Proofs.YtconcnndghmdfaaGreatDoor
open Go.RowKit
/-- A coder of the program, by the state that it bears. -/
def CodR (w : World) (base g : Nat) (s : RC) : Prop := CodP w base g s.size s.ch s.low s.n
theorem CodP.keep {w w' : World} {base g size low n : Nat} {ch : Nat → Nat} (h : CodP w base g size ch low n) (hb : ∀ k, k < w.heap.size → w'.heap[k]? = w.heap[k]?) : CodP w' base g size ch low n := by
  obtain ⟨ov, hr, ho, hd⟩ := h
  refine ⟨ov, hr.of_block (hb g hr.lt), ?_, hd⟩
  obtain ⟨a, h1 | ⟨k, cap, cur, rfl, c1, c2, c3⟩⟩ := ho
  · exact ⟨a, .inl h1⟩
  · exact ⟨a, .inr ⟨k, cap, cur, rfl, c1, (hb k (Array.getElem?_eq_some_iff.1 c2).1).trans c2, c3⟩⟩
/-- The range's size, off the block. -/
def size0 (w : World) (g : Nat) : Nat := match w.cell? ⟨g, 0, none⟩ with
  | some (.int _ n) => n.toNat
  | _ => 0
theorem size0_of {w : World} {g x : Nat} (h : w.cell? ⟨g, 0, none⟩ = some (.int .u64 (x : Nat))) : size0 w g = x := by unfold size0; rw [h]; rfl
/-- A coder of the program, its bytes in a block of Mo, or beyond N. -/
def CodK (w : World) (base g N : Nat) (Mo : Nat → Prop) (s : RC) : Prop :=
  ∃ ov, w.rowIs g 112 1603 (cdF s.size s.ch (s.low % 4294967296) ov) ∧ ownB w base ov s.n (byN s.n (s.low / 4294967296)) ∧ ov.ownBlock ≠ some g ∧ ∀ k, ov.ownBlock = some k → Mo k ∨ N ≤ k
/-- Below N all stays but g and Mo's blocks. -/
def FrK (N g : Nat) (Mo : Nat → Prop) (w w' : World) : Prop := w.heap.size ≤ w'.heap.size ∧ ∀ k, k < N → k ≠ g → ¬ Mo k → w'.heap[k]? = w.heap[k]?
theorem FrK.refl (N g : Nat) (Mo : Nat → Prop) (w : World) : FrK N g Mo w w := ⟨Nat.le_refl _, fun _ _ _ _ => rfl⟩
theorem FrK.trans {N g : Nat} {Mo : Nat → Prop} {a b c : World} (h : FrK N g Mo a b) (k : FrK N g Mo b c) : FrK N g Mo a c := ⟨Nat.le_trans h.1 k.1, fun j h1 h2 h3 => (k.2 j h1 h2 h3).trans (h.2 j h1 h2 h3)⟩
theorem FrK.of_below {N g : Nat} {Mo : Nat → Prop} {a b : World} (h : Below a.heap.size a b) (hN : N ≤ a.heap.size) : FrK N g Mo a b := ⟨h.size, fun j h1 _ _ => h.block j (Nat.lt_of_lt_of_le h1 hN)⟩
theorem FrK.of_grown {N g : Nat} {Mo : Nat → Prop} {a b : World} (h : a.grownBy b (some g)) (hN : N ≤ a.heap.size) : FrK N g Mo a b := ⟨h.size, fun j h1 h2 _ => h.block j (Nat.lt_of_lt_of_le h1 hN) (fun e => h2 (by cases e; rfl))⟩
theorem FrK.of_off {N g : Nat} {Mo : Nat → Prop} {a b : World} {ov : Value} (hs : a.heap.size ≤ b.heap.size) (h : ∀ k, k < a.heap.size → k ≠ g → ov.ownBlock ≠ some k → b.heap[k]? = a.heap[k]?) (hN : N ≤ a.heap.size) (hM : ∀ k, ov.ownBlock = some k → Mo k ∨ N ≤ k) : FrK N g Mo a b :=
  ⟨hs, fun j h1 h2 h3 => h j (Nat.lt_of_lt_of_le h1 hN) h2 (fun e => by rcases hM j e with h | h; exact h3 h; omega)⟩
theorem CodK.keep {w w' : World} {base g N : Nat} {Mo : Nat → Prop} {s : RC} (h : CodK w base g N Mo s) (hb : ∀ k, k < w.heap.size → w'.heap[k]? = w.heap[k]?) : CodK w' base g N Mo s := by
  obtain ⟨ov, hr, ho, hd, hm⟩ := h
  refine ⟨ov, hr.of_block (hb g hr.lt), ?_, hd, hm⟩
  obtain ⟨a, h1 | ⟨k, cap, cur, rfl, c1, c2, c3⟩⟩ := ho
  · exact ⟨a, .inl h1⟩
  · exact ⟨a, .inr ⟨k, cap, cur, rfl, c1, (hb k (Array.getElem?_eq_some_iff.1 c2).1).trans c2, c3⟩⟩
set_option maxRecDepth 100000 in
set_option maxHeartbeats 1600000 in
theorem imp_putK (base g c N : Nat) (Mo : Nat → Prop) (one : Bool) (s : RC) (w : World) (hok : RcOk s) (hn : s.n ≤ 90000) (hc : c < 1600) (hbg : base ≤ g) (hcod : CodK w base g N Mo s) (hN : N ≤ w.heap.size) :
    Calls Tryz.prog 85 #[.pointer (some ⟨g, 0, none⟩), .agg #[.int .i64 (c : Int), .bool one]] w fun e w' => e = .returned (.tuple #[]) ∧ CodK w' base g N Mo (step s c one) ∧ Below base w w' ∧ FrK N g Mo w w' := by
  obtain ⟨P, hP⟩ : ∃ P, P = part1 s c one := ⟨_, rfl⟩
  have hpo := part1_ok s c one hok
  rw [← hP] at hpo
  have HPS := hide hP
  have HNOK := hide (norm_ok P hpo.1 hpo.2.1 hpo.2.2.1 (by rw [hpo.2.2.2.2]; exact hpo.2.2.2.1))
  have HPN := hide (show P.n ≤ 100000 ∧ P.size ≤ 4294967295 ∧ 131072 ≤ P.size from ⟨by rw [hpo.2.2.2.2]; omega, hpo.2.1, hpo.1⟩)
  obtain ⟨b1, b2⟩ := bound_in s c hok
  have hlo := hok.lo
  have hhi := hok.hi
  have hch := hok.ch c
  have hfit := hide hok.fit
  obtain ⟨ov, hr, ho, hd1, hMo⟩ := hcod
  obtain ⟨b, hb⟩ : ∃ b, b = bound s c := ⟨_, rfl⟩
  have HB := hide (show s.size / 2048 * s.ch c = b from hb.symm)
  rw [← hb] at b1 b2
  have hgl := hr.lt
  have hvl : ∀ k, ov.ownBlock = some k → k < w.heap.size := fun k hk => (World.ownsRow.lt ho k hk).2
  have R1 := hr.alloc (.cells #[.int .i64 (c : Int), .bool one] 122)
  have O1 : ownB (w.alloc (.cells #[.int .i64 (c : Int), .bool one] 122)) base ov s.n (byN s.n (s.low / 4294967296)) := World.ownsRow.alloc ho _
  have B1 := (Below.refl base w).alloc (show base ≤ w.heap.size by omega) (.cells #[.int .i64 (c : Int), .bool one] 122)
  have e0 : (w.alloc (.cells #[.int .i64 (c : Int), .bool one] 122)).cell? ⟨w.heap.size, 0, none⟩ = some (.int .i64 (c : Int)) := by simp
  have e1 : (w.alloc (.cells #[.int .i64 (c : Int), .bool one] 122)).cell? ⟨w.heap.size, 1, none⟩ = some (.bool one) := by simp
  have hz1 : w.heap.size < (w.alloc (.cells #[.int .i64 (c : Int), .bool one] 122)).heap.size := by simp
  have HV := hide hvl
  have HMO := hide hMo
  have F1 := hide (show FrK N g Mo w (w.alloc (.cells #[.int .i64 (c : Int), .bool one] 122)) from FrK.of_below ((Below.refl _ w).alloc (Nat.le_refl _) _) hN)
  have hN1 : N ≤ (w.alloc (.cells #[.int .i64 (c : Int), .bool one] 122)).heap.size := by simp; omega
  clear hMo hvl hr ho hb hpo hP
  go_enter Tryz.func85, Tryz.ntmps85
  go_wp2_with fail
  generalize w.alloc (.cells #[.int .i64 (c : Int), .bool one] 122) = W1 at *
  have hz : g ≠ w.heap.size := by omega
  generalize w.heap.size = z at *
  have SB := hide (show ∀ n, Calls Tryz.prog 116 #[.pointer (some ⟨g, 0, none⟩), .int .i64 (c : Int)] (W1.drewN n) fun e w' => e = .returned (.int .u64 (b : Int)) ∧ ∃ m, w' = (W1.drewN n).drewN m by
    intro n
    have h := imp_bound g 112 s.size (s.low % 4294967296) c s.ch ov (W1.drewN n) hhi hc (by omega) R1
    rw [HB.out] at h; exact h)
  go_quiet ((go_at_call 116; refine Calls.quiet_of (SB.out _)))
  have R2 : (W1.drewN nq).rowIs g 112 1603 (cdF s.size s.ch (s.low % 4294967296) ov) := R1
  have O2 : ownB (W1.drewN nq) base ov s.n (byN s.n (s.low / 4294967296)) := O1
  have B2 : Below base w (W1.drewN nq) := B1.trans ⟨rfl, rfl, rfl, Nat.le_refl _, fun _ _ => rfl⟩
  have e0' : (W1.drewN nq).cell? ⟨z, 0, none⟩ = some (.int .i64 (c : Int)) := e0
  have e1' : (W1.drewN nq).cell? ⟨z, 1, none⟩ = some (.bool one) := e1
  have hz2 : z < (W1.drewN nq).heap.size := hz1
  have F2 := hide (show FrK N g Mo w (W1.drewN nq) from F1.out)
  have hN2 : N ≤ (W1.drewN nq).heap.size := hN1
  generalize W1.drewN nq = W2 at *
  clear F1 hN1
  clear R1 O1 B1 e0 e1 SB hz1
  cases one with
  | true =>
    have SA := hide (imp_addK base g s.size s.low s.n b s.ch W2 (by omega) (by omega) (by have := hfit.out; omega) hbg ov R2 O2 hd1)
    clear R2 O2
    go_wp2_with fail
    refine SA.out.mono ?_
    rintro e W3 ⟨rfl, C3, B3, K3⟩
    have hk := K3 z hz2 (fun e => hz e.symm) (fun e => absurd (HV.out z e) (by omega))
    have e0 : W3.cell? ⟨z, 0, none⟩ = some (.int .i64 (c : Int)) := (World.cell?_of_block hk).trans e0'
    have e1 : W3.cell? ⟨z, 1, none⟩ = some (.bool true) := (World.cell?_of_block hk).trans e1'
    have B4 := B2.trans B3
    obtain ⟨r3, o3⟩ := C3
    have d3 := hd1
    have F3 := hide (F2.out.trans (FrK.of_off B3.size K3 hN2 HMO.out))
    have hN3 : N ≤ W3.heap.size := by have := B3.size; omega
    have HPE := hide (show P = ⟨s.size - b, setCh s.ch c (chOne (s.ch c)), s.low + b, s.n⟩ by rw [HPS.out, ← HB.out]; rfl)
    clear SA K3 hk e0' e1' B2 B3
    go_wp2_with fail
    go_region_with ((go_at_call 118; refine (imp_narrow g 112 s.size ((s.low + b) % 4294967296) c b true s.ch _ W3.drew hhi (by omega) hc (by omega) r3.drew).mono ?_; rintro e w9 ⟨rfl, r9, g9⟩))
    have HCOD := hide (show CodK w9 base g N Mo P by
      rw [HPE.out]
      refine ⟨_, ?_, World.ownsRow.kept (World.ownsRow.drew o3) g9 (.inr d3), d3, HMO.out⟩
      exact r9)
    have HFR := hide (show FrK N g Mo w w9 from F3.out.trans (FrK.of_grown (a := W3.drew) g9 hN3))
    have hN9 : N ≤ w9.heap.size := by have := g9.size; exact Nat.le_trans hN3 this
    have HBEL := hide (B4.drew.trans (grownBy_below g9 hbg (show base ≤ W3.heap.size by have := r3.lt; omega)))

    clear r9 g9 r3 o3 B4 e0 e1
    go_wp2_with fail
    go_loopw [22] (fun _ wx => ∃ t : RC, Hid (t = P ∨ (t = norm P ∧ P.size < 16777216)) ∧ Hid (CodK wx base g N Mo t) ∧ Hid (Below base w wx) ∧ Hid (FrK N g Mo w wx) ∧ N ≤ wx.heap.size) (fun _ wx => if size0 wx g < 16777216 then 1 else 0)
    case atStart => exact ⟨P, .inl rfl, HCOD, HBEL, HFR, hN9⟩
    case round =>
      clear HCOD HBEL HFR hN9
      obtain ⟨t, ht, hcod, hbel, hfr, hNr⟩ := hrel
      obtain ⟨ov, hr, ho, hd, hmo⟩ := hcod.out
      have HMO2 := hide hmo
      clear hmo
      have hsw := hide (size0_of (cd_cells hr).1)
      by_cases hsz : t.size < 16777216
      · have htP : t = P := by
          rcases ht.out with h | ⟨h, h2⟩
          · exact h
          · rw [h] at hsz; exact absurd hsz (by have := HNOK.out.lo; omega)
        have SW := hide (imp_widen_yes g 112 t.size (t.low % 4294967296) t.ch ov wr hsz hr)
        have HO := hide ho
        have HT := hide htP
        have hgl := hr.lt
        clear hr ho htP hcod
        go_wp2_with fail
        refine SW.out.mono ?_
        rintro e w1 ⟨rfl, r1, g1⟩
        have SS := hide (imp_shiftK base g (256 * t.size) t.low t.n t.ch ov w1 (by rw [HT.out]; exact HPN.out.1) hbg r1 (HO.out.kept g1 (.inr hd)) hd)
        have hN1 : N ≤ w1.heap.size := by have := g1.size; omega
        have FR1 := hide (hfr.out.trans (FrK.of_grown g1 hNr))
        have hb1 := hide (hbel.out.trans (grownBy_below g1 hbg (by omega)))
        clear r1 g1 SW hbel
        go_wp2_with fail
        refine SS.out.mono ?_
        rintro e w2 ⟨rfl, C2, hb2, K2⟩
        have hb3 := hide (hb1.out.trans hb2)
        have hC3 := hide (show CodK w2 base g N Mo (norm P) by
          rw [norm, if_pos (by rw [← HT.out]; exact hsz), ← HT.out]
          obtain ⟨o3, r3, p3, q3, s3⟩ := C2
          exact ⟨o3, r3, p3, q3, fun k hk => by rcases s3 k hk with h | h; exact HMO2.out k h; exact .inr (by omega)⟩)
        have hF3 := hide (FR1.out.trans (FrK.of_off hb2.size K2 hN1 HMO2.out))
        have hN2' : N ≤ w2.heap.size := by have := hb2.size; omega
        have hs3 := hide (show size0 w2 g = 256 * t.size by obtain ⟨o3, r3, _⟩ := C2; exact size0_of (cd_cells r3).1)
        clear C2 hb2 hb1 SS K2 FR1 hfr
        go_wp2_with fail
        go_roundw
        case rel => exact ⟨norm P, .inr ⟨rfl, by rw [← HT.out]; exact hsz⟩, hC3, hb3, hF3, hN2'⟩
        case measure =>
          rw [hs3.out, hsw.out, if_pos hsz, if_neg (by have h := HNOK.out.lo; rw [norm, if_pos (by rw [← HT.out]; exact hsz)] at h; have h' : 16777216 ≤ 256 * P.size := h; rw [← HT.out] at h'; omega)]
          omega
      · have htS := hide (show t = norm P by
          rcases ht.out with h | ⟨h, _⟩
          · rw [norm, if_neg (by rw [← h]; exact hsz), h]
          · exact h)
        have SW := hide (imp_widen_no g 112 t.size (t.low % 4294967296) t.ch ov wr hsz hr)
        clear hr ho
        go_wp2_with fail
        refine SW.out.mono ?_
        rintro e w1 ⟨rfl, rfl⟩
        go_wp2_with fail
        go_end0
        exact ⟨rfl, by show CodK _ base g N Mo (norm (part1 s c _)); rw [← HPS.out, ← htS.out]; exact hcod.out, hbel.out, hfr.out⟩
  | false =>
    have HPE := hide (show P = ⟨b, setCh s.ch c (chNot (s.ch c)), s.low, s.n⟩ by rw [HPS.out, ← HB.out]; rfl)
    go_wp2_with fail
    go_region_with ((go_at_call 118; refine (imp_narrow g 112 s.size (s.low % 4294967296) c b false s.ch _ W2.drew hhi (by omega) hc (by omega) R2.drew).mono ?_; rintro e w9 ⟨rfl, r9, g9⟩))
    have HCOD := hide (show CodK w9 base g N Mo P by
      rw [HPE.out]
      refine ⟨_, ?_, World.ownsRow.kept (World.ownsRow.drew O2) g9 (.inr hd1), hd1, HMO.out⟩
      exact r9)
    have HFR := hide (show FrK N g Mo w w9 from F2.out.trans (FrK.of_grown (a := W2.drew) g9 hN2))
    have hN9 : N ≤ w9.heap.size := by have := g9.size; exact Nat.le_trans hN2 this
    have HBEL := hide (B2.drew.trans (grownBy_below g9 hbg (show base ≤ W2.heap.size by have := R2.lt; omega)))

    clear r9 g9 R2 O2 B2 e0' e1'
    go_wp2_with fail
    go_loopw [22] (fun _ wx => ∃ t : RC, Hid (t = P ∨ (t = norm P ∧ P.size < 16777216)) ∧ Hid (CodK wx base g N Mo t) ∧ Hid (Below base w wx) ∧ Hid (FrK N g Mo w wx) ∧ N ≤ wx.heap.size) (fun _ wx => if size0 wx g < 16777216 then 1 else 0)
    case atStart => exact ⟨P, .inl rfl, HCOD, HBEL, HFR, hN9⟩
    case round =>
      clear HCOD HBEL HFR hN9
      obtain ⟨t, ht, hcod, hbel, hfr, hNr⟩ := hrel
      obtain ⟨ov, hr, ho, hd, hmo⟩ := hcod.out
      have HMO2 := hide hmo
      clear hmo
      have hsw := hide (size0_of (cd_cells hr).1)
      by_cases hsz : t.size < 16777216
      · have htP : t = P := by
          rcases ht.out with h | ⟨h, h2⟩
          · exact h
          · rw [h] at hsz; exact absurd hsz (by have := HNOK.out.lo; omega)
        have SW := hide (imp_widen_yes g 112 t.size (t.low % 4294967296) t.ch ov wr hsz hr)
        have HO := hide ho
        have HT := hide htP
        have hgl := hr.lt
        clear hr ho htP hcod
        go_wp2_with fail
        refine SW.out.mono ?_
        rintro e w1 ⟨rfl, r1, g1⟩
        have SS := hide (imp_shiftK base g (256 * t.size) t.low t.n t.ch ov w1 (by rw [HT.out]; exact HPN.out.1) hbg r1 (HO.out.kept g1 (.inr hd)) hd)
        have hN1 : N ≤ w1.heap.size := by have := g1.size; omega
        have FR1 := hide (hfr.out.trans (FrK.of_grown g1 hNr))
        have hb1 := hide (hbel.out.trans (grownBy_below g1 hbg (by omega)))
        clear r1 g1 SW hbel
        go_wp2_with fail
        refine SS.out.mono ?_
        rintro e w2 ⟨rfl, C2, hb2, K2⟩
        have hb3 := hide (hb1.out.trans hb2)
        have hC3 := hide (show CodK w2 base g N Mo (norm P) by
          rw [norm, if_pos (by rw [← HT.out]; exact hsz), ← HT.out]
          obtain ⟨o3, r3, p3, q3, s3⟩ := C2
          exact ⟨o3, r3, p3, q3, fun k hk => by rcases s3 k hk with h | h; exact HMO2.out k h; exact .inr (by omega)⟩)
        have hF3 := hide (FR1.out.trans (FrK.of_off hb2.size K2 hN1 HMO2.out))
        have hN2' : N ≤ w2.heap.size := by have := hb2.size; omega
        have hs3 := hide (show size0 w2 g = 256 * t.size by obtain ⟨o3, r3, _⟩ := C2; exact size0_of (cd_cells r3).1)
        clear C2 hb2 hb1 SS K2 FR1 hfr
        go_wp2_with fail
        go_roundw
        case rel => exact ⟨norm P, .inr ⟨rfl, by rw [← HT.out]; exact hsz⟩, hC3, hb3, hF3, hN2'⟩
        case measure =>
          rw [hs3.out, hsw.out, if_pos hsz, if_neg (by have h := HNOK.out.lo; rw [norm, if_pos (by rw [← HT.out]; exact hsz)] at h; have h' : 16777216 ≤ 256 * P.size := h; rw [← HT.out] at h'; omega)]
          omega
      · have htS := hide (show t = norm P by
          rcases ht.out with h | ⟨h, _⟩
          · rw [norm, if_neg (by rw [← h]; exact hsz), h]
          · exact h)
        have SW := hide (imp_widen_no g 112 t.size (t.low % 4294967296) t.ch ov wr hsz hr)
        clear hr ho
        go_wp2_with fail
        refine SW.out.mono ?_
        rintro e w1 ⟨rfl, rfl⟩
        go_wp2_with fail
        go_end0
        exact ⟨rfl, by show CodK _ base g N Mo (norm (part1 s c _)); rw [← HPS.out, ← htS.out]; exact hcod.out, hbel.out, hfr.out⟩

theorem imp_put (base g c : Nat) (one : Bool) (s : RC) (w : World) (hok : RcOk s) (hn : s.n ≤ 90000) (hc : c < 1600) (hbg : base ≤ g) (hcod : CodR w base g s) :
    Calls Tryz.prog 85 #[.pointer (some ⟨g, 0, none⟩), .agg #[.int .i64 (c : Int), .bool one]] w fun e w' => e = .returned (.tuple #[]) ∧ CodR w' base g (step s c one) ∧ Below base w w' := by
  obtain ⟨ov, hr, ho, hd⟩ := hcod
  exact (imp_putK base g c 0 (fun _ => False) one s w hok hn hc hbg ⟨ov, hr, ho, hd, fun _ _ => .inr (Nat.zero_le _)⟩ (Nat.zero_le _)).mono fun e w' ⟨h1, ⟨ov', h2, h3, h4, _⟩, h6, _⟩ => ⟨h1, ⟨ov', h2, h3, h4⟩, h6⟩
end Go.Proofs.YtconcnndghmdfaaGreatDoor
namespace Go.Proofs.YtconcnndghmdfaaGreatDoor
open Go.RowKit
set_option maxRecDepth 100000 in
set_option maxHeartbeats 1600000 in
theorem imp_get (g c x : Nat) (t : ByteArray) (s : RC) (w : World) (hok : RcOk s) (hc : c < 1600) (hx : x < 18446744073709551616) (hts : t.size ≤ 9223372036854775807) (hdec : DecP w g t s x) :
    Calls Tryz.prog 162 #[.pointer (some ⟨g, 0, none⟩), .int .i64 (c : Int)] w fun e w' => e = .returned (.bool (dbit s x c)) ∧ DecP w' g t (step s c (dbit s x c)) (dx (tbN t) s x c) ∧ w.grownBy w' (some g) := by
  obtain ⟨P, hP⟩ : ∃ P, P = part1 s c (dbit s x c) := ⟨_, rfl⟩
  have hpo := part1_ok s c (dbit s x c) hok
  rw [← hP] at hpo
  have HPS := hide hP
  have HNOK := hide (norm_ok P hpo.1 hpo.2.1 hpo.2.2.1 (by rw [hpo.2.2.2.2]; exact hpo.2.2.2.1))
  have HPN := hide (show P.n = s.n from hpo.2.2.2.2)
  obtain ⟨b1, b2⟩ := bound_in s c hok
  have hhi := hok.hi
  have hch := hok.ch c
  obtain ⟨b, hb⟩ : ∃ b, b = bound s c := ⟨_, rfl⟩
  have HB := hide (show s.size / 2048 * s.ch c = b from hb.symm)
  have HB2 := hide hb
  rw [← hb] at b1 b2
  have hr : w.rowIs g 199 1603 (cdF s.size s.ch x (.string (restOf t (s.n + 4)))) := hdec
  obtain ⟨V, hV⟩ : ∃ V, V = Value.string (restOf t (s.n + 4)) := ⟨_, rfl⟩
  rw [← hV] at hr
  have HV := hide hV
  have SB := hide (imp_bound g 199 s.size x c s.ch V w hhi hc (by omega) hr)
  rw [HB.out] at SB
  obtain ⟨x1, hx1⟩ : ∃ x1, x1 = dx1 s x c := ⟨_, rfl⟩
  have HX1E := hide hx1
  have hx1lt : x1 < 18446744073709551616 := by rw [hx1]; unfold dx1; split <;> omega
  by_cases hbx : b ≤ x
  · have hbx' : (b : Int) ≤ (x : Int) := by omega
    have HBIT := hide (show dbit s x c = true by unfold dbit; rw [← hb]; exact decide_eq_true hbx)
    have hx1' : x1 = x - b := by rw [hx1, dx1, ← hb, if_pos hbx]
    have kx : (x : Int) - (b : Int) = (x1 : Int) := by omega
    have kx2 : IntKind.u64.wrap ((x : Int) - (b : Int)) = (x1 : Int) := by rw [IntKind.wrap_u64]; omega
    have HPE := hide (show P = ⟨s.size - b, setCh s.ch c (chOne (s.ch c)), s.low + b, s.n⟩ by rw [HPS.out, HBIT.out, hb]; rfl)
    have HR := hide hr
    clear hP hpo hb hdec hV hx1 hx1' hr
    go_enter Tryz.func162, Tryz.ntmps162
    go_wp2_with fail
    refine SB.out.mono ?_
    rintro e w1 ⟨rfl, m, hw1⟩
    have R1 : w1.rowIs g 199 1603 (cdF s.size s.ch x V) := by rw [hw1]; exact HR.out
    have G1 : w.grownBy w1 (some g) := by rw [hw1]; exact ⟨rfl, rfl, rfl, Nat.le_refl _, fun _ _ _ => rfl⟩
    obtain ⟨_, c1, _, _⟩ := cd_cells R1
    have f1 := R1.frozen 1601
    have R2 := (cd_set R1).2.1 x1
    have G2 := grownBy_set (i := 1601) G1 (.int .u64 (x1 : Int))
    have SN := hide (imp_narrow g 199 s.size x1 c b true s.ch V (w1.setCell ⟨g, 1601, none⟩ (.int .u64 (x1 : Int))) hhi (by omega) hc (by omega) R2)
    have HG := hide G2
    clear hw1 R1 G1 SB R2 G2 HR
    go_wp2_with fail
    refine SN.out.mono ?_
    rintro e w3 ⟨rfl, r3, g3⟩
    have HROW := hide (show w3.rowIs g 199 1603 (cdF P.size P.ch x1 (.string (restOf t (P.n + 4)))) by rw [HPE.out, ← HV.out]; exact r3)
    have HBEL := hide (grownBy_trans HG.out g3)
    clear r3 g3 SN HG c1 f1 kx kx2
    have HPE2 := hide (show P = part1 s c true by rw [HPS.out, HBIT.out])
    go_wp2_with fail
    go_loopw [35] (fun _ wx => ∃ (u : RC) (y : Nat), Hid ((u = P ∧ y = x1) ∨ (u = norm P ∧ P.size < 16777216 ∧ y = (256 * x1 + tbN t (s.n + 4)) % 18446744073709551616)) ∧ Hid (DecP wx g t u y) ∧ Hid (w.grownBy wx (some g))) (fun _ wx => if size0 wx g < 16777216 then 1 else 0)
    case atStart => exact ⟨P, x1, .inl ⟨rfl, rfl⟩, HROW, HBEL⟩
    case round =>
      clear HROW HBEL
      obtain ⟨u, y, hu, hrow, hbel⟩ := hrel
      have hr : wr.rowIs g 199 1603 (cdF u.size u.ch y (.string (restOf t (u.n + 4)))) := hrow.out
      have hsw := hide (size0_of (cd_cells hr).1)
      by_cases hsz : u.size < 16777216
      · have huP : u = P ∧ y = x1 := by
          rcases hu.out with h | ⟨h, h2, _⟩
          · exact h
          · rw [h] at hsz; exact absurd hsz (by have := HNOK.out.lo; omega)
        have SW := hide (imp_widen_yes g 199 u.size y u.ch _ wr hsz hr)
        have HT := hide huP
        clear hr huP hrow hu
        go_wp2_with fail
        refine SW.out.mono ?_
        rintro e w1 ⟨rfl, r1, g1⟩
        have ST := hide (imp_take g (256 * u.size) y (u.n + 4) u.ch t w1 hts r1)
        have hb1 := hide (grownBy_trans hbel.out g1)
        clear r1 g1 SW hbel
        go_wp2_with fail
        refine ST.out.mono ?_
        rintro e w2 ⟨rfl, r2, g2⟩
        have hb3 := hide (grownBy_trans hb1.out g2)
        have hs3 := hide (size0_of (cd_cells r2).1)
        have hC3 := hide (show DecP w2 g t (norm P) ((256 * x1 + tbN t (s.n + 4)) % 18446744073709551616) by
          have h := HT.out
          rw [norm, if_pos (by rw [← h.1]; exact hsz), ← HPN.out, ← h.1, ← h.2]; exact r2)
        clear r2 g2 hb1 ST
        go_wp2_with fail
        go_roundw
        case rel => exact ⟨norm P, _, .inr ⟨rfl, by rw [← HT.out.1]; exact hsz, rfl⟩, hC3, hb3⟩
        case measure =>
          rw [hs3.out, hsw.out, if_pos hsz, if_neg (by have h := HNOK.out.lo; rw [norm, if_pos (by rw [← HT.out.1]; exact hsz)] at h; have h' : 16777216 ≤ 256 * P.size := h; rw [← HT.out.1] at h'; omega)]
          omega
      · have hfin := hide (show DecP wr g t (norm P) (if P.size < 16777216 then (256 * x1 + tbN t (s.n + 4)) % 18446744073709551616 else x1) by
          have h0 := hrow.out
          rcases hu.out with ⟨h1, h2⟩ | ⟨h1, h2, h3⟩
          · rw [norm, if_neg (by rw [← h1]; exact hsz), if_neg (by rw [← h1]; exact hsz), ← h1, ← h2]; exact h0
          · rw [if_pos h2, ← h1, ← h3]; exact h0)
        have SW := hide (imp_widen_no g 199 u.size y u.ch _ wr hsz hr)
        clear hr hu hrow
        go_wp2_with fail
        refine SW.out.mono ?_
        rintro e w1 ⟨rfl, rfl⟩
        go_wp2_with fail
        go_ret
        exact ⟨by rw [HBIT.out]; rfl, by rw [HBIT.out]; show DecP _ g t (norm (part1 s c _)) (dx (tbN t) s x c); rw [dx, HBIT.out, ← HPE2.out, ← HX1E.out]; exact hfin.out, hbel.out⟩
  · have hbx' : ¬ (b : Int) ≤ (x : Int) := by omega
    have HBIT := hide (show dbit s x c = false by unfold dbit; rw [← hb]; exact decide_eq_false hbx)
    have hx1' : x1 = x := by rw [hx1, dx1, ← hb, if_neg hbx]
    have HPE := hide (show P = ⟨b, setCh s.ch c (chNot (s.ch c)), s.low, s.n⟩ by rw [HPS.out, HBIT.out, hb]; rfl)
    have HX1 := hide hx1'
    have HR := hide hr
    clear hP hpo hb hdec hV hx1 hx1' hr
    go_enter Tryz.func162, Tryz.ntmps162
    go_wp2_with fail
    refine SB.out.mono ?_
    rintro e w1 ⟨rfl, m, hw1⟩
    have R1 : w1.rowIs g 199 1603 (cdF s.size s.ch x V) := by rw [hw1]; exact HR.out
    have G1 : w.grownBy w1 (some g) := by rw [hw1]; exact ⟨rfl, rfl, rfl, Nat.le_refl _, fun _ _ _ => rfl⟩
    obtain ⟨_, c1, _, _⟩ := cd_cells R1
    have SN := hide (imp_narrow g 199 s.size x c b false s.ch V w1 hhi (by omega) hc (by omega) R1)
    have HG := hide G1
    clear hw1 R1 G1 SB HR
    go_wp2_with fail
    refine SN.out.mono ?_
    rintro e w3 ⟨rfl, r3, g3⟩
    have HROW := hide (show w3.rowIs g 199 1603 (cdF P.size P.ch x1 (.string (restOf t (P.n + 4)))) by rw [HPE.out, ← HV.out, HX1.out]; exact r3)
    have HBEL := hide (grownBy_trans HG.out g3)
    clear r3 g3 SN HG c1
    have HPE2 := hide (show P = part1 s c false by rw [HPS.out, HBIT.out])
    go_wp2_with fail
    go_loopw [35] (fun _ wx => ∃ (u : RC) (y : Nat), Hid ((u = P ∧ y = x1) ∨ (u = norm P ∧ P.size < 16777216 ∧ y = (256 * x1 + tbN t (s.n + 4)) % 18446744073709551616)) ∧ Hid (DecP wx g t u y) ∧ Hid (w.grownBy wx (some g))) (fun _ wx => if size0 wx g < 16777216 then 1 else 0)
    case atStart => exact ⟨P, x1, .inl ⟨rfl, rfl⟩, HROW, HBEL⟩
    case round =>
      clear HROW HBEL
      obtain ⟨u, y, hu, hrow, hbel⟩ := hrel
      have hr : wr.rowIs g 199 1603 (cdF u.size u.ch y (.string (restOf t (u.n + 4)))) := hrow.out
      have hsw := hide (size0_of (cd_cells hr).1)
      by_cases hsz : u.size < 16777216
      · have huP : u = P ∧ y = x1 := by
          rcases hu.out with h | ⟨h, h2, _⟩
          · exact h
          · rw [h] at hsz; exact absurd hsz (by have := HNOK.out.lo; omega)
        have SW := hide (imp_widen_yes g 199 u.size y u.ch _ wr hsz hr)
        have HT := hide huP
        clear hr huP hrow hu
        go_wp2_with fail
        refine SW.out.mono ?_
        rintro e w1 ⟨rfl, r1, g1⟩
        have ST := hide (imp_take g (256 * u.size) y (u.n + 4) u.ch t w1 hts r1)
        have hb1 := hide (grownBy_trans hbel.out g1)
        clear r1 g1 SW hbel
        go_wp2_with fail
        refine ST.out.mono ?_
        rintro e w2 ⟨rfl, r2, g2⟩
        have hb3 := hide (grownBy_trans hb1.out g2)
        have hs3 := hide (size0_of (cd_cells r2).1)
        have hC3 := hide (show DecP w2 g t (norm P) ((256 * x1 + tbN t (s.n + 4)) % 18446744073709551616) by
          have h := HT.out
          rw [norm, if_pos (by rw [← h.1]; exact hsz), ← HPN.out, ← h.1, ← h.2]; exact r2)
        clear r2 g2 hb1 ST
        go_wp2_with fail
        go_roundw
        case rel => exact ⟨norm P, _, .inr ⟨rfl, by rw [← HT.out.1]; exact hsz, rfl⟩, hC3, hb3⟩
        case measure =>
          rw [hs3.out, hsw.out, if_pos hsz, if_neg (by have h := HNOK.out.lo; rw [norm, if_pos (by rw [← HT.out.1]; exact hsz)] at h; have h' : 16777216 ≤ 256 * P.size := h; rw [← HT.out.1] at h'; omega)]
          omega
      · have hfin := hide (show DecP wr g t (norm P) (if P.size < 16777216 then (256 * x1 + tbN t (s.n + 4)) % 18446744073709551616 else x1) by
          have h0 := hrow.out
          rcases hu.out with ⟨h1, h2⟩ | ⟨h1, h2, h3⟩
          · rw [norm, if_neg (by rw [← h1]; exact hsz), if_neg (by rw [← h1]; exact hsz), ← h1, ← h2]; exact h0
          · rw [if_pos h2, ← h1, ← h3]; exact h0)
        have SW := hide (imp_widen_no g 199 u.size y u.ch _ wr hsz hr)
        clear hr hu hrow
        go_wp2_with fail
        refine SW.out.mono ?_
        rintro e w1 ⟨rfl, rfl⟩
        go_wp2_with fail
        go_ret
        exact ⟨by rw [HBIT.out]; rfl, by rw [HBIT.out]; show DecP _ g t (norm (part1 s c _)) (dx (tbN t) s x c); rw [dx, HBIT.out, ← HPE2.out, ← HX1E.out]; exact hfin.out, hbel.out⟩
end Go.Proofs.YtconcnndghmdfaaGreatDoor
namespace Go.Proofs.YtconcnndghmdfaaGreatDoor
/-- A token, read: it, and the decoder behind it. -/
def dtok (tb : Nat → Nat) (st : RC × Nat) : Tok × (RC × Nat) :=
  if dbit st.1 st.2 0 = true then (⟨0, (((readG tb 300 6 (dnext tb st 0) 1).2 - 64 + 3 : Nat) : Int), (((readG tb 400 10 (readG tb 300 6 (dnext tb st 0) 1).1 1).2 - 1024 + 1 : Nat) : Int)⟩, (readG tb 400 10 (readG tb 300 6 (dnext tb st 0) 1).1 1).1)
  else (⟨(((readG tb 16 8 (dnext tb st 0) 1).2 - 256 : Nat) : Int), 0, 0⟩, (readG tb 16 8 (dnext tb st 0) 1).1)
/-- How many bytes a token makes. -/
def tsz (x : Tok) : Nat := (tokSize x.m).toNat
/-- The tokens, till so many bytes are made. -/
def dtoks (tb : Nat → Nat) (size : Nat) : Nat → RC × Nat → Nat → List Tok
  | 0, _, _ => []
  | k + 1, st, made => if made < size then (dtok tb st).1 :: dtoks tb size k (dtok tb st).2 (made + tsz (dtok tb st).1) else []
/-- What a token makes, behind what is there. -/
def growT (x : Tok) (b : List UInt8) : Option (List UInt8) :=
  if x.m = 0 then some (b ++ [UInt8.ofNat x.b.toNat]) else if b.length < x.f.toNat then none else some (copyN x.f.toNat x.m.toNat b)
def growL : List Tok → List UInt8 → Option (List UInt8)
  | [], b => some b
  | x :: l, b => (growT x b).bind (growL l)
theorem growL_app : ∀ l k b, growL (l ++ k) b = (growL l b).bind (growL k)
  | [], _, _ => rfl
  | x :: l, k, b => by
    show (growT x b).bind (growL (l ++ k)) = ((growT x b).bind (growL l)).bind (growL k)
    cases growT x b with
    | none => rfl
    | some c => exact growL_app l k c
/-- A token that is read: a byte, or a match. -/
theorem dtok_two (tb : Nat → Nat) (st : RC × Nat) : (∃ y : Nat, y < 256 ∧ (dtok tb st).1 = ⟨(y : Int), 0, 0⟩) ∨ ∃ M F : Nat, 3 ≤ M ∧ M ≤ 66 ∧ 1 ≤ F ∧ F ≤ 1024 ∧ (dtok tb st).1 = ⟨0, (M : Int), (F : Int)⟩ := by
  unfold dtok
  split
  · have h1 := (readG_node tb 300 6 (dnext tb st 0) 1).2
    have h2 := (readG_node tb 400 10 (readG tb 300 6 (dnext tb st 0) 1).1 1).2
    have e1 : (1 + 1) * 2 ^ 6 = 128 := rfl
    have e2 : (1 + 1) * 2 ^ 10 = 2048 := rfl
    exact .inr ⟨_, _, by omega, by omega, by omega, by omega, rfl⟩
  · have h1 := (readG_node tb 16 8 (dnext tb st 0) 1).2
    have e1 : (1 + 1) * 2 ^ 8 = 512 := rfl
    exact .inl ⟨_, by omega, rfl⟩
theorem tsz_byte (y : Int) : tsz ⟨y, 0, 0⟩ = 1 := rfl
theorem tsz_match (M F : Nat) (h : 3 ≤ M) : tsz ⟨0, (M : Int), (F : Int)⟩ = M := by
  show (tokSize (M : Int)).toNat = M
  unfold tokSize
  rw [if_neg (by omega)]; omega
theorem growT_byte (y : Nat) (b : List UInt8) : growT ⟨(y : Int), 0, 0⟩ b = some (b ++ [UInt8.ofNat y]) := rfl
theorem growT_match (M F : Nat) (b : List UInt8) (h : 3 ≤ M) : growT ⟨0, (M : Int), (F : Int)⟩ b = if b.length < F then none else some (copyN F M b) := by
  show (if (M : Int) = 0 then _ else if b.length < ((F : Int)).toNat then none else some (copyN ((F : Int)).toNat ((M : Int)).toNat b)) = _
  rw [if_neg (by omega), Int.toNat_natCast, Int.toNat_natCast]
theorem tsz_pos (tb : Nat → Nat) (st : RC × Nat) : 1 ≤ tsz (dtok tb st).1 ∧ tsz (dtok tb st).1 ≤ 66 := by
  rcases dtok_two tb st with ⟨y, _, e⟩ | ⟨M, F, h1, h2, _, _, e⟩
  · rw [e, tsz_byte]; omega
  · rw [e, tsz_match M F h1]; omega
theorem growT_len (tb : Nat → Nat) (st : RC × Nat) (b c : List UInt8) (h : growT (dtok tb st).1 b = some c) : c.length = b.length + tsz (dtok tb st).1 := by
  rcases dtok_two tb st with ⟨y, _, e⟩ | ⟨M, F, h1, h2, _, _, e⟩
  · rw [e, growT_byte] at h
    rw [e, tsz_byte, ← Option.some.inj h, List.length_append]; rfl
  · rw [e, growT_match M F b h1] at h
    split at h
    · cases h
    · rw [e, tsz_match M F h1, ← Option.some.inj h, copyN_len]
/-- All that comes out is what the tokens make. -/
theorem unpack_toks (tb : Nat → Nat) (many : Nat) : ∀ k st b, unpackG tb many k st b = growL (dtoks tb many k st b.length) b
  | 0, _, _ => rfl
  | k + 1, st, b => by
    unfold unpackG dtoks
    by_cases hlt : b.length < many
    · rw [if_pos hlt, if_pos hlt]
      show _ = (growT (dtok tb st).1 b).bind (growL (dtoks tb many k (dtok tb st).2 (b.length + tsz (dtok tb st).1)))
      cases hg : growT (dtok tb st).1 b with
      | none =>
        show _ = none
        by_cases hd : dbit st.1 st.2 0 = true
        · rw [if_pos hd]
          unfold dtok at hg
          rw [if_pos hd] at hg
          rw [growT_match _ _ b (by omega)] at hg
          split at hg
          · rename_i h; rw [if_pos h]
          · cases hg
        · unfold dtok at hg
          rw [if_neg hd] at hg
          rw [growT_byte] at hg; cases hg
      | some c =>
        show _ = growL (dtoks tb many k (dtok tb st).2 (b.length + tsz (dtok tb st).1)) c
        rw [← growT_len tb st b c hg, ← unpack_toks tb many k (dtok tb st).2 c]
        by_cases hd : dbit st.1 st.2 0 = true
        · rw [if_pos hd]
          unfold dtok at hg ⊢
          rw [if_pos hd] at hg ⊢
          rw [growT_match _ _ b (by omega)] at hg
          split at hg
          · cases hg
          · rename_i h
            rw [if_neg h, Option.some.inj hg]
        · rw [if_neg hd]
          unfold dtok at hg ⊢
          rw [if_neg hd] at hg ⊢
          rw [growT_byte] at hg
          rw [Option.some.inj hg]
    · rw [if_neg hlt, if_neg hlt]; rfl
theorem dtok_ok (tb : Nat → Nat) (st : RC × Nat) (m : Nat) (h : DecOk st m) : DecOk (dtok tb st).2 (m + 17) := by
  have h1 := DecOk.next tb st 0 m h
  unfold dtok
  split
  · have h2 := readG_ok tb 300 6 (dnext tb st 0) 1 _ h1
    exact readG_ok tb 400 10 _ 1 _ h2
  · have h2 := readG_ok tb 16 8 (dnext tb st 0) 1 _ h1
    exact ⟨h2.ok, h2.x, Nat.le_trans h2.n (by omega)⟩
end Go.Proofs.YtconcnndghmdfaaGreatDoor
namespace Go.Proofs.YtconcnndghmdfaaGreatDoor
open Go.RowKit
set_option maxRecDepth 100000 in
set_option maxHeartbeats 400000 in
theorem imp_below (node : Nat) (one : Bool) (w : World) (h : node < 100000) :
    Calls Tryz.prog 120 #[.int .i64 (node : Int), .bool one] w fun e w' => e = .returned (.int .i64 ((2 * node + bN one : Nat) : Int)) ∧ w = w' := by
  cases one with
  | true =>
    have e : ((2 * node + bN true : Nat) : Int) = 2 * (node : Int) + 1 := by show ((2 * node + 1 : Nat) : Int) = _; omega
    rw [e]
    go_enter Tryz.func120, Tryz.ntmps120
    go_wp2_with fail
    go_ret
    exact ⟨rfl, rfl⟩
  | false =>
    have e : ((2 * node + bN false : Nat) : Int) = 2 * (node : Int) := by show ((2 * node + 0 : Nat) : Int) = _; omega
    rw [e]
    go_enter Tryz.func120, Tryz.ntmps120
    go_wp2_with fail
    go_ret
    exact ⟨rfl, rfl⟩
end Go.Proofs.YtconcnndghmdfaaGreatDoor

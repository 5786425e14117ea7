/- RngQ, RngP, ImpTokS, BelowI, LayNum, PutTok, one behind the other. -/
import Derived.Test.YtdoodkabmeojmaaZ1
import Derived.Deep.RegionWith
import Derived.Test.YtdoodkabmeojmaaRows
import Derived.Test.YtdoodkabmeojmaaTokC
import Derived.Test.YtdoodkabmeojmaaPackF
import Derived.WalkKit
import Derived.Below
import Derived.Test.YtdoodkabmeojmaaPackS
/- The walk over the program's put. -/
namespace Go.Proofs.Ytdoodkabmeojmaa
open Go.RowKit
/-- A coder of the program, by the state that it bears. -/
def CodR (w : World) (base g : Nat) (s : RC) : Prop := CodP w base g s.size s.ch s.low s.n
theorem CodP.keep {w w' : World} {base g size low n : Nat} {ch : Nat → Nat} (h : CodP w base g size ch low n) (hb : ∀ k, k < w.heap.size → w'.heap[k]? = w.heap[k]?) : CodP w' base g size ch low n := by
  obtain ⟨ov, hr, ho, hd⟩ := h
  refine ⟨ov, hr.of_block (hb g hr.lt), ?_, hd⟩
  obtain ⟨a, h1 | ⟨k, cap, cur, rfl, c1, c2, c3⟩⟩ := ho
  · exact ⟨a, .inl h1⟩
  · exact ⟨a, .inr ⟨k, cap, cur, rfl, c1, (hb k (Array.getElem?_eq_some_iff.1 c2).1).trans c2, c3⟩⟩
/-- The range's size, off the block. -/
def size0 (w : World) (g : Nat) : Nat := match w.cell? ⟨g, 0, none⟩ with
  | some (.int _ n) => n.toNat
  | _ => 0
theorem size0_of {w : World} {g x : Nat} (h : w.cell? ⟨g, 0, none⟩ = some (.int .u64 (x : Nat))) : size0 w g = x := by unfold size0; rw [h]; rfl
/-- A coder of the program, its bytes in a block of Mo, or beyond N. -/
def CodK (w : World) (base g N : Nat) (Mo : Nat → Prop) (s : RC) : Prop :=
  ∃ ov, w.rowIs g 92 1603 (cdF s.size s.ch (s.low % 4294967296) ov) ∧ ownB w base ov s.n (byN s.n (s.low / 4294967296)) ∧ ov.ownBlock ≠ some g ∧ ∀ k, ov.ownBlock = some k → Mo k ∨ N ≤ k
/-- Below N all stays but g and Mo's blocks. -/
def FrK (N g : Nat) (Mo : Nat → Prop) (w w' : World) : Prop := w.heap.size ≤ w'.heap.size ∧ ∀ k, k < N → k ≠ g → ¬ Mo k → w'.heap[k]? = w.heap[k]?
theorem FrK.refl (N g : Nat) (Mo : Nat → Prop) (w : World) : FrK N g Mo w w := ⟨Nat.le_refl _, fun _ _ _ _ => rfl⟩
theorem FrK.trans {N g : Nat} {Mo : Nat → Prop} {a b c : World} (h : FrK N g Mo a b) (k : FrK N g Mo b c) : FrK N g Mo a c := ⟨Nat.le_trans h.1 k.1, fun j h1 h2 h3 => (k.2 j h1 h2 h3).trans (h.2 j h1 h2 h3)⟩
theorem FrK.of_below {N g : Nat} {Mo : Nat → Prop} {a b : World} (h : Below a.heap.size a b) (hN : N ≤ a.heap.size) : FrK N g Mo a b := ⟨h.size, fun j h1 _ _ => h.block j (Nat.lt_of_lt_of_le h1 hN)⟩
theorem FrK.of_grown {N g : Nat} {Mo : Nat → Prop} {a b : World} (h : a.grownBy b (some g)) (hN : N ≤ a.heap.size) : FrK N g Mo a b := ⟨h.size, fun j h1 h2 _ => h.block j (Nat.lt_of_lt_of_le h1 hN) (fun e => h2 (by cases e; rfl))⟩
theorem FrK.of_off {N g : Nat} {Mo : Nat → Prop} {a b : World} {ov : Value} (hs : a.heap.size ≤ b.heap.size) (h : ∀ k, k < a.heap.size → k ≠ g → ov.ownBlock ≠ some k → b.heap[k]? = a.heap[k]?) (hN : N ≤ a.heap.size) (hM : ∀ k, ov.ownBlock = some k → Mo k ∨ N ≤ k) : FrK N g Mo a b :=
  ⟨hs, fun j h1 h2 h3 => h j (Nat.lt_of_lt_of_le h1 hN) h2 (fun e => by rcases hM j e with h | h; exact h3 h; omega)⟩
theorem CodK.keep {w w' : World} {base g N : Nat} {Mo : Nat → Prop} {s : RC} (h : CodK w base g N Mo s) (hb : ∀ k, k < w.heap.size → w'.heap[k]? = w.heap[k]?) : CodK w' base g N Mo s := by
  obtain ⟨ov, hr, ho, hd, hm⟩ := h
  refine ⟨ov, hr.of_block (hb g hr.lt), ?_, hd, hm⟩
  obtain ⟨a, h1 | ⟨k, cap, cur, rfl, c1, c2, c3⟩⟩ := ho
  · exact ⟨a, .inl h1⟩
  · exact ⟨a, .inr ⟨k, cap, cur, rfl, c1, (hb k (Array.getElem?_eq_some_iff.1 c2).1).trans c2, c3⟩⟩
set_option maxRecDepth 100000 in
set_option maxHeartbeats 1600000 in
theorem imp_putK (base g c N : Nat) (Mo : Nat → Prop) (one : Bool) (s : RC) (w : World) (hok : RcOk s) (hn : s.n ≤ 90000) (hc : c < 1600) (hbg : base ≤ g) (hcod : CodK w base g N Mo s) (hN : N ≤ w.heap.size) :
    Calls Try.prog 35 #[.pointer (some ⟨g, 0, none⟩), .agg #[.int .i64 (c : Int), .bool one]] w fun e w' => e = .returned (.tuple #[]) ∧ CodK w' base g N Mo (step s c one) ∧ Below base w w' ∧ FrK N g Mo w w' := by
  obtain ⟨P, hP⟩ : ∃ P, P = part1 s c one := ⟨_, rfl⟩
  have hpo := part1_ok s c one hok
  rw [← hP] at hpo
  have HPS := hide hP
  have HNOK := hide (norm_ok P hpo.1 hpo.2.1 hpo.2.2.1 (by rw [hpo.2.2.2.2]; exact hpo.2.2.2.1))
  have HPN := hide (show P.n ≤ 100000 ∧ P.size ≤ 4294967295 ∧ 131072 ≤ P.size from ⟨by rw [hpo.2.2.2.2]; omega, hpo.2.1, hpo.1⟩)
  obtain ⟨b1, b2⟩ := bound_in s c hok
  have hlo := hok.lo
  have hhi := hok.hi
  have hch := hok.ch c
  have hfit := hide hok.fit
  obtain ⟨ov, hr, ho, hd1, hMo⟩ := hcod
  obtain ⟨b, hb⟩ : ∃ b, b = bound s c := ⟨_, rfl⟩
  have HB := hide (show s.size / 2048 * s.ch c = b from hb.symm)
  rw [← hb] at b1 b2
  have hgl := hr.lt
  have hvl : ∀ k, ov.ownBlock = some k → k < w.heap.size := fun k hk => (World.ownsRow.lt ho k hk).2
  have R1 := hr.alloc (.cells #[.int .i64 (c : Int), .bool one] 28)
  have O1 : ownB (w.alloc (.cells #[.int .i64 (c : Int), .bool one] 28)) base ov s.n (byN s.n (s.low / 4294967296)) := World.ownsRow.alloc ho _
  have B1 := (Below.refl base w).alloc (show base ≤ w.heap.size by omega) (.cells #[.int .i64 (c : Int), .bool one] 28)
  have e0 : (w.alloc (.cells #[.int .i64 (c : Int), .bool one] 28)).cell? ⟨w.heap.size, 0, none⟩ = some (.int .i64 (c : Int)) := by simp
  have e1 : (w.alloc (.cells #[.int .i64 (c : Int), .bool one] 28)).cell? ⟨w.heap.size, 1, none⟩ = some (.bool one) := by simp
  have hz1 : w.heap.size < (w.alloc (.cells #[.int .i64 (c : Int), .bool one] 28)).heap.size := by simp
  have HV := hide hvl
  have HMO := hide hMo
  have F1 := hide (show FrK N g Mo w (w.alloc (.cells #[.int .i64 (c : Int), .bool one] 28)) from FrK.of_below ((Below.refl _ w).alloc (Nat.le_refl _) _) hN)
  have hN1 : N ≤ (w.alloc (.cells #[.int .i64 (c : Int), .bool one] 28)).heap.size := by simp; omega
  clear hMo hvl hr ho hb hpo hP
  go_enter Try.func35, Try.ntmps35
  go_wp2_with fail
  generalize w.alloc (.cells #[.int .i64 (c : Int), .bool one] 28) = W1 at *
  have hz : g ≠ w.heap.size := by omega
  generalize w.heap.size = z at *
  have SB := hide (show ∀ n, Calls Try.prog 66 #[.pointer (some ⟨g, 0, none⟩), .int .i64 (c : Int)] (W1.drewN n) fun e w' => e = .returned (.int .u64 (b : Int)) ∧ ∃ m, w' = (W1.drewN n).drewN m by
    intro n
    have h := imp_bound g 92 s.size (s.low % 4294967296) c s.ch ov (W1.drewN n) hhi hc (by omega) R1
    rw [HB.out] at h; exact h)
  go_quiet ((go_at_call 66; refine Calls.quiet_of (SB.out _)))
  have R2 : (W1.drewN nq).rowIs g 92 1603 (cdF s.size s.ch (s.low % 4294967296) ov) := R1
  have O2 : ownB (W1.drewN nq) base ov s.n (byN s.n (s.low / 4294967296)) := O1
  have B2 : Below base w (W1.drewN nq) := B1.trans ⟨rfl, rfl, rfl, Nat.le_refl _, fun _ _ => rfl⟩
  have e0' : (W1.drewN nq).cell? ⟨z, 0, none⟩ = some (.int .i64 (c : Int)) := e0
  have e1' : (W1.drewN nq).cell? ⟨z, 1, none⟩ = some (.bool one) := e1
  have hz2 : z < (W1.drewN nq).heap.size := hz1
  have F2 := hide (show FrK N g Mo w (W1.drewN nq) from F1.out)
  have hN2 : N ≤ (W1.drewN nq).heap.size := hN1
  generalize W1.drewN nq = W2 at *
  clear F1 hN1
  clear R1 O1 B1 e0 e1 SB hz1
  cases one with
  | true =>
    have SA := hide (imp_addK base g s.size s.low s.n b s.ch W2 (by omega) (by omega) (by have := hfit.out; omega) hbg ov R2 O2 hd1)
    clear R2 O2
    go_wp2_with fail
    refine SA.out.mono ?_
    rintro e W3 ⟨rfl, C3, B3, K3⟩
    have hk := K3 z hz2 (fun e => hz e.symm) (fun e => absurd (HV.out z e) (by omega))
    have e0 : W3.cell? ⟨z, 0, none⟩ = some (.int .i64 (c : Int)) := (World.cell?_of_block hk).trans e0'
    have e1 : W3.cell? ⟨z, 1, none⟩ = some (.bool true) := (World.cell?_of_block hk).trans e1'
    have B4 := B2.trans B3
    obtain ⟨r3, o3⟩ := C3
    have d3 := hd1
    have F3 := hide (F2.out.trans (FrK.of_off B3.size K3 hN2 HMO.out))
    have hN3 : N ≤ W3.heap.size := by have := B3.size; omega
    have HPE := hide (show P = ⟨s.size - b, setCh s.ch c (chOne (s.ch c)), s.low + b, s.n⟩ by rw [HPS.out, ← HB.out]; rfl)
    clear SA K3 hk e0' e1' B2 B3
    go_wp2_with fail
    go_region_with ((go_at_call 68; refine (imp_narrow g 92 s.size ((s.low + b) % 4294967296) c b true s.ch _ W3.drew hhi (by omega) hc (by omega) r3.drew).mono ?_; rintro e w9 ⟨rfl, r9, g9⟩))
    have HCOD := hide (show CodK w9 base g N Mo P by
      rw [HPE.out]
      refine ⟨_, ?_, World.ownsRow.kept (World.ownsRow.drew o3) g9 (.inr d3), d3, HMO.out⟩
      exact r9)
    have HFR := hide (show FrK N g Mo w w9 from F3.out.trans (FrK.of_grown (a := W3.drew) g9 hN3))
    have hN9 : N ≤ w9.heap.size := by have := g9.size; exact Nat.le_trans hN3 this
    have HBEL := hide (B4.drew.trans (grownBy_below g9 hbg (show base ≤ W3.heap.size by have := r3.lt; omega)))

    clear r9 g9 r3 o3 B4 e0 e1
    go_wp2_with fail
    go_loopw [22] (fun _ wx => ∃ t : RC, Hid (t = P ∨ (t = norm P ∧ P.size < 16777216)) ∧ Hid (CodK wx base g N Mo t) ∧ Hid (Below base w wx) ∧ Hid (FrK N g Mo w wx) ∧ N ≤ wx.heap.size) (fun _ wx => if size0 wx g < 16777216 then 1 else 0)
    case atStart => exact ⟨P, .inl rfl, HCOD, HBEL, HFR, hN9⟩
    case round =>
      clear HCOD HBEL HFR hN9
      obtain ⟨t, ht, hcod, hbel, hfr, hNr⟩ := hrel
      obtain ⟨ov, hr, ho, hd, hmo⟩ := hcod.out
      have HMO2 := hide hmo
      clear hmo
      have hsw := hide (size0_of (cd_cells hr).1)
      by_cases hsz : t.size < 16777216
      · have htP : t = P := by
          rcases ht.out with h | ⟨h, h2⟩
          · exact h
          · rw [h] at hsz; exact absurd hsz (by have := HNOK.out.lo; omega)
        have SW := hide (imp_widen_yes g 92 t.size (t.low % 4294967296) t.ch ov wr hsz hr)
        have HO := hide ho
        have HT := hide htP
        have hgl := hr.lt
        clear hr ho htP hcod
        go_wp2_with fail
        refine SW.out.mono ?_
        rintro e w1 ⟨rfl, r1, g1⟩
        have SS := hide (imp_shiftK base g (256 * t.size) t.low t.n t.ch ov w1 (by rw [HT.out]; exact HPN.out.1) hbg r1 (HO.out.kept g1 (.inr hd)) hd)
        have hN1 : N ≤ w1.heap.size := by have := g1.size; omega
        have FR1 := hide (hfr.out.trans (FrK.of_grown g1 hNr))
        have hb1 := hide (hbel.out.trans (grownBy_below g1 hbg (by omega)))
        clear r1 g1 SW hbel
        go_wp2_with fail
        refine SS.out.mono ?_
        rintro e w2 ⟨rfl, C2, hb2, K2⟩
        have hb3 := hide (hb1.out.trans hb2)
        have hC3 := hide (show CodK w2 base g N Mo (norm P) by
          rw [norm, if_pos (by rw [← HT.out]; exact hsz), ← HT.out]
          obtain ⟨o3, r3, p3, q3, s3⟩ := C2
          exact ⟨o3, r3, p3, q3, fun k hk => by rcases s3 k hk with h | h; exact HMO2.out k h; exact .inr (by omega)⟩)
        have hF3 := hide (FR1.out.trans (FrK.of_off hb2.size K2 hN1 HMO2.out))
        have hN2' : N ≤ w2.heap.size := by have := hb2.size; omega
        have hs3 := hide (show size0 w2 g = 256 * t.size by obtain ⟨o3, r3, _⟩ := C2; exact size0_of (cd_cells r3).1)
        clear C2 hb2 hb1 SS K2 FR1 hfr
        go_wp2_with fail
        go_roundw
        case rel => exact ⟨norm P, .inr ⟨rfl, by rw [← HT.out]; exact hsz⟩, hC3, hb3, hF3, hN2'⟩
        case measure =>
          rw [hs3.out, hsw.out, if_pos hsz, if_neg (by have h := HNOK.out.lo; rw [norm, if_pos (by rw [← HT.out]; exact hsz)] at h; have h' : 16777216 ≤ 256 * P.size := h; rw [← HT.out] at h'; omega)]
          omega
      · have htS := hide (show t = norm P by
          rcases ht.out with h | ⟨h, _⟩
          · rw [norm, if_neg (by rw [← h]; exact hsz), h]
          · exact h)
        have SW := hide (imp_widen_no g 92 t.size (t.low % 4294967296) t.ch ov wr hsz hr)
        clear hr ho
        go_wp2_with fail
        refine SW.out.mono ?_
        rintro e w1 ⟨rfl, rfl⟩
        go_wp2_with fail
        go_end0
        exact ⟨rfl, by show CodK _ base g N Mo (norm (part1 s c _)); rw [← HPS.out, ← htS.out]; exact hcod.out, hbel.out, hfr.out⟩
  | false =>
    have HPE := hide (show P = ⟨b, setCh s.ch c (chNot (s.ch c)), s.low, s.n⟩ by rw [HPS.out, ← HB.out]; rfl)
    go_wp2_with fail
    go_region_with ((go_at_call 68; refine (imp_narrow g 92 s.size (s.low % 4294967296) c b false s.ch _ W2.drew hhi (by omega) hc (by omega) R2.drew).mono ?_; rintro e w9 ⟨rfl, r9, g9⟩))
    have HCOD := hide (show CodK w9 base g N Mo P by
      rw [HPE.out]
      refine ⟨_, ?_, World.ownsRow.kept (World.ownsRow.drew O2) g9 (.inr hd1), hd1, HMO.out⟩
      exact r9)
    have HFR := hide (show FrK N g Mo w w9 from F2.out.trans (FrK.of_grown (a := W2.drew) g9 hN2))
    have hN9 : N ≤ w9.heap.size := by have := g9.size; exact Nat.le_trans hN2 this
    have HBEL := hide (B2.drew.trans (grownBy_below g9 hbg (show base ≤ W2.heap.size by have := R2.lt; omega)))

    clear r9 g9 R2 O2 B2 e0' e1'
    go_wp2_with fail
    go_loopw [22] (fun _ wx => ∃ t : RC, Hid (t = P ∨ (t = norm P ∧ P.size < 16777216)) ∧ Hid (CodK wx base g N Mo t) ∧ Hid (Below base w wx) ∧ Hid (FrK N g Mo w wx) ∧ N ≤ wx.heap.size) (fun _ wx => if size0 wx g < 16777216 then 1 else 0)
    case atStart => exact ⟨P, .inl rfl, HCOD, HBEL, HFR, hN9⟩
    case round =>
      clear HCOD HBEL HFR hN9
      obtain ⟨t, ht, hcod, hbel, hfr, hNr⟩ := hrel
      obtain ⟨ov, hr, ho, hd, hmo⟩ := hcod.out
      have HMO2 := hide hmo
      clear hmo
      have hsw := hide (size0_of (cd_cells hr).1)
      by_cases hsz : t.size < 16777216
      · have htP : t = P := by
          rcases ht.out with h | ⟨h, h2⟩
          · exact h
          · rw [h] at hsz; exact absurd hsz (by have := HNOK.out.lo; omega)
        have SW := hide (imp_widen_yes g 92 t.size (t.low % 4294967296) t.ch ov wr hsz hr)
        have HO := hide ho
        have HT := hide htP
        have hgl := hr.lt
        clear hr ho htP hcod
        go_wp2_with fail
        refine SW.out.mono ?_
        rintro e w1 ⟨rfl, r1, g1⟩
        have SS := hide (imp_shiftK base g (256 * t.size) t.low t.n t.ch ov w1 (by rw [HT.out]; exact HPN.out.1) hbg r1 (HO.out.kept g1 (.inr hd)) hd)
        have hN1 : N ≤ w1.heap.size := by have := g1.size; omega
        have FR1 := hide (hfr.out.trans (FrK.of_grown g1 hNr))
        have hb1 := hide (hbel.out.trans (grownBy_below g1 hbg (by omega)))
        clear r1 g1 SW hbel
        go_wp2_with fail
        refine SS.out.mono ?_
        rintro e w2 ⟨rfl, C2, hb2, K2⟩
        have hb3 := hide (hb1.out.trans hb2)
        have hC3 := hide (show CodK w2 base g N Mo (norm P) by
          rw [norm, if_pos (by rw [← HT.out]; exact hsz), ← HT.out]
          obtain ⟨o3, r3, p3, q3, s3⟩ := C2
          exact ⟨o3, r3, p3, q3, fun k hk => by rcases s3 k hk with h | h; exact HMO2.out k h; exact .inr (by omega)⟩)
        have hF3 := hide (FR1.out.trans (FrK.of_off hb2.size K2 hN1 HMO2.out))
        have hN2' : N ≤ w2.heap.size := by have := hb2.size; omega
        have hs3 := hide (show size0 w2 g = 256 * t.size by obtain ⟨o3, r3, _⟩ := C2; exact size0_of (cd_cells r3).1)
        clear C2 hb2 hb1 SS K2 FR1 hfr
        go_wp2_with fail
        go_roundw
        case rel => exact ⟨norm P, .inr ⟨rfl, by rw [← HT.out]; exact hsz⟩, hC3, hb3, hF3, hN2'⟩
        case measure =>
          rw [hs3.out, hsw.out, if_pos hsz, if_neg (by have h := HNOK.out.lo; rw [norm, if_pos (by rw [← HT.out]; exact hsz)] at h; have h' : 16777216 ≤ 256 * P.size := h; rw [← HT.out] at h'; omega)]
          omega
      · have htS := hide (show t = norm P by
          rcases ht.out with h | ⟨h, _⟩
          · rw [norm, if_neg (by rw [← h]; exact hsz), h]
          · exact h)
        have SW := hide (imp_widen_no g 92 t.size (t.low % 4294967296) t.ch ov wr hsz hr)
        clear hr ho
        go_wp2_with fail
        refine SW.out.mono ?_
        rintro e w1 ⟨rfl, rfl⟩
        go_wp2_with fail
        go_end0
        exact ⟨rfl, by show CodK _ base g N Mo (norm (part1 s c _)); rw [← HPS.out, ← htS.out]; exact hcod.out, hbel.out, hfr.out⟩

theorem imp_put (base g c : Nat) (one : Bool) (s : RC) (w : World) (hok : RcOk s) (hn : s.n ≤ 90000) (hc : c < 1600) (hbg : base ≤ g) (hcod : CodR w base g s) :
    Calls Try.prog 35 #[.pointer (some ⟨g, 0, none⟩), .agg #[.int .i64 (c : Int), .bool one]] w fun e w' => e = .returned (.tuple #[]) ∧ CodR w' base g (step s c one) ∧ Below base w w' := by
  obtain ⟨ov, hr, ho, hd⟩ := hcod
  exact (imp_putK base g c 0 (fun _ => False) one s w hok hn hc hbg ⟨ov, hr, ho, hd, fun _ _ => .inr (Nat.zero_le _)⟩ (Nat.zero_le _)).mono fun e w' ⟨h1, ⟨ov', h2, h3, h4, _⟩, h6, _⟩ => ⟨h1, ⟨ov', h2, h3, h4⟩, h6⟩
end Go.Proofs.Ytdoodkabmeojmaa
/- The walk over the program's newParting. -/
namespace Go.Proofs.Ytdoodkabmeojmaa
open Go.RowKit
theorem parF_set {w : World} {g T size c X : Nat} {ch : Nat → Nat} {n : Nat} (h : w.rowIs g T n (parF size ch)) : (w.setCell ⟨g, 1 + c, none⟩ (.int .u64 (X : Int))).rowIs g T n (parF size (setCh ch c X)) := by
  refine (h.set (1 + c) _).congr ?_
  intro i _
  show (if i = 1 + c then Value.int .u64 (X : Int) else parF size ch i) = parF size (setCh ch c X) i
  unfold parF setCh
  by_cases e : i = 1 + c
  · rw [if_pos e, if_neg (by omega), if_pos (by omega)]
  · rw [if_neg e]
    by_cases e0 : i = 0
    · rw [if_pos e0, if_pos e0]
    · rw [if_neg e0, if_neg e0, if_neg (by omega)]
set_option maxRecDepth 100000 in
set_option maxHeartbeats 800000 in
theorem imp_parting (w : World) :
    Calls Try.prog 65 #[] w fun e w' => e = .returned (.agg (vL 1601 (parF 4294967295 fun _ => 1024)).toArray) ∧ Below w.heap.size w w' := by
  obtain ⟨hz, hsz⟩ := zero_of_info Try.infoPart
  have hbt := hide Try.builtPart
  have r0 := vrow_alloc w 89 1601 (parF 0 fun _ => 0)
  have r1 := vrow_alloc (w.alloc (.cells (vL 1601 (parF 0 fun _ => 0)).toArray 89)) 89 1601 (parF 0 fun _ => 0)
  rw [World.size_alloc] at r1
  have hth := vrow_there (o := 0) (n := 1601) r1 (by omega)
  have r2 := vrow_setCells0 (k := parF 4294967295 fun _ => 0) r1
  have r3 := row_setCells_other (b := w.heap.size + 1) (o := 0) (vs := vL 1601 (parF 4294967295 fun _ => 0)) (r0.alloc (.cells (vL 1601 (parF 0 fun _ => 0)).toArray 89)) (by omega)
  have rb := below_setCells' (b := w.heap.size + 1) (o := 0) (vs := vL 1601 (parF 4294967295 fun _ => 0)) (((Below.refl w.heap.size w).alloc (Nat.le_refl _) (.cells (vL 1601 (parF 0 fun _ => 0)).toArray 89)).alloc (by simp) (.cells (vL 1601 (parF 0 fun _ => 0)).toArray 89)) (by omega)
  have H := hide (And.intro r2 (And.intro r3 rb))
  clear r0 r1 r2 r3 rb
  go_enter Try.func65, Try.ntmps65
  go_wp2_with (first | (with_reducible (show wpList _ _ _ ({ dst := _, op := .build _ _, type := _, pos := _, after := _, guard := _ } :: _) _ _); refine wpList_build_1 rfl 89 0 _ rfl (.int .u64 4294967295) rfl _ hbt.out ?_) | (with_reducible (show wpList _ _ _ ({ dst := _, op := .store _ _ _, type := _, pos := _, after := _, guard := _ } :: _) _ _); refine wpList_store_V rfl 89 _ _ rfl (w.heap.size + 1) 0 1601 (parF 4294967295 fun _ => 0) rfl rfl hth hsz (fun j _ => parF_one _ _ j) ?_))
  clear hz hbt hth
  obtain ⟨r2, r3, rb⟩ := H.out
  generalize ((w.alloc (.cells (vL 1601 (parF 0 fun _ => 0)).toArray 89)).alloc (.cells (vL 1601 (parF 0 fun _ => 0)).toArray 89)).setCells (w.heap.size + 1) 0 (vL 1601 (parF 4294967295 fun _ => 0)) = W1 at *
  clear H
  go_loopw [4] (fun i wx => ∃ (k : Nat) (f : Nat → Nat), k ≤ 1600 ∧ i = .int .i64 k ∧ Hid (∀ j, j < k → f j = 1024) ∧ wx.rowIs (w.heap.size + 1) 89 1601 (parF 4294967295 f) ∧ wx.rowIs w.heap.size 89 1601 (parF 0 fun _ => 0) ∧ Below w.heap.size w wx) (fun i _ => 1600 - (intOf i).toNat)
  case atStart => exact ⟨0, fun _ => 0, by omega, rfl, fun j hj => by omega, r2, r3, rb⟩
  case round =>
    clear r2 r3 rb
    obtain ⟨k, f, hk, rfl, hf, hrw, hres, hbl⟩ := hrel
    by_cases hlt : k < 1600
    · have ck := hrw.cell (i := 1 + k) (by omega)
      have hfz := hrw.frozen (1 + k)
      have hlt' : (k : Int) < 1600 := by omega
      clear hsz
      go_wp2_with fail
      refine ⟨⟨k + 1, setCh f k 1024, by omega, by go_num, fun j hj => ?_, parF_set hrw, hres.setOther (by simp) _, hbl.setCell (by simp) _⟩, by simp [intOf]; omega⟩
      unfold setCh
      by_cases e : j = k
      · rw [if_pos e]
      · rw [if_neg e]; exact hf.out j (by omega)
    · have hlt' : ¬ (k : Int) < 1600 := by omega
      have hrw2 : wr.rowIs (w.heap.size + 1) 89 1601 (parF 4294967295 fun _ => 1024) := hrw.congr fun i hi => by
        unfold parF
        by_cases e : i = 0
        · rw [if_pos e, if_pos e]
        · rw [if_neg e, if_neg e, hf.out (i - 1) (by omega)]
      have hth := vrow_there (o := 0) (n := 1601) hres (by omega)
      have hfin := vrow_setCells0 (k := parF 4294967295 fun _ => 1024) hres
      clear hf hrw
      go_wp2_with (first | (with_reducible (show wpList _ _ _ ({ dst := _, op := .load _ _, type := _, pos := _, after := _, guard := _ } :: _) _ _); refine wpList_load_V rfl 89 _ rfl (w.heap.size + 1) 0 rfl _ _ 1601 _ (parF 4294967295 fun _ => 1024) _ hrw2 (by omega) (fun j _ => by rw [Nat.zero_add]) Try.underlying89 rfl hsz ?_) | (with_reducible (show wpList _ _ _ ({ dst := _, op := .store _ _ _, type := _, pos := _, after := _, guard := _ } :: _) _ _); refine wpList_store_V rfl 89 _ _ rfl w.heap.size 0 1601 (parF 4294967295 fun _ => 1024) rfl rfl hth hsz (fun j _ => parF_one _ _ j) ?_))
      exact bodyPost_ret (ret_V Try.results65 _ _ w.heap.size 1601 _ (parF 4294967295 fun _ => 1024) _ rfl hfin Try.underlying89 rfl hsz) rfl ⟨rfl, below_setCells' hbl (Nat.le_refl _)⟩
end Go.Proofs.Ytdoodkabmeojmaa
/- The walks over the program's isMatch and size. -/
namespace Go.Proofs.Ytdoodkabmeojmaa
open Go.RowKit
set_option maxRecDepth 100000 in
set_option maxHeartbeats 400000 in
theorem imp_isMatch (b m f : Int) (w : World) :
    Calls Try.prog 83 #[.agg #[.int .i64 b, .int .i64 m, .int .i64 f]] w fun e w' => e = .returned (.bool (m != 0)) ∧ Below w.heap.size w w' := by
  go_enter Try.func83, Try.ntmps83
  go_wp2_with fail
  go_ret
  exact ⟨rfl, (Below.refl _ _).alloc (Nat.le_refl _) _⟩
set_option maxRecDepth 100000 in
set_option maxHeartbeats 400000 in
theorem imp_size (b m f : Int) (w : World) :
    Calls Try.prog 51 #[.agg #[.int .i64 b, .int .i64 m, .int .i64 f]] w fun e w' => e = .returned (.int .i64 (tokSize m)) ∧ Below w.heap.size w w' := by
  have SI := hide (fun w => imp_isMatch b m f w)
  by_cases hm : m = 0
  · have hd : (m != 0) = false := by rw [hm]; rfl
    have HE := hide (show tokSize m = 1 from if_pos hm)
    rw [hd] at SI
    clear hm
    go_enter Try.func51, Try.ntmps51
    go_wp2_with fail
    refine (SI.out _).mono ?_
    rintro e w1 ⟨rfl, hb⟩
    go_wp2_with fail
    go_ret
    exact ⟨by rw [HE.out]; rfl, ((Below.refl _ _).alloc (Nat.le_refl _) _).trans (hb.mono (by simp))⟩
  · have hd : (m != 0) = true := by simpa using hm
    have HE := hide (show tokSize m = m from if_neg hm)
    rw [hd] at SI
    clear hm
    go_enter Try.func51, Try.ntmps51
    go_wp2_with fail
    refine (SI.out _).mono ?_
    rintro e w1 ⟨rfl, hb⟩
    have c1 := (hb.cell (p := ⟨w.heap.size, 1, none⟩) (by simp)).trans (show (w.alloc (.cells #[.int .i64 b, .int .i64 m, .int .i64 f] 40)).cell? ⟨w.heap.size, 1, none⟩ = some (.int .i64 m) by simp)
    go_wp2_with fail
    go_ret
    exact ⟨by rw [HE.out]; rfl, ((Below.refl _ _).alloc (Nat.le_refl _) _).trans (hb.mono (by simp))⟩
end Go.Proofs.Ytdoodkabmeojmaa
/- The program's below. -/
namespace Go.Proofs.Ytdoodkabmeojmaa
open Go.RowKit
set_option maxRecDepth 100000 in
set_option maxHeartbeats 400000 in
theorem imp_below (node : Nat) (one : Bool) (w : World) (h : node < 100000) :
    Calls Try.prog 97 #[.int .i64 (node : Int), .bool one] w fun e w' => e = .returned (.int .i64 ((2 * node + bN one : Nat) : Int)) ∧ w = w' := by
  cases one with
  | true =>
    have e : ((2 * node + bN true : Nat) : Int) = 2 * (node : Int) + 1 := by show ((2 * node + 1 : Nat) : Int) = _; omega
    rw [e]
    go_enter Try.func97, Try.ntmps97
    go_wp2_with fail
    go_ret
    exact ⟨rfl, rfl⟩
  | false =>
    have e : ((2 * node + bN false : Nat) : Int) = 2 * (node : Int) := by show ((2 * node + 0 : Nat) : Int) = _; omega
    rw [e]
    go_enter Try.func97, Try.ntmps97
    go_wp2_with fail
    go_ret
    exact ⟨rfl, rfl⟩
end Go.Proofs.Ytdoodkabmeojmaa
/- The program's newCoder, below, layNum (at byte and at int64), putToken (written by mklay.py). -/
namespace Go.Proofs.Ytdoodkabmeojmaa
open Go.RowKit
theorem CodK.split {w : World} {base g N : Nat} {Mo : Nat → Prop} {s : RC} (h : CodK w base g N Mo s) : ∃ ob : Option Nat, (∀ k, ob = some k → (Mo k ∨ N ≤ k) ∧ k < w.heap.size) ∧ ∀ w', (∀ k, k < w.heap.size → w'.heap[k]? = w.heap[k]?) → ∀ N', CodK w' base g N' (fun k => ob = some k) s := by
  have h2 := h
  obtain ⟨ov, hr, ho, hd, hm⟩ := h
  refine ⟨ov.ownBlock, fun k hk => ⟨hm k hk, (World.ownsRow.lt ho k hk).2⟩, fun w' hw N' => ?_⟩
  exact CodK.keep (N := N') (Mo := fun k => ov.ownBlock = some k) ⟨ov, hr, ho, hd, fun k hk => .inl hk⟩ hw
theorem CodK.join {w : World} {base g N N' : Nat} {Mo : Nat → Prop} {ob : Option Nat} {s : RC} (h : CodK w base g N' (fun k => ob = some k) s) (hob : ∀ k, ob = some k → Mo k ∨ N ≤ k) (hN : N ≤ N') : CodK w base g N Mo s := by
  obtain ⟨ov, hr, ho, hd, hm⟩ := h
  exact ⟨ov, hr, ho, hd, fun k hk => by rcases hm k hk with h | h; exact hob k h; exact .inr (by omega)⟩
theorem FrK.join {w w' : World} {g N N' : Nat} {Mo : Nat → Prop} {ob : Option Nat} (h : FrK N' g (fun k => ob = some k) w w') (hob : ∀ k, ob = some k → Mo k ∨ N ≤ k) (hN : N ≤ N') : FrK N g Mo w w' :=
  ⟨h.1, fun k h1 h2 h3 => h.2 k (by omega) h2 (fun e => by rcases hob k e with h | h; exact h3 h; omega)⟩
set_option maxRecDepth 100000 in
set_option maxHeartbeats 800000 in
theorem imp_newCoder (w : World) :
    Calls Try.prog 34 #[] w fun e w' => ∃ g, e = .returned (.pointer (some ⟨g, 0, none⟩)) ∧ w.heap.size ≤ g ∧ (∀ N Mo, CodK w' w.heap.size g N Mo rc0) ∧ Below w.heap.size w w' := by
  go_enter Try.func34, Try.ntmps34
  go_wp2_with fail
  refine (imp_parting w).mono ?_
  rintro e w2 ⟨rfl, hb2⟩
  have HBT := hide (Try.builtCod 4294967295 fun _ => 1024)
  have B2 := hide hb2
  clear hb2
  go_wp2_with (first | (with_reducible (show wpList _ _ _ ({ dst := _, op := .build _ _, type := _, pos := _, after := _, guard := _ } :: _) _ _); refine wpList_build_1 rfl 92 0 _ rfl (.agg (vL 1601 (parF 4294967295 fun _ => 1024)).toArray) rfl _ HBT.out ?_))
  have R3 := vrow_alloc w2 92 1603 (cdF 4294967295 (fun _ => 1024) 0 (.slice none 0 0))
  have B3 := hide (B2.out.alloc B2.out.size (.cells (vL 1603 (cdF 4294967295 (fun _ => 1024) 0 (.slice none 0 0))).toArray 92))
  have hg2 := B2.out.size
  have C3 := hide (show ∀ N Mo, CodK (w2.alloc (.cells (vL 1603 (cdF 4294967295 (fun _ => 1024) 0 (.slice none 0 0))).toArray 92)) w.heap.size w2.heap.size N Mo rc0 from fun N Mo => ⟨.slice none 0 0, R3, ⟨rfl, .inl ⟨rfl, rfl⟩⟩, by simp [Value.ownBlock], by simp [Value.ownBlock]⟩)
  clear R3 HBT
  go_ret
  exact ⟨_, rfl, hg2, C3.out, B3.out⟩
theorem wraps_u8 (n : Int) (h₀ : 0 ≤ n) (h₁ : n < 2 ^ 8) : IntKind.u8.wrap n = n := by rw [IntKind.wrap_u8]; omega
theorem bit_q8 (n k : Nat) (h : n < 256) : bits .and .u8 ((n : Int) / 2 ^ k) 1 = ((n / 2 ^ k % 2 : Nat) : Int) := by
  have e : (n : Int) / 2 ^ k = ((n / 2 ^ k : Nat) : Int) := by simp
  have hle : n / 2 ^ k ≤ n := Nat.div_le_self _ _
  rw [e]
  generalize n / 2 ^ k = q at *
  have h2 := bits_mask .u8 8 (by decide) wraps_u8 1 (by decide) (q : Int) (by omega) (by omega)
  have e1 : ((2 : Int) ^ 1 - 1) = 1 := rfl
  rw [e1] at h2
  rw [h2]
  simp
set_option maxRecDepth 100000 in
set_option maxHeartbeats 1600000 in
theorem imp_lay8 (b0 g n many base N : Nat) (Mo : Nat → Prop) (s : RC) (w : World) (hn : n < 256) (hm : many ≤ 8) (hb : base ≤ 400) (hok : RcOk s) (hsn : s.n + many ≤ 80000) (hbg : b0 ≤ g) (hcod : CodK w b0 g N Mo s) (hN : N ≤ w.heap.size) :
    Calls Try.prog 86 #[.int .u8 (n : Int), .int .i64 (base : Int), .int .i64 (many : Int), .func (.func 35) #[.pointer (some ⟨g, 0, none⟩)] #[]] w fun e w' => e = .returned (.tuple #[]) ∧ CodK w' b0 g N Mo (run s (tree n many base)) ∧ Below b0 w w' ∧ FrK N g Mo w w' := by
  obtain ⟨T, hT⟩ : ∃ T, T = tree n many base := ⟨_, rfl⟩
  rw [← hT]
  have HT := hide hT
  have HC := hide hcod
  have HOK := hide hok
  have hgl : g < w.heap.size := by obtain ⟨_, hr, _⟩ := hcod; exact hr.lt
  clear hT hcod hok
  go_enter Try.func86, Try.ntmps86
  go_wp2_with fail
  go_loopw [8, 9] (fun nd i wx => ∃ (r node : Nat) (k : List (Nat × Bool)), r ≤ many ∧ node < 2 ^ (many - r + 1) ∧ i = .int .i64 ((r : Int) - 1) ∧ nd = .int .i64 (node : Nat) ∧ k.length + r = many ∧ Hid (k ++ treeG n base r node = T) ∧ Hid (CodK wx b0 g N Mo (run s k)) ∧ Hid (Below b0 w wx) ∧ Hid (FrK N g Mo w wx) ∧ N ≤ wx.heap.size) (fun _ i _ => (intOf i + 1).toNat)
  case atStart => exact ⟨many, 1, [], Nat.le_refl _, by rw [Nat.sub_self]; decide, by go_num, rfl, by simp, HT.out.symm, HC, Below.refl _ _, FrK.refl _ _ _ _, hN⟩
  case round =>
    clear HC hN
    obtain ⟨r, node, k, hr, hnd, rfl, rfl, hkl, hk, hcod, hbl, hfr, hNr⟩ := hrel
    have hnode : node < 2048 := Nat.lt_of_lt_of_le hnd (Nat.le_trans (Nat.pow_le_pow_right (by omega) (show many - r + 1 ≤ 11 by omega)) (by decide))
    by_cases hr0 : 0 < r
    · obtain ⟨q, hq⟩ : ∃ q, q = r - 1 := ⟨_, rfl⟩
      have hnode1 : node < 1024 := Nat.lt_of_lt_of_le hnd (Nat.le_trans (Nat.pow_le_pow_right (by omega) (show many - r + 1 ≤ 10 by omega)) (by decide))
      have es : (r : Int) - 1 = (q : Int) := by omega
      rw [es]
      have hs0 : (0 : Int) ≤ (q : Int) := by omega
      have hs10 : (q : Int) ≤ 9 := by omega
      have hnode' : (node : Int) < 2048 := by omega
      have hbq := bit_q8 n q hn
      have hmin : min q 8 = q := Nat.min_eq_left (by omega)
      obtain ⟨t, ht⟩ : ∃ t, t = n / 2 ^ q % 2 := ⟨_, rfl⟩
      rw [← ht] at hbq
      obtain ⟨bit, hbit⟩ : ∃ b, b = bitAt n q := ⟨_, rfl⟩
      have hbt : ((t : Int) == 1) = bit := by
        rw [hbit, bitAt, ← ht]
        by_cases h1 : t = 1
        · rw [h1]; rfl
        · rw [decide_eq_false h1, beq_eq_false_iff_ne]; omega
      obtain ⟨c, hc⟩ : ∃ c, c = base + node := ⟨_, rfl⟩
      have s1 : (base : Int) + (node : Int) = (c : Int) := by omega
      have hr1 : r - 1 = q := hq.symm
      have HK := hide (show (k ++ [(c, bit)]) ++ treeG n base q (2 * node + bN bit) = T by
        rw [← hk.out, show r = q + 1 by omega, hc, hbit, List.append_assoc]; rfl)
      have HND := hide (show 2 * node + bN bit < 2 ^ (many - q + 1) by
        have := bN_le bit
        rw [show many - q + 1 = (many - r + 1) + 1 by omega, Nat.pow_succ]; omega)
      obtain ⟨ob, hob, hcut⟩ := hcod.out.split
      obtain ⟨z, hz⟩ : ∃ z, z = wr.heap.size := ⟨_, rfl⟩
      have hws := hbl.out.size
      have hal : Below wr.heap.size wr (wr.alloc (.cells #[.int .i64 (c : Int), .bool bit] 28)) := (Below.refl _ wr).alloc (Nat.le_refl _) _
      have SP := hide (imp_putK b0 g c (wr.alloc (.cells #[.int .i64 (c : Int), .bool bit] 28)).heap.size (fun j => ob = some j) bit (run s k) (wr.alloc (.cells #[.int .i64 (c : Int), .bool bit] 28)) (run_ok k s HOK.out) (by have := run_n_le k s; omega) (by omega) hbg (hcut _ hal.block _) (Nat.le_refl _))
      have HA := hide (And.intro hal (And.intro hz hob))
      have HS := hide (And.intro hq (And.intro hr hkl))
      clear ht hbit hc hk hq es hnd hkl hal hz hob hcut
      go_wp2_with fail
      refine SP.out.mono ?_
      obtain ⟨hal, hz, hob⟩ := HA.out
      rintro e w9 ⟨rfl, hc9, hb9, hf9⟩
      have zs : (wr.alloc (.cells #[.int .i64 (c : Int), .bool bit] 28)).heap.size = z + 1 := by simp [hz]
      have q9 : w9.heap[z]? = some (.cells #[.int .i64 (c : Int), .bool bit] 28) := (hf9.2 z (by omega) (by omega) (fun e => by have := (hob z e).2; omega)).trans (by rw [hz]; exact heap_alloc_new wr _)
      have e0 : w9.cell? ⟨z, 0, none⟩ = some (.int .i64 (c : Int)) := by simp [World.cell?, q9]
      have e1 : w9.cell? ⟨z, 1, none⟩ = some (.bool bit) := by simp [World.cell?, q9]
      have C9 := hide (show CodK w9 b0 g N Mo (run s (k ++ [(c, bit)])) by rw [run_snoc]; exact hc9.join (fun j hj => (hob j hj).1) (by omega))
      have F9 := hide (show FrK N g Mo w w9 from hfr.out.trans ((FrK.of_below hal hNr).trans (hf9.join (fun j hj => (hob j hj).1) (by omega))))
      have B9 := hide ((hbl.out.trans (hal.mono (by omega))).trans hb9)
      have hN9 : N ≤ w9.heap.size := by have := hf9.1; omega
      rw [← hz]
      clear HA SP hal hz hob hc9 hb9 hf9 q9 zs hcod hbl hfr
      go_wp2_with fail
      refine (imp_below node bit w9 (by omega)).mono ?_
      rintro e w10 ⟨rfl, rfl⟩
      obtain ⟨nn, hnn⟩ : ∃ nn, nn = 2 * node + bN bit := ⟨_, rfl⟩
      rw [← hnn] at HK HND ⊢
      clear hnn e0 e1
      go_wp2_with fail
      go_roundw
      case rel => exact ⟨q, nn, k ++ [(c, bit)], by have := HS.out; omega, HND.out, by go_num, rfl, by have := HS.out; simp; omega, HK, C9, B9, F9, hN9⟩
      case measure => simp [intOf]
    · have hr1 : r = 0 := by omega
      have hlt : ¬ (0 : Int) ≤ (r : Int) - 1 := by omega
      have e := hk.out
      rw [hr1] at e
      have e2 : k = T := by rw [← e]; simp [treeG]
      have HO := hide (show CodK wr b0 g N Mo (run s T) by rw [← e2]; exact hcod.out)
      clear hcod e e2 hk hr1
      go_wp2_with fail
      go_end0
      exact ⟨rfl, HO.out, hbl.out, hfr.out⟩
set_option maxRecDepth 100000 in
set_option maxHeartbeats 1600000 in
theorem imp_lay64 (b0 g n many base N : Nat) (Mo : Nat → Prop) (s : RC) (w : World) (hn : n < 1048576) (hm : many ≤ 10) (hb : base ≤ 400) (hok : RcOk s) (hsn : s.n + many ≤ 80000) (hbg : b0 ≤ g) (hcod : CodK w b0 g N Mo s) (hN : N ≤ w.heap.size) :
    Calls Try.prog 87 #[.int .i64 (n : Int), .int .i64 (base : Int), .int .i64 (many : Int), .func (.func 35) #[.pointer (some ⟨g, 0, none⟩)] #[]] w fun e w' => e = .returned (.tuple #[]) ∧ CodK w' b0 g N Mo (run s (tree n many base)) ∧ Below b0 w w' ∧ FrK N g Mo w w' := by
  obtain ⟨T, hT⟩ : ∃ T, T = tree n many base := ⟨_, rfl⟩
  rw [← hT]
  have HT := hide hT
  have HC := hide hcod
  have HOK := hide hok
  have hgl : g < w.heap.size := by obtain ⟨_, hr, _⟩ := hcod; exact hr.lt
  clear hT hcod hok
  go_enter Try.func87, Try.ntmps87
  go_wp2_with fail
  go_loopw [8, 9] (fun nd i wx => ∃ (r node : Nat) (k : List (Nat × Bool)), r ≤ many ∧ node < 2 ^ (many - r + 1) ∧ i = .int .i64 ((r : Int) - 1) ∧ nd = .int .i64 (node : Nat) ∧ k.length + r = many ∧ Hid (k ++ treeG n base r node = T) ∧ Hid (CodK wx b0 g N Mo (run s k)) ∧ Hid (Below b0 w wx) ∧ Hid (FrK N g Mo w wx) ∧ N ≤ wx.heap.size) (fun _ i _ => (intOf i + 1).toNat)
  case atStart => exact ⟨many, 1, [], Nat.le_refl _, by rw [Nat.sub_self]; decide, by go_num, rfl, by simp, HT.out.symm, HC, Below.refl _ _, FrK.refl _ _ _ _, hN⟩
  case round =>
    clear HC hN
    obtain ⟨r, node, k, hr, hnd, rfl, rfl, hkl, hk, hcod, hbl, hfr, hNr⟩ := hrel
    have hnode : node < 2048 := Nat.lt_of_lt_of_le hnd (Nat.le_trans (Nat.pow_le_pow_right (by omega) (show many - r + 1 ≤ 11 by omega)) (by decide))
    by_cases hr0 : 0 < r
    · obtain ⟨q, hq⟩ : ∃ q, q = r - 1 := ⟨_, rfl⟩
      have hnode1 : node < 1024 := Nat.lt_of_lt_of_le hnd (Nat.le_trans (Nat.pow_le_pow_right (by omega) (show many - r + 1 ≤ 10 by omega)) (by decide))
      have es : (r : Int) - 1 = (q : Int) := by omega
      rw [es]
      have hs0 : (0 : Int) ≤ (q : Int) := by omega
      have hs10 : (q : Int) ≤ 9 := by omega
      have hnode' : (node : Int) < 2048 := by omega
      have hbq := bit_q n q hn
      obtain ⟨t, ht⟩ : ∃ t, t = n / 2 ^ q % 2 := ⟨_, rfl⟩
      rw [← ht] at hbq
      obtain ⟨bit, hbit⟩ : ∃ b, b = bitAt n q := ⟨_, rfl⟩
      have hbt : ((t : Int) == 1) = bit := by
        rw [hbit, bitAt, ← ht]
        by_cases h1 : t = 1
        · rw [h1]; rfl
        · rw [decide_eq_false h1, beq_eq_false_iff_ne]; omega
      obtain ⟨c, hc⟩ : ∃ c, c = base + node := ⟨_, rfl⟩
      have s1 : (base : Int) + (node : Int) = (c : Int) := by omega
      have hr1 : r - 1 = q := hq.symm
      have HK := hide (show (k ++ [(c, bit)]) ++ treeG n base q (2 * node + bN bit) = T by
        rw [← hk.out, show r = q + 1 by omega, hc, hbit, List.append_assoc]; rfl)
      have HND := hide (show 2 * node + bN bit < 2 ^ (many - q + 1) by
        have := bN_le bit
        rw [show many - q + 1 = (many - r + 1) + 1 by omega, Nat.pow_succ]; omega)
      obtain ⟨ob, hob, hcut⟩ := hcod.out.split
      obtain ⟨z, hz⟩ : ∃ z, z = wr.heap.size := ⟨_, rfl⟩
      have hws := hbl.out.size
      have hal : Below wr.heap.size wr (wr.alloc (.cells #[.int .i64 (c : Int), .bool bit] 28)) := (Below.refl _ wr).alloc (Nat.le_refl _) _
      have SP := hide (imp_putK b0 g c (wr.alloc (.cells #[.int .i64 (c : Int), .bool bit] 28)).heap.size (fun j => ob = some j) bit (run s k) (wr.alloc (.cells #[.int .i64 (c : Int), .bool bit] 28)) (run_ok k s HOK.out) (by have := run_n_le k s; omega) (by omega) hbg (hcut _ hal.block _) (Nat.le_refl _))
      have HA := hide (And.intro hal (And.intro hz hob))
      have HS := hide (And.intro hq (And.intro hr hkl))
      clear ht hbit hc hk hq es hnd hkl hal hz hob hcut
      go_wp2_with fail
      refine SP.out.mono ?_
      obtain ⟨hal, hz, hob⟩ := HA.out
      rintro e w9 ⟨rfl, hc9, hb9, hf9⟩
      have zs : (wr.alloc (.cells #[.int .i64 (c : Int), .bool bit] 28)).heap.size = z + 1 := by simp [hz]
      have q9 : w9.heap[z]? = some (.cells #[.int .i64 (c : Int), .bool bit] 28) := (hf9.2 z (by omega) (by omega) (fun e => by have := (hob z e).2; omega)).trans (by rw [hz]; exact heap_alloc_new wr _)
      have e0 : w9.cell? ⟨z, 0, none⟩ = some (.int .i64 (c : Int)) := by simp [World.cell?, q9]
      have e1 : w9.cell? ⟨z, 1, none⟩ = some (.bool bit) := by simp [World.cell?, q9]
      have C9 := hide (show CodK w9 b0 g N Mo (run s (k ++ [(c, bit)])) by rw [run_snoc]; exact hc9.join (fun j hj => (hob j hj).1) (by omega))
      have F9 := hide (show FrK N g Mo w w9 from hfr.out.trans ((FrK.of_below hal hNr).trans (hf9.join (fun j hj => (hob j hj).1) (by omega))))
      have B9 := hide ((hbl.out.trans (hal.mono (by omega))).trans hb9)
      have hN9 : N ≤ w9.heap.size := by have := hf9.1; omega
      rw [← hz]
      clear HA SP hal hz hob hc9 hb9 hf9 q9 zs hcod hbl hfr
      go_wp2_with fail
      refine (imp_below node bit w9 (by omega)).mono ?_
      rintro e w10 ⟨rfl, rfl⟩
      obtain ⟨nn, hnn⟩ : ∃ nn, nn = 2 * node + bN bit := ⟨_, rfl⟩
      rw [← hnn] at HK HND ⊢
      clear hnn e0 e1
      go_wp2_with fail
      go_roundw
      case rel => exact ⟨q, nn, k ++ [(c, bit)], by have := HS.out; omega, HND.out, by go_num, rfl, by have := HS.out; simp; omega, HK, C9, B9, F9, hN9⟩
      case measure => simp [intOf]
    · have hr1 : r = 0 := by omega
      have hlt : ¬ (0 : Int) ≤ (r : Int) - 1 := by omega
      have e := hk.out
      rw [hr1] at e
      have e2 : k = T := by rw [← e]; simp [treeG]
      have HO := hide (show CodK wr b0 g N Mo (run s T) by rw [← e2]; exact hcod.out)
      clear hcod e e2 hk hr1
      go_wp2_with fail
      go_end0
      exact ⟨rfl, HO.out, hbl.out, hfr.out⟩
end Go.Proofs.Ytdoodkabmeojmaa
/- The program's putToken and Pack. -/
namespace Go.Proofs.Ytdoodkabmeojmaa
open Go.RowKit
theorem tokBits_byte (t : Tok) (h : t.f = 0) : tokBits t = (0, false) :: tree t.b.toNat 8 16 := if_pos h
theorem tokBits_match (t : Tok) (h : t.f ≠ 0) : tokBits t = (0, true) :: (tree (t.m - 3).toNat 6 300 ++ tree (t.f - 1).toNat 10 400) := if_neg h
set_option maxRecDepth 100000 in
set_option maxHeartbeats 1600000 in
theorem imp_putToken (b0 g N : Nat) (Mo : Nat → Prop) (s : RC) (t : Tok) (w : World) (ht : tokOk t = true) (hok : RcOk s) (hsn : s.n ≤ 70000) (hbg : b0 ≤ g) (hcod : CodK w b0 g N Mo s) (hN : N ≤ w.heap.size) :
    Calls Try.prog 60 #[.pointer (some ⟨g, 0, none⟩), .agg #[.int .i64 t.b, .int .i64 t.m, .int .i64 t.f]] w fun e w' => e = .returned (.tuple #[]) ∧ CodK w' b0 g N Mo (run s (tokBits t)) ∧ Below b0 w w' ∧ FrK N g Mo w w' := by
  have HC := hide hcod
  have HOK := hide hok
  have hgl : g < w.heap.size := by obtain ⟨_, hr, _⟩ := hcod; exact hr.lt
  obtain ⟨z, hz⟩ : ∃ z, z = w.heap.size := ⟨_, rfl⟩
  obtain ⟨ob, hob, hcut⟩ := hcod.split
  have hal : Below w.heap.size w (w.alloc (.cells #[.int .i64 t.b, .int .i64 t.m, .int .i64 t.f] 40)) := (Below.refl _ w).alloc (Nat.le_refl _) _
  have C1 := hide (hcut _ hal.block (z + 1))
  have q1 : (w.alloc (.cells #[.int .i64 t.b, .int .i64 t.m, .int .i64 t.f] 40)).heap[z]? = some (.cells #[.int .i64 t.b, .int .i64 t.m, .int .i64 t.f] 40) := by rw [hz]; exact heap_alloc_new w _
  have s1 : (w.alloc (.cells #[.int .i64 t.b, .int .i64 t.m, .int .i64 t.f] 40)).heap.size = z + 1 := by simp [hz]
  have F1 := hide (FrK.of_below (g := g) (Mo := Mo) hal hN)
  have B1 := hide (hal.mono (show b0 ≤ w.heap.size by omega))
  have HOB := hide hob
  have HZ := hide hz
  have hgz : g < z := by omega
  have hNz : N ≤ z := by omega
  have htwo := tokOk_two t ht
  obtain ⟨tb, tm, tf⟩ := t
  simp only at htwo C1 q1 s1 F1 B1
  have HF := hide (show ∀ (W W' : World), FrK (z + 1) g (fun k => ob = some k) W W' → W'.heap[z]? = W.heap[z]? from fun W W' h => h.2 z (by omega) (by omega) (fun e => by have := (HOB.out z e).2; omega))
  have HJ := hide (show ∀ (W W' : World), FrK (z + 1) g (fun k => ob = some k) W W' → FrK N g Mo W W' from fun W W' h => h.join (fun j hj => (HOB.out j hj).1) (by omega))
  clear hob hcut hal hcod hok hz
  by_cases hf0 : tf = 0
  · subst hf0
    obtain ⟨hb1, hb2⟩ : 0 ≤ tb ∧ tb ≤ 255 := by rcases htwo with h | h; exact h.2; exact absurd rfl h.1
    have hm0 : tm = 0 := by
      by_cases h0 : tm = 0
      · exact h0
      · have h := ht
        unfold tokOk at h
        rw [if_neg (fun h => h0 h.1)] at h
        have := of_decide_eq_true h
        have h1 : (1 : Int) ≤ 0 := this.2.2.2.1
        omega
    subst hm0
    obtain ⟨n, rfl⟩ : ∃ n : Nat, tb = (n : Int) := ⟨tb.toNat, by omega⟩
    have wb : IntKind.u8.wrap (n : Int) = (n : Int) := by rw [IntKind.wrap_u8]; omega
    have HT := hide (show tokBits ⟨(n : Int), 0, 0⟩ = (0, false) :: tree n 8 16 from by rw [tokBits_byte _ rfl]; rfl)
    have SI := hide (show ∀ u : World, Calls Try.prog 83 #[.agg #[.int .i64 (n : Int), .int .i64 0, .int .i64 0]] u (fun e w' => e = .returned (.bool false) ∧ Below u.heap.size u w') from fun u => by
      have h := imp_isMatch (n : Int) 0 0 u
      rw [show ((0 : Int) != 0) = false from rfl] at h
      exact h)
    have HQ := hide q1
    clear q1 htwo ht
    go_enter Try.func60, Try.ntmps60
    go_wp2_with fail
    refine (SI.out _).mono ?_
    rw [← HZ.out]
    generalize w.alloc (.cells #[.int .i64 (n : Int), .int .i64 0, .int .i64 0] 40) = W1 at *
    rintro e w2 ⟨rfl, hb2⟩
    have hs2 := hb2.size
    have C2 := C1.out.keep hb2.block
    have q2 := (hb2.block z (by omega)).trans HQ.out
    have SP := hide (imp_putK b0 g 0 (z + 1) (fun k => ob = some k) false s w2 HOK.out (by omega) (by omega) hbg C2 (by omega))
    have F2 := hide (FrK.of_below (g := g) (Mo := Mo) hb2 (show N ≤ W1.heap.size by omega))
    have B2 := hide (B1.out.trans (hb2.mono (show b0 ≤ W1.heap.size by omega)))
    have HQ2 := hide q2
    clear hb2 C2 q2 C1 HQ B1
    go_wp2_with fail
    refine SP.out.mono ?_
    rintro e w3 ⟨rfl, C3, hb3, hf3⟩
    have hs3 := hb3.size
    have q3 := (HF.out _ _ hf3).trans HQ2.out
    have F3 := hide ((F1.out.trans F2.out).trans (HJ.out _ _ hf3))
    have B3 := hide (B2.out.trans hb3)
    have HC3 := hide C3
    have HQ3 := hide q3
    have e0 : w3.cell? ⟨z, 0, none⟩ = some (.int .i64 (n : Int)) := by simp [World.cell?, q3]
    have e1 : w3.cell? ⟨z, 1, none⟩ = some (.int .i64 0) := by simp [World.cell?, q3]
    have e2 : w3.cell? ⟨z, 2, none⟩ = some (.int .i64 0) := by simp [World.cell?, q3]
    clear C3 hb3 hf3 q3 SP B2 F1 F2 HQ2
    go_wp2_with fail
    refine (SI.out _).mono ?_
    rintro e w4 ⟨rfl, hb4⟩
    have hs4 := hb4.size
    have C4 := HC3.out.keep hb4.block
    have q4 := (hb4.block z (by omega)).trans HQ3.out
    have f0 : w4.cell? ⟨z, 0, none⟩ = some (.int .i64 (n : Int)) := by simp [World.cell?, q4]
    have f1 : w4.cell? ⟨z, 1, none⟩ = some (.int .i64 0) := by simp [World.cell?, q4]
    have f2 : w4.cell? ⟨z, 2, none⟩ = some (.int .i64 0) := by simp [World.cell?, q4]
    have F4 := hide (F3.out.trans (FrK.of_below (g := g) (Mo := Mo) hb4 (show N ≤ w3.heap.size by omega)))
    have B4 := hide (B3.out.trans (hb4.mono (show b0 ≤ w3.heap.size by omega)))
    have OK1 := step_ok s 0 false HOK.out
    have ns0 := run_n_le [(0, false)] s
    have ns1 : (step s 0 false).n ≤ s.n + 1 := ns0
    clear ns0
    have HQ4 := hide q4
    have SL := hide (imp_lay8 b0 g n 8 16 (z + 1) (fun k => ob = some k) (step s 0 false) w4 (by omega) (by omega) (by omega) OK1 (by omega) hbg C4 (by omega))
    clear hb4 C4 q4 e0 e1 e2 HC3 HQ3 F3 B3 OK1 ns1 SI
    go_wp2_with fail
    refine SL.out.mono ?_
    rintro e w5 ⟨rfl, C5, hb5, hf5⟩
    have R1 := hide (show CodK w5 b0 g N Mo (run s (tokBits ⟨(n : Int), 0, 0⟩)) by rw [HT.out]; exact C5.join (fun j hj => (HOB.out j hj).1) (by omega))
    have R2 := hide (B4.out.trans hb5)
    have R3 := hide (F4.out.trans (HJ.out _ _ hf5))
    clear C5 hb5 hf5 SL f0 f1 f2
    go_wp2_with fail
    exact bodyPost_ret (v := .tuple #[]) (by simp [results, Try.results60]) rfl ⟨rfl, R1.out, R2.out, R3.out⟩
  · obtain ⟨hm1, hm2, hf1, hf2⟩ : 3 ≤ tm ∧ tm ≤ 66 ∧ 1 ≤ tf ∧ tf ≤ 1024 := by rcases htwo with h | h; exact absurd h.1 hf0; exact h.2
    have hb0 : tb = 0 := by
      have h := ht
      unfold tokOk at h
      rw [if_neg (fun h => hf0 h.2)] at h
      exact (of_decide_eq_true h).1
    subst hb0
    obtain ⟨M, hM⟩ : ∃ M : Nat, M = (tm - 3).toNat := ⟨_, rfl⟩
    obtain ⟨Fa, hFa⟩ : ∃ Fa : Nat, Fa = (tf - 1).toNat := ⟨_, rfl⟩
    have HT := hide (show tokBits ⟨0, tm, tf⟩ = ((0, true) :: tree M 6 300) ++ tree Fa 10 400 from by rw [tokBits_match _ hf0, hM, hFa]; rfl)
    have hM2 : (M : Int) = tm - 3 := by omega
    have hF2 : (Fa : Int) = tf - 1 := by omega
    have hMn : M ≤ 63 := by omega
    have hFn : Fa ≤ 1023 := by omega
    clear hM hFa
    have SI := hide (show ∀ u : World, Calls Try.prog 83 #[.agg #[.int .i64 0, .int .i64 tm, .int .i64 tf]] u (fun e w' => e = .returned (.bool true) ∧ Below u.heap.size u w') from fun u => by
      have h := imp_isMatch 0 tm tf u
      rw [show ((tm : Int) != 0) = true from by simp; omega] at h
      exact h)
    have HQ := hide q1
    clear q1 htwo ht
    go_enter Try.func60, Try.ntmps60
    go_wp2_with fail
    refine (SI.out _).mono ?_
    rw [← HZ.out]
    generalize w.alloc (.cells #[.int .i64 0, .int .i64 tm, .int .i64 tf] 40) = W1 at *
    rintro e w2 ⟨rfl, hb2⟩
    have hs2 := hb2.size
    have C2 := C1.out.keep hb2.block
    have q2 := (hb2.block z (by omega)).trans HQ.out
    have SP := hide (imp_putK b0 g 0 (z + 1) (fun k => ob = some k) true s w2 HOK.out (by omega) (by omega) hbg C2 (by omega))
    have F2 := hide (FrK.of_below (g := g) (Mo := Mo) hb2 (show N ≤ W1.heap.size by omega))
    have B2 := hide (B1.out.trans (hb2.mono (show b0 ≤ W1.heap.size by omega)))
    have HQ2 := hide q2
    clear hb2 C2 q2 C1 HQ B1
    go_wp2_with fail
    refine SP.out.mono ?_
    rintro e w3 ⟨rfl, C3, hb3, hf3⟩
    have hs3 := hb3.size
    have q3 := (HF.out _ _ hf3).trans HQ2.out
    have F3 := hide ((F1.out.trans F2.out).trans (HJ.out _ _ hf3))
    have B3 := hide (B2.out.trans hb3)
    have HC3 := hide C3
    have HQ3 := hide q3
    have e0 : w3.cell? ⟨z, 0, none⟩ = some (.int .i64 0) := by simp [World.cell?, q3]
    have e1 : w3.cell? ⟨z, 1, none⟩ = some (.int .i64 tm) := by simp [World.cell?, q3]
    have e2 : w3.cell? ⟨z, 2, none⟩ = some (.int .i64 tf) := by simp [World.cell?, q3]
    clear C3 hb3 hf3 q3 SP B2 F1 F2 HQ2
    go_wp2_with fail
    refine (SI.out _).mono ?_
    rintro e w4 ⟨rfl, hb4⟩
    have hs4 := hb4.size
    have C4 := HC3.out.keep hb4.block
    have q4 := (hb4.block z (by omega)).trans HQ3.out
    have f0 : w4.cell? ⟨z, 0, none⟩ = some (.int .i64 0) := by simp [World.cell?, q4]
    have f1 : w4.cell? ⟨z, 1, none⟩ = some (.int .i64 tm) := by simp [World.cell?, q4]
    have f2 : w4.cell? ⟨z, 2, none⟩ = some (.int .i64 tf) := by simp [World.cell?, q4]
    have F4 := hide (F3.out.trans (FrK.of_below (g := g) (Mo := Mo) hb4 (show N ≤ w3.heap.size by omega)))
    have B4 := hide (B3.out.trans (hb4.mono (show b0 ≤ w3.heap.size by omega)))
    have OK1 := step_ok s 0 true HOK.out
    have ns0 := run_n_le [(0, true)] s
    have ns1 : (step s 0 true).n ≤ s.n + 1 := ns0
    clear ns0
    have HQ4 := hide q4
    have m1 : tm - 3 = ((M : Nat) : Int) := by omega
    have m2 : IntKind.i64.wrap (tm - 3) = ((M : Nat) : Int) := by rw [IntKind.wrap_i64]; omega
    have g1 : tf - 1 = ((Fa : Nat) : Int) := by omega
    have g2 : IntKind.i64.wrap (tf - 1) = ((Fa : Nat) : Int) := by rw [IntKind.wrap_i64]; omega
    have SL := hide (imp_lay64 b0 g M 6 300 (z + 1) (fun k => ob = some k) (step s 0 true) w4 (by omega) (by omega) (by omega) OK1 (by omega) hbg C4 (by omega))
    have HG := hide (And.intro OK1 (And.intro ns1 (And.intro g1 g2)))
    clear hM2 hF2 hb4 C4 q4 e0 e1 e2 HC3 HQ3 F3 B3 OK1 ns1 SI g1 g2
    go_wp2_with fail
    refine SL.out.mono ?_
    rintro e w5 ⟨rfl, C5, hb5, hf5⟩
    have hs5 := hb5.size
    have q5 := (HF.out _ _ hf5).trans HQ4.out
    obtain ⟨OK1, ns1, g1, g2⟩ := HG.out
    have h0 : w5.cell? ⟨z, 0, none⟩ = some (.int .i64 0) := by simp [World.cell?, q5]
    have h1 : w5.cell? ⟨z, 1, none⟩ = some (.int .i64 tm) := by simp [World.cell?, q5]
    have h2 : w5.cell? ⟨z, 2, none⟩ = some (.int .i64 tf) := by simp [World.cell?, q5]
    have F5 := hide (F4.out.trans (HJ.out _ _ hf5))
    have B5 := hide (B4.out.trans hb5)
    have ns2 := run_n_le (tree M 6 300) (step s 0 true)
    have tl : (tree M 6 300).length = 6 := treeG_len _ _ _ _
    have SL2 := hide (imp_lay64 b0 g Fa 10 400 (z + 1) (fun k => ob = some k) (run (step s 0 true) (tree M 6 300)) w5 (by omega) (by omega) (by omega) (run_ok _ _ OK1) (by omega) hbg C5 (by omega))
    clear C5 hb5 hf5 SL f0 f1 f2 m1 m2 q5 OK1 ns1 ns2 tl
    go_wp2_with fail
    refine SL2.out.mono ?_
    rintro e w6 ⟨rfl, C6, hb6, hf6⟩
    have R1 := hide (show CodK w6 b0 g N Mo (run s (tokBits ⟨0, tm, tf⟩)) by rw [HT.out, run_app]; exact C6.join (fun j hj => (HOB.out j hj).1) (by omega))
    have R2 := hide (B5.out.trans hb6)
    have R3 := hide (F5.out.trans (HJ.out _ _ hf6))
    clear C6 hb6 hf6 SL2 h0 h1 h2 g1 g2
    go_wp2_with fail
    go_end0
    exact ⟨rfl, R1.out, R2.out, R3.out⟩
end Go.Proofs.Ytdoodkabmeojmaa

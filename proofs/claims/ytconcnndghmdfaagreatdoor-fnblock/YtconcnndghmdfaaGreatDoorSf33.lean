/- Put together: RngA, RngQ, RngP, ImpTokS, BelowI. -/
import Derived.Test.YtconcnndghmdfaaGreatDoorSf32
import Derived.Deep.RegionWith
namespace Go.Proofs.YtconcnndghmdfaaGreatDoor
open Go.RowKit
theorem add_carry {low b n : Nat} (h : low + b < 4294967296 * 256 ^ n) (hc : 4294967296 ≤ low % 4294967296 + b) (hb : b ≤ 4294967295) : 0 < n ∧ (low + b) / 4294967296 = low / 4294967296 + 1 ∧ low / 4294967296 + 1 < 256 ^ n ∧ (low + b) % 4294967296 = (low % 4294967296 + b) % 4294967296 := by
 have h2 : (low + b) / 4294967296 = low / 4294967296 + 1 := by omega
 have h3 : low / 4294967296 + 1 < 256 ^ n := by
  rw [← h2]
  exact (Nat.div_lt_iff_lt_mul (by decide)).2 (by rw [Nat.mul_comm]; exact h)
 refine ⟨?_, h2, h3, by omega⟩
 rcases Nat.eq_zero_or_pos n with h0 | h0
 · subst h0; rw [Nat.pow_zero] at h3; omega
 · exact h0
set_option maxRecDepth 100000 in
set_option maxHeartbeats 800000 in
theorem imp_addK (base g size low n b : Nat) (ch : Nat → Nat) (w : World) (hn2 : n ≤ 100000) (hb : b ≤ 4294967295) (hfit : low + b < 4294967296 * 256 ^ n) (hbg : base ≤ g) (ov : Value) (hr : w.rowIs g 112 1603 (cdF size ch (low % 4294967296) ov)) (ho : ownB w base ov n (byN n (low / 4294967296))) (hd1 : ov.ownBlock ≠ some g) :
 Calls Tryz.prog 117 #[.pointer (some ⟨g, 0, none⟩), .int .u64 (b : Int)] w fun e w' => e = .returned (.tuple #[]) ∧ (w'.rowIs g 112 1603 (cdF size ch ((low + b) % 4294967296) ov) ∧ ownB w' base ov n (byN n ((low + b) / 4294967296))) ∧ Below base w w' ∧ ∀ k, k < w.heap.size → k ≠ g → ov.ownBlock ≠ some k → w'.heap[k]? = w.heap[k]? := by
 obtain ⟨l, hl⟩ : ∃ l, l = low % 4294967296 := ⟨_, rfl⟩
 rw [← hl] at hr
 have c1 := (cd_cells hr).2.1
 have f1 := hr.frozen 1601
 obtain ⟨m, hm⟩ : ∃ m, m = l + b := ⟨_, rfl⟩
 have k1 : (l : Int) + (b : Int) = (m : Int) := by omega
 have k2 : IntKind.u64.wrap ((l : Int) + (b : Int)) = (m : Int) := by rw [IntKind.wrap_u64]; omega
 have k3 : IntKind.u64.wrap (m : Int) = (m : Int) := by rw [IntKind.wrap_u64]; omega
 have hm3 : (m : Int) ≤ 8589934592 := by omega
 have R1 := (cd_set hr).2.1 m
 have O1 := ho.far (g := g) (k := 1601) (x := .int .u64 (m : Int)) hd1
 have B1 := (Below.refl base w).setCell (p := ⟨g, 1601, none⟩) hbg (.int .u64 (m : Int))
 have K1 : ∀ v k, k < w.heap.size → k ≠ g → (w.setCell ⟨g, 1601, none⟩ v).heap[k]? = w.heap[k]? := fun v k _ hk => Below.heap_setCell _ _ _ _ hk
 have d1 := (cd_cells R1).2.1
 have e1 := R1.frozen 1601
 have KK := hide K1
 clear K1
 by_cases hc : 4294967296 ≤ m
 · have hc' : (4294967295 : Int) < (m : Int) := by omega
   obtain ⟨q1, q2, q3, q4⟩ := add_carry hfit (show 4294967296 ≤ low % 4294967296 + b by omega) hb
   obtain ⟨go, cap, rfl, hgo, _⟩ := ho.form q1
   have hne : go ≠ g := fun e => hd1 (by rw [e]; rfl)
   obtain ⟨m2, hm2⟩ : ∃ x, x = m % 4294967296 := ⟨_, rfl⟩
   have a1 : bits .and .u64 (m : Int) 4294967295 = (m2 : Int) := by rw [and64 m (by omega), hm2]
   have R2 := (cd_set R1).2.1 m2
   have O2 := O1.far (g := g) (k := 1601) (x := .int .u64 (m2 : Int)) hd1
   have B2 := B1.setCell (p := ⟨g, 1601, none⟩) hbg (.int .u64 (m2 : Int))
   have HL := hide (show (low + b) % 4294967296 = m2 by rw [q4, ← hl, ← hm, hm2])
   have HV := hide q2
   have H := hide (And.intro R2 (And.intro O2 B2))
   clear hm hm2 hl R2 O2 B2 q4 q2 R1 O1 B1 hr ho
   go_enter Tryz.func117, Tryz.ntmps117
   go_wp2_with fail
   refine (imp_carry base g go n cap m2 size (low / 4294967296) ch _ q1 hn2 q3 H.out.1 H.out.2.1 hne).mono ?_
   rintro e w3 ⟨rfl, ho3, hg3⟩
   go_wp2_with fail
   go_end0
   refine ⟨rfl, ⟨?_, ?_⟩, ?_, fun k h1 h2 h3 => ?_⟩
   · rw [HL.out]
     exact H.out.1.of_block (hg3.block g H.out.1.lt (by simpa using fun e => hne e.symm))
   · rw [HV.out]; exact ho3
   · exact H.out.2.2.trans (grownBy_below hg3 hgo (Nat.le_trans hbg (Nat.le_of_lt H.out.1.lt)))
   · refine (hg3.block k (by simpa [World.setCell] using h1) (fun e => h3 (by rw [e]; rfl))).trans ?_
     rw [Below.heap_setCell _ _ _ _ h2]; exact KK.out _ k h1 h2
 · have hc' : ¬ (4294967295 : Int) < (m : Int) := by omega
   have HL := hide (show (low + b) % 4294967296 = m by omega)
   have HV := hide (show (low + b) / 4294967296 = low / 4294967296 by omega)
   have H := hide (And.intro R1 (And.intro O1 B1))
   clear hm hl R1 O1 B1 hr ho
   go_enter Tryz.func117, Tryz.ntmps117
   go_wp2_with fail
   go_end0
   exact ⟨rfl, ⟨by rw [HL.out]; exact H.out.1, by rw [HV.out]; exact H.out.2.1⟩, H.out.2.2, fun k h1 h2 _ => KK.out _ k h1 h2⟩
theorem CodP.keep {w w' : World} {base g size low n : Nat} {ch : Nat → Nat} (h : CodP w base g size ch low n) (hb : ∀ k, k < w.heap.size → w'.heap[k]? = w.heap[k]?) : CodP w' base g size ch low n := by
 obtain ⟨ov, hr, ho, hd⟩ := h
 refine ⟨ov, hr.of_block (hb g hr.lt), ?_, hd⟩
 obtain ⟨a, h1 | ⟨k, cap, cur, rfl, c1, c2, c3⟩⟩ := ho
 · exact ⟨a, .inl h1⟩
 · exact ⟨a, .inr ⟨k, cap, cur, rfl, c1, (hb k (Array.getElem?_eq_some_iff.1 c2).1).trans c2, c3⟩⟩
def size0 (w : World) (g : Nat) : Nat := match w.cell? ⟨g, 0, none⟩ with
 | some (.int _ n) => n.toNat
 | _ => 0
theorem size0_of {w : World} {g x : Nat} (h : w.cell? ⟨g, 0, none⟩ = some (.int .u64 (x : Nat))) : size0 w g = x := by unfold size0; rw [h]; rfl
def CodK (w : World) (base g N : Nat) (Mo : Nat → Prop) (s : RC) : Prop :=
 ∃ ov, w.rowIs g 112 1603 (cdF s.size s.ch (s.low % 4294967296) ov) ∧ ownB w base ov s.n (byN s.n (s.low / 4294967296)) ∧ ov.ownBlock ≠ some g ∧ ∀ k, ov.ownBlock = some k → Mo k ∨ N ≤ k
def FrK (N g : Nat) (Mo : Nat → Prop) (w w' : World) : Prop := w.heap.size ≤ w'.heap.size ∧ ∀ k, k < N → k ≠ g → ¬ Mo k → w'.heap[k]? = w.heap[k]?
theorem FrK.refl (N g : Nat) (Mo : Nat → Prop) (w : World) : FrK N g Mo w w := ⟨Nat.le_refl _, fun _ _ _ _ => rfl⟩
theorem FrK.trans {N g : Nat} {Mo : Nat → Prop} {a b c : World} (h : FrK N g Mo a b) (k : FrK N g Mo b c) : FrK N g Mo a c := ⟨Nat.le_trans h.1 k.1, fun j h1 h2 h3 => (k.2 j h1 h2 h3).trans (h.2 j h1 h2 h3)⟩
theorem FrK.of_below {N g : Nat} {Mo : Nat → Prop} {a b : World} (h : Below a.heap.size a b) (hN : N ≤ a.heap.size) : FrK N g Mo a b := ⟨h.size, fun j h1 _ _ => h.block j (Nat.lt_of_lt_of_le h1 hN)⟩
theorem FrK.of_grown {N g : Nat} {Mo : Nat → Prop} {a b : World} (h : a.grownBy b (some g)) (hN : N ≤ a.heap.size) : FrK N g Mo a b := ⟨h.size, fun j h1 h2 _ => h.block j (Nat.lt_of_lt_of_le h1 hN) (fun e => h2 (by cases e; rfl))⟩
theorem FrK.of_off {N g : Nat} {Mo : Nat → Prop} {a b : World} {ov : Value} (hs : a.heap.size ≤ b.heap.size) (h : ∀ k, k < a.heap.size → k ≠ g → ov.ownBlock ≠ some k → b.heap[k]? = a.heap[k]?) (hN : N ≤ a.heap.size) (hM : ∀ k, ov.ownBlock = some k → Mo k ∨ N ≤ k) : FrK N g Mo a b :=
 ⟨hs, fun j h1 h2 h3 => h j (Nat.lt_of_lt_of_le h1 hN) h2 (fun e => by rcases hM j e with h | h; exact h3 h; omega)⟩
theorem CodK.keep {w w' : World} {base g N : Nat} {Mo : Nat → Prop} {s : RC} (h : CodK w base g N Mo s) (hb : ∀ k, k < w.heap.size → w'.heap[k]? = w.heap[k]?) : CodK w' base g N Mo s := by
 obtain ⟨ov, hr, ho, hd, hm⟩ := h
 refine ⟨ov, hr.of_block (hb g hr.lt), ?_, hd, hm⟩
 obtain ⟨a, h1 | ⟨k, cap, cur, rfl, c1, c2, c3⟩⟩ := ho
 · exact ⟨a, .inl h1⟩
 · exact ⟨a, .inr ⟨k, cap, cur, rfl, c1, (hb k (Array.getElem?_eq_some_iff.1 c2).1).trans c2, c3⟩⟩
set_option maxRecDepth 100000 in
set_option maxHeartbeats 1600000 in
theorem imp_putK (base g c N : Nat) (Mo : Nat → Prop) (one : Bool) (s : RC) (w : World) (hok : RcOk s) (hn : s.n ≤ 90000) (hc : c < 1600) (hbg : base ≤ g) (hcod : CodK w base g N Mo s) (hN : N ≤ w.heap.size) :
 Calls Tryz.prog 85 #[.pointer (some ⟨g, 0, none⟩), .agg #[.int .i64 (c : Int), .bool one]] w fun e w' => e = .returned (.tuple #[]) ∧ CodK w' base g N Mo (step s c one) ∧ Below base w w' ∧ FrK N g Mo w w' := by
 obtain ⟨P, hP⟩ : ∃ P, P = part1 s c one := ⟨_, rfl⟩
 have hpo := part1_ok s c one hok
 rw [← hP] at hpo
 have HPS := hide hP
 have HNOK := hide (norm_ok P hpo.1 hpo.2.1 hpo.2.2.1 (by rw [hpo.2.2.2.2]; exact hpo.2.2.2.1))
 have HPN := hide (show P.n ≤ 100000 ∧ P.size ≤ 4294967295 ∧ 131072 ≤ P.size from ⟨by rw [hpo.2.2.2.2]; omega, hpo.2.1, hpo.1⟩)
 obtain ⟨b1, b2⟩ := bound_in s c hok
 have hlo := hok.lo
 have hhi := hok.hi
 have hch := hok.ch c
 have hfit := hide hok.fit
 obtain ⟨ov, hr, ho, hd1, hMo⟩ := hcod
 obtain ⟨b, hb⟩ : ∃ b, b = bound s c := ⟨_, rfl⟩
 have HB := hide (show s.size / 2048 * s.ch c = b from hb.symm)
 rw [← hb] at b1 b2
 have hgl := hr.lt
 have hvl : ∀ k, ov.ownBlock = some k → k < w.heap.size := fun k hk => (World.ownsRow.lt ho k hk).2
 have R1 := hr.alloc (.cells #[.int .i64 (c : Int), .bool one] 122)
 have O1 : ownB (w.alloc (.cells #[.int .i64 (c : Int), .bool one] 122)) base ov s.n (byN s.n (s.low / 4294967296)) := World.ownsRow.alloc ho _
 have B1 := (Below.refl base w).alloc (show base ≤ w.heap.size by omega) (.cells #[.int .i64 (c : Int), .bool one] 122)
 have e0 : (w.alloc (.cells #[.int .i64 (c : Int), .bool one] 122)).cell? ⟨w.heap.size, 0, none⟩ = some (.int .i64 (c : Int)) := by simp
 have e1 : (w.alloc (.cells #[.int .i64 (c : Int), .bool one] 122)).cell? ⟨w.heap.size, 1, none⟩ = some (.bool one) := by simp
 have hz1 : w.heap.size < (w.alloc (.cells #[.int .i64 (c : Int), .bool one] 122)).heap.size := by simp
 have HV := hide hvl
 have HMO := hide hMo
 have F1 := hide (show FrK N g Mo w (w.alloc (.cells #[.int .i64 (c : Int), .bool one] 122)) from FrK.of_below ((Below.refl _ w).alloc (Nat.le_refl _) _) hN)
 have hN1 : N ≤ (w.alloc (.cells #[.int .i64 (c : Int), .bool one] 122)).heap.size := by simp; omega
 clear hMo hvl hr ho hb hpo hP
 go_enter Tryz.func85, Tryz.ntmps85
 go_wp2_with fail
 generalize w.alloc (.cells #[.int .i64 (c : Int), .bool one] 122) = W1 at *
 have hz : g ≠ w.heap.size := by omega
 generalize w.heap.size = z at *
 have SB := hide (show ∀ n, Calls Tryz.prog 116 #[.pointer (some ⟨g, 0, none⟩), .int .i64 (c : Int)] (W1.drewN n) fun e w' => e = .returned (.int .u64 (b : Int)) ∧ ∃ m, w' = (W1.drewN n).drewN m by
  intro n
  have h := imp_bound g 112 s.size (s.low % 4294967296) c s.ch ov (W1.drewN n) hhi hc (by omega) R1
  rw [HB.out] at h; exact h)
 go_quiet ((go_at_call 116; refine Calls.quiet_of (SB.out _)))
 have R2 : (W1.drewN nq).rowIs g 112 1603 (cdF s.size s.ch (s.low % 4294967296) ov) := R1
 have O2 : ownB (W1.drewN nq) base ov s.n (byN s.n (s.low / 4294967296)) := O1
 have B2 : Below base w (W1.drewN nq) := B1.trans ⟨rfl, rfl, rfl, Nat.le_refl _, fun _ _ => rfl⟩
 have e0' : (W1.drewN nq).cell? ⟨z, 0, none⟩ = some (.int .i64 (c : Int)) := e0
 have e1' : (W1.drewN nq).cell? ⟨z, 1, none⟩ = some (.bool one) := e1
 have hz2 : z < (W1.drewN nq).heap.size := hz1
 have F2 := hide (show FrK N g Mo w (W1.drewN nq) from F1.out)
 have hN2 : N ≤ (W1.drewN nq).heap.size := hN1
 generalize W1.drewN nq = W2 at *
 clear F1 hN1
 clear R1 O1 B1 e0 e1 SB hz1
 cases one with
 | true =>
   have SA := hide (imp_addK base g s.size s.low s.n b s.ch W2 (by omega) (by omega) (by have := hfit.out; omega) hbg ov R2 O2 hd1)
   clear R2 O2
   go_wp2_with fail
   refine SA.out.mono ?_
   rintro e W3 ⟨rfl, C3, B3, K3⟩
   have hk := K3 z hz2 (fun e => hz e.symm) (fun e => absurd (HV.out z e) (by omega))
   have e0 : W3.cell? ⟨z, 0, none⟩ = some (.int .i64 (c : Int)) := (World.cell?_of_block hk).trans e0'
   have e1 : W3.cell? ⟨z, 1, none⟩ = some (.bool true) := (World.cell?_of_block hk).trans e1'
   have B4 := B2.trans B3
   obtain ⟨r3, o3⟩ := C3
   have d3 := hd1
   have F3 := hide (F2.out.trans (FrK.of_off B3.size K3 hN2 HMO.out))
   have hN3 : N ≤ W3.heap.size := by have := B3.size; omega
   have HPE := hide (show P = ⟨s.size - b, setCh s.ch c (chOne (s.ch c)), s.low + b, s.n⟩ by rw [HPS.out, ← HB.out]; rfl)
   clear SA K3 hk e0' e1' B2 B3
   go_wp2_with fail
   go_region_with ((go_at_call 118; refine (imp_narrow g 112 s.size ((s.low + b) % 4294967296) c b true s.ch _ W3.drew hhi (by omega) hc (by omega) r3.drew).mono ?_; rintro e w9 ⟨rfl, r9, g9⟩))
   have HCOD := hide (show CodK w9 base g N Mo P by
    rw [HPE.out]
    refine ⟨_, ?_, World.ownsRow.kept (World.ownsRow.drew o3) g9 (.inr d3), d3, HMO.out⟩
    exact r9)
   have HFR := hide (show FrK N g Mo w w9 from F3.out.trans (FrK.of_grown (a := W3.drew) g9 hN3))
   have hN9 : N ≤ w9.heap.size := by have := g9.size; exact Nat.le_trans hN3 this
   have HBEL := hide (B4.drew.trans (grownBy_below g9 hbg (show base ≤ W3.heap.size by have := r3.lt; omega)))
   clear r9 g9 r3 o3 B4 e0 e1
   go_wp2_with fail
   go_loopw [22] (fun _ wx => ∃ t : RC, Hid (t = P ∨ (t = norm P ∧ P.size < 16777216)) ∧ Hid (CodK wx base g N Mo t) ∧ Hid (Below base w wx) ∧ Hid (FrK N g Mo w wx) ∧ N ≤ wx.heap.size) (fun _ wx => if size0 wx g < 16777216 then 1 else 0)
   case atStart => exact ⟨P, .inl rfl, HCOD, HBEL, HFR, hN9⟩
   case round =>
    clear HCOD HBEL HFR hN9
    obtain ⟨t, ht, hcod, hbel, hfr, hNr⟩ := hrel
    obtain ⟨ov, hr, ho, hd, hmo⟩ := hcod.out
    have HMO2 := hide hmo
    clear hmo
    have hsw := hide (size0_of (cd_cells hr).1)
    by_cases hsz : t.size < 16777216
    · have htP : t = P := by
       rcases ht.out with h | ⟨h, h2⟩
       · exact h
       · rw [h] at hsz; exact absurd hsz (by have := HNOK.out.lo; omega)
      have SW := hide (imp_widen_yes g 112 t.size (t.low % 4294967296) t.ch ov wr hsz hr)
      have HO := hide ho
      have HT := hide htP
      have hgl := hr.lt
      clear hr ho htP hcod
      go_wp2_with fail
      refine SW.out.mono ?_
      rintro e w1 ⟨rfl, r1, g1⟩
      have SS := hide (imp_shiftK base g (256 * t.size) t.low t.n t.ch ov w1 (by rw [HT.out]; exact HPN.out.1) hbg r1 (HO.out.kept g1 (.inr hd)) hd)
      have hN1 : N ≤ w1.heap.size := by have := g1.size; omega
      have FR1 := hide (hfr.out.trans (FrK.of_grown g1 hNr))
      have hb1 := hide (hbel.out.trans (grownBy_below g1 hbg (by omega)))
      clear r1 g1 SW hbel
      go_wp2_with fail
      refine SS.out.mono ?_
      rintro e w2 ⟨rfl, C2, hb2, K2⟩
      have hb3 := hide (hb1.out.trans hb2)
      have hC3 := hide (show CodK w2 base g N Mo (norm P) by
       rw [norm, if_pos (by rw [← HT.out]; exact hsz), ← HT.out]
       obtain ⟨o3, r3, p3, q3, s3⟩ := C2
       exact ⟨o3, r3, p3, q3, fun k hk => by rcases s3 k hk with h | h; exact HMO2.out k h; exact .inr (by omega)⟩)
      have hF3 := hide (FR1.out.trans (FrK.of_off hb2.size K2 hN1 HMO2.out))
      have hN2' : N ≤ w2.heap.size := by have := hb2.size; omega
      have hs3 := hide (show size0 w2 g = 256 * t.size by obtain ⟨o3, r3, _⟩ := C2; exact size0_of (cd_cells r3).1)
      clear C2 hb2 hb1 SS K2 FR1 hfr
      go_wp2_with fail
      go_roundw
      case rel => exact ⟨norm P, .inr ⟨rfl, by rw [← HT.out]; exact hsz⟩, hC3, hb3, hF3, hN2'⟩
      case measure =>
       rw [hs3.out, hsw.out, if_pos hsz, if_neg (by have h := HNOK.out.lo; rw [norm, if_pos (by rw [← HT.out]; exact hsz)] at h; have h' : 16777216 ≤ 256 * P.size := h; rw [← HT.out] at h'; omega)]
       omega
    · have htS := hide (show t = norm P by
       rcases ht.out with h | ⟨h, _⟩
       · rw [norm, if_neg (by rw [← h]; exact hsz), h]
       · exact h)
      have SW := hide (imp_widen_no g 112 t.size (t.low % 4294967296) t.ch ov wr hsz hr)
      clear hr ho
      go_wp2_with fail
      refine SW.out.mono ?_
      rintro e w1 ⟨rfl, rfl⟩
      go_wp2_with fail
      go_end0
      exact ⟨rfl, by show CodK _ base g N Mo (norm (part1 s c _)); rw [← HPS.out, ← htS.out]; exact hcod.out, hbel.out, hfr.out⟩
 | false =>
   have HPE := hide (show P = ⟨b, setCh s.ch c (chNot (s.ch c)), s.low, s.n⟩ by rw [HPS.out, ← HB.out]; rfl)
   go_wp2_with fail
   go_region_with ((go_at_call 118; refine (imp_narrow g 112 s.size (s.low % 4294967296) c b false s.ch _ W2.drew hhi (by omega) hc (by omega) R2.drew).mono ?_; rintro e w9 ⟨rfl, r9, g9⟩))
   have HCOD := hide (show CodK w9 base g N Mo P by
    rw [HPE.out]
    refine ⟨_, ?_, World.ownsRow.kept (World.ownsRow.drew O2) g9 (.inr hd1), hd1, HMO.out⟩
    exact r9)
   have HFR := hide (show FrK N g Mo w w9 from F2.out.trans (FrK.of_grown (a := W2.drew) g9 hN2))
   have hN9 : N ≤ w9.heap.size := by have := g9.size; exact Nat.le_trans hN2 this
   have HBEL := hide (B2.drew.trans (grownBy_below g9 hbg (show base ≤ W2.heap.size by have := R2.lt; omega)))
   clear r9 g9 R2 O2 B2 e0' e1'
   go_wp2_with fail
   go_loopw [22] (fun _ wx => ∃ t : RC, Hid (t = P ∨ (t = norm P ∧ P.size < 16777216)) ∧ Hid (CodK wx base g N Mo t) ∧ Hid (Below base w wx) ∧ Hid (FrK N g Mo w wx) ∧ N ≤ wx.heap.size) (fun _ wx => if size0 wx g < 16777216 then 1 else 0)
   case atStart => exact ⟨P, .inl rfl, HCOD, HBEL, HFR, hN9⟩
   case round =>
    clear HCOD HBEL HFR hN9
    obtain ⟨t, ht, hcod, hbel, hfr, hNr⟩ := hrel
    obtain ⟨ov, hr, ho, hd, hmo⟩ := hcod.out
    have HMO2 := hide hmo
    clear hmo
    have hsw := hide (size0_of (cd_cells hr).1)
    by_cases hsz : t.size < 16777216
    · have htP : t = P := by
       rcases ht.out with h | ⟨h, h2⟩
       · exact h
       · rw [h] at hsz; exact absurd hsz (by have := HNOK.out.lo; omega)
      have SW := hide (imp_widen_yes g 112 t.size (t.low % 4294967296) t.ch ov wr hsz hr)
      have HO := hide ho
      have HT := hide htP
      have hgl := hr.lt
      clear hr ho htP hcod
      go_wp2_with fail
      refine SW.out.mono ?_
      rintro e w1 ⟨rfl, r1, g1⟩
      have SS := hide (imp_shiftK base g (256 * t.size) t.low t.n t.ch ov w1 (by rw [HT.out]; exact HPN.out.1) hbg r1 (HO.out.kept g1 (.inr hd)) hd)
      have hN1 : N ≤ w1.heap.size := by have := g1.size; omega
      have FR1 := hide (hfr.out.trans (FrK.of_grown g1 hNr))
      have hb1 := hide (hbel.out.trans (grownBy_below g1 hbg (by omega)))
      clear r1 g1 SW hbel
      go_wp2_with fail
      refine SS.out.mono ?_
      rintro e w2 ⟨rfl, C2, hb2, K2⟩
      have hb3 := hide (hb1.out.trans hb2)
      have hC3 := hide (show CodK w2 base g N Mo (norm P) by
       rw [norm, if_pos (by rw [← HT.out]; exact hsz), ← HT.out]
       obtain ⟨o3, r3, p3, q3, s3⟩ := C2
       exact ⟨o3, r3, p3, q3, fun k hk => by rcases s3 k hk with h | h; exact HMO2.out k h; exact .inr (by omega)⟩)
      have hF3 := hide (FR1.out.trans (FrK.of_off hb2.size K2 hN1 HMO2.out))
      have hN2' : N ≤ w2.heap.size := by have := hb2.size; omega
      have hs3 := hide (show size0 w2 g = 256 * t.size by obtain ⟨o3, r3, _⟩ := C2; exact size0_of (cd_cells r3).1)
      clear C2 hb2 hb1 SS K2 FR1 hfr
      go_wp2_with fail
      go_roundw
      case rel => exact ⟨norm P, .inr ⟨rfl, by rw [← HT.out]; exact hsz⟩, hC3, hb3, hF3, hN2'⟩
      case measure =>
       rw [hs3.out, hsw.out, if_pos hsz, if_neg (by have h := HNOK.out.lo; rw [norm, if_pos (by rw [← HT.out]; exact hsz)] at h; have h' : 16777216 ≤ 256 * P.size := h; rw [← HT.out] at h'; omega)]
       omega
    · have htS := hide (show t = norm P by
       rcases ht.out with h | ⟨h, _⟩
       · rw [norm, if_neg (by rw [← h]; exact hsz), h]
       · exact h)
      have SW := hide (imp_widen_no g 112 t.size (t.low % 4294967296) t.ch ov wr hsz hr)
      clear hr ho
      go_wp2_with fail
      refine SW.out.mono ?_
      rintro e w1 ⟨rfl, rfl⟩
      go_wp2_with fail
      go_end0
      exact ⟨rfl, by show CodK _ base g N Mo (norm (part1 s c _)); rw [← HPS.out, ← htS.out]; exact hcod.out, hbel.out, hfr.out⟩
theorem parF_set {w : World} {g T size c X : Nat} {ch : Nat → Nat} {n : Nat} (h : w.rowIs g T n (parF size ch)) : (w.setCell ⟨g, 1 + c, none⟩ (.int .u64 (X : Int))).rowIs g T n (parF size (setCh ch c X)) := by
 refine (h.set (1 + c) _).congr ?_
 intro i _
 show (if i = 1 + c then Value.int .u64 (X : Int) else parF size ch i) = parF size (setCh ch c X) i
 unfold parF setCh
 by_cases e : i = 1 + c
 · rw [if_pos e, if_neg (by omega), if_pos (by omega)]
 · rw [if_neg e]
   by_cases e0 : i = 0
   · rw [if_pos e0, if_pos e0]
   · rw [if_neg e0, if_neg e0, if_neg (by omega)]
set_option maxRecDepth 100000 in
set_option maxHeartbeats 800000 in
theorem imp_parting (w : World) :
 Calls Tryz.prog 79 #[] w fun e w' => e = .returned (.agg (vL 1601 (parF 4294967295 fun _ => 1024)).toArray) ∧ Below w.heap.size w w' := by
 obtain ⟨hz, hsz⟩ := zero_of_info Tryz.infoPart
 have hbt := hide Tryz.builtPart
 have r0 := vrow_alloc w 109 1601 (parF 0 fun _ => 0)
 have r1 := vrow_alloc (w.alloc (.cells (vL 1601 (parF 0 fun _ => 0)).toArray 109)) 109 1601 (parF 0 fun _ => 0)
 rw [World.size_alloc] at r1
 have hth := vrow_there (o := 0) (n := 1601) r1 (by omega)
 have r2 := vrow_setCells0 (k := parF 4294967295 fun _ => 0) r1
 have r3 := row_setCells_other (b := w.heap.size + 1) (o := 0) (vs := vL 1601 (parF 4294967295 fun _ => 0)) (r0.alloc (.cells (vL 1601 (parF 0 fun _ => 0)).toArray 109)) (by omega)
 have rb := below_setCells' (b := w.heap.size + 1) (o := 0) (vs := vL 1601 (parF 4294967295 fun _ => 0)) (((Below.refl w.heap.size w).alloc (Nat.le_refl _) (.cells (vL 1601 (parF 0 fun _ => 0)).toArray 109)).alloc (by simp) (.cells (vL 1601 (parF 0 fun _ => 0)).toArray 109)) (by omega)
 have H := hide (And.intro r2 (And.intro r3 rb))
 clear r0 r1 r2 r3 rb
 go_enter Tryz.func79, Tryz.ntmps79
 go_wp2_with (first | (with_reducible (show wpList _ _ _ ({ dst := _, op := .build _ _, type := _, pos := _, after := _, guard := _ } :: _) _ _); refine wpList_build_1 rfl 109 0 _ rfl (.int .u64 4294967295) rfl _ hbt.out ?_) | (with_reducible (show wpList _ _ _ ({ dst := _, op := .store _ _ _, type := _, pos := _, after := _, guard := _ } :: _) _ _); refine wpList_store_V rfl 109 _ _ rfl (w.heap.size + 1) 0 1601 (parF 4294967295 fun _ => 0) rfl rfl hth hsz (fun j _ => parF_one _ _ j) ?_))
 clear hz hbt hth
 obtain ⟨r2, r3, rb⟩ := H.out
 generalize ((w.alloc (.cells (vL 1601 (parF 0 fun _ => 0)).toArray 109)).alloc (.cells (vL 1601 (parF 0 fun _ => 0)).toArray 109)).setCells (w.heap.size + 1) 0 (vL 1601 (parF 4294967295 fun _ => 0)) = W1 at *
 clear H
 go_loopw [4] (fun i wx => ∃ (k : Nat) (f : Nat → Nat), k ≤ 1600 ∧ i = .int .i64 k ∧ Hid (∀ j, j < k → f j = 1024) ∧ wx.rowIs (w.heap.size + 1) 109 1601 (parF 4294967295 f) ∧ wx.rowIs w.heap.size 109 1601 (parF 0 fun _ => 0) ∧ Below w.heap.size w wx) (fun i _ => 1600 - (intOf i).toNat)
 case atStart => exact ⟨0, fun _ => 0, by omega, rfl, fun j hj => by omega, r2, r3, rb⟩
 case round =>
  clear r2 r3 rb
  obtain ⟨k, f, hk, rfl, hf, hrw, hres, hbl⟩ := hrel
  by_cases hlt : k < 1600
  · have ck := hrw.cell (i := 1 + k) (by omega)
    have hfz := hrw.frozen (1 + k)
    have hlt' : (k : Int) < 1600 := by omega
    clear hsz
    go_wp2_with fail
    refine ⟨⟨k + 1, setCh f k 1024, by omega, by go_num, fun j hj => ?_, parF_set hrw, hres.setOther (by simp) _, hbl.setCell (by simp) _⟩, by simp [intOf]; omega⟩
    unfold setCh
    by_cases e : j = k
    · rw [if_pos e]
    · rw [if_neg e]; exact hf.out j (by omega)
  · have hlt' : ¬ (k : Int) < 1600 := by omega
    have hrw2 : wr.rowIs (w.heap.size + 1) 109 1601 (parF 4294967295 fun _ => 1024) := hrw.congr fun i hi => by
     unfold parF
     by_cases e : i = 0
     · rw [if_pos e, if_pos e]
     · rw [if_neg e, if_neg e, hf.out (i - 1) (by omega)]
    have hth := vrow_there (o := 0) (n := 1601) hres (by omega)
    have hfin := vrow_setCells0 (k := parF 4294967295 fun _ => 1024) hres
    clear hf hrw
    go_wp2_with (first | (with_reducible (show wpList _ _ _ ({ dst := _, op := .load _ _, type := _, pos := _, after := _, guard := _ } :: _) _ _); refine wpList_load_V rfl 109 _ rfl (w.heap.size + 1) 0 rfl _ _ 1601 _ (parF 4294967295 fun _ => 1024) _ hrw2 (by omega) (fun j _ => by rw [Nat.zero_add]) Tryz.underlying109 rfl hsz ?_) | (with_reducible (show wpList _ _ _ ({ dst := _, op := .store _ _ _, type := _, pos := _, after := _, guard := _ } :: _) _ _); refine wpList_store_V rfl 109 _ _ rfl w.heap.size 0 1601 (parF 4294967295 fun _ => 1024) rfl rfl hth hsz (fun j _ => parF_one _ _ j) ?_))
    exact bodyPost_ret (ret_V Tryz.results79 _ _ w.heap.size 1601 _ (parF 4294967295 fun _ => 1024) _ rfl hfin Tryz.underlying109 rfl hsz) rfl ⟨rfl, below_setCells' hbl (Nat.le_refl _)⟩
set_option maxRecDepth 100000 in
set_option maxHeartbeats 400000 in
theorem imp_isMatch (b m f : Int) (w : World) :
 Calls Tryz.prog 86 #[.agg #[.int .i64 b, .int .i64 m, .int .i64 f]] w fun e w' => e = .returned (.bool (m != 0)) ∧ Below w.heap.size w w' := by
 go_enter Tryz.func86, Tryz.ntmps86
 go_wp2_with fail
 go_ret
 exact ⟨rfl, (Below.refl _ _).alloc (Nat.le_refl _) _⟩
set_option maxRecDepth 100000 in
set_option maxHeartbeats 400000 in
theorem imp_size (b m f : Int) (w : World) :
 Calls Tryz.prog 84 #[.agg #[.int .i64 b, .int .i64 m, .int .i64 f]] w fun e w' => e = .returned (.int .i64 (tokSize m)) ∧ Below w.heap.size w w' := by
 have SI := hide (fun w => imp_isMatch b m f w)
 by_cases hm : m = 0
 · have hd : (m != 0) = false := by rw [hm]; rfl
   have HE := hide (show tokSize m = 1 from if_pos hm)
   rw [hd] at SI
   clear hm
   go_enter Tryz.func84, Tryz.ntmps84
   go_wp2_with fail
   refine (SI.out _).mono ?_
   rintro e w1 ⟨rfl, hb⟩
   go_wp2_with fail
   go_ret
   exact ⟨by rw [HE.out]; rfl, ((Below.refl _ _).alloc (Nat.le_refl _) _).trans (hb.mono (by simp))⟩
 · have hd : (m != 0) = true := by simpa using hm
   have HE := hide (show tokSize m = m from if_neg hm)
   rw [hd] at SI
   clear hm
   go_enter Tryz.func84, Tryz.ntmps84
   go_wp2_with fail
   refine (SI.out _).mono ?_
   rintro e w1 ⟨rfl, hb⟩
   have c1 := (hb.cell (p := ⟨w.heap.size, 1, none⟩) (by simp)).trans (show (w.alloc (.cells #[.int .i64 b, .int .i64 m, .int .i64 f] 80)).cell? ⟨w.heap.size, 1, none⟩ = some (.int .i64 m) by simp)
   go_wp2_with fail
   go_ret
   exact ⟨by rw [HE.out]; rfl, ((Below.refl _ _).alloc (Nat.le_refl _) _).trans (hb.mono (by simp))⟩
set_option maxRecDepth 100000 in
set_option maxHeartbeats 400000 in
theorem imp_below (node : Nat) (one : Bool) (w : World) (h : node < 100000) :
 Calls Tryz.prog 120 #[.int .i64 (node : Int), .bool one] w fun e w' => e = .returned (.int .i64 ((2 * node + bN one : Nat) : Int)) ∧ w = w' := by
 cases one with
 | true =>
   have e : ((2 * node + bN true : Nat) : Int) = 2 * (node : Int) + 1 := by show ((2 * node + 1 : Nat) : Int) = _; omega
   rw [e]
   go_enter Tryz.func120, Tryz.ntmps120
   go_wp2_with fail
   go_ret
   exact ⟨rfl, rfl⟩
 | false =>
   have e : ((2 * node + bN false : Nat) : Int) = 2 * (node : Int) := by show ((2 * node + 0 : Nat) : Int) = _; omega
   rw [e]
   go_enter Tryz.func120, Tryz.ntmps120
   go_wp2_with fail
   go_ret
   exact ⟨rfl, rfl⟩
end Go.Proofs.YtconcnndghmdfaaGreatDoor

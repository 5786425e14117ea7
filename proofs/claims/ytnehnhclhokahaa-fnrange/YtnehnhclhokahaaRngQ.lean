/- The walk over the program's put. -/
import Derived.Test.YtnehnhclhokahaaRngA
import Derived.Deep.RegionWith
namespace Go.Proofs.Ytnehnhclhokahaa
open Go.RowKit
/-- A coder of the program, by the state that it bears. -/
def CodR (w : World) (base g : Nat) (s : RC) : Prop := CodP w base g s.size s.ch s.low s.n
theorem CodP.keep {w w' : World} {base g size low n : Nat} {ch : Nat → Nat} (h : CodP w base g size ch low n) (hb : ∀ k, k < w.heap.size → w'.heap[k]? = w.heap[k]?) : CodP w' base g size ch low n := by
  obtain ⟨ov, hr, ho, hd⟩ := h
  refine ⟨ov, hr.of_block (hb g hr.lt), ?_, hd⟩
  obtain ⟨a, h1 | ⟨k, cap, cur, rfl, c1, c2, c3⟩⟩ := ho
  · exact ⟨a, .inl h1⟩
  · exact ⟨a, .inr ⟨k, cap, cur, rfl, c1, (hb k (Array.getElem?_eq_some_iff.1 c2).1).trans c2, c3⟩⟩
/-- The range's size, off the block. -/
def size0 (w : World) (g : Nat) : Nat := match w.cell? ⟨g, 0, none⟩ with
  | some (.int _ n) => n.toNat
  | _ => 0
theorem size0_of {w : World} {g x : Nat} (h : w.cell? ⟨g, 0, none⟩ = some (.int .u64 (x : Nat))) : size0 w g = x := by unfold size0; rw [h]; rfl
set_option maxRecDepth 100000 in
set_option maxHeartbeats 1600000 in
theorem imp_put (base g c : Nat) (one : Bool) (s : RC) (w : World) (hok : RcOk s) (hn : s.n ≤ 10000) (hc : c < 1600) (hbg : base ≤ g) (hcod : CodR w base g s) :
    Calls Try.prog 27 #[.pointer (some ⟨g, 0, none⟩), .agg #[.int .i64 (c : Int), .bool one]] w fun e w' => e = .returned (.tuple #[]) ∧ CodR w' base g (step s c one) ∧ Below base w w' := by
  obtain ⟨P, hP⟩ : ∃ P, P = part1 s c one := ⟨_, rfl⟩
  have hpo := part1_ok s c one hok
  rw [← hP] at hpo
  have HPS := hide hP
  have HNOK := hide (norm_ok P hpo.1 hpo.2.1 hpo.2.2.1 (by rw [hpo.2.2.2.2]; exact hpo.2.2.2.1))
  have HPN := hide (show P.n ≤ 100000 ∧ P.size ≤ 4294967295 ∧ 131072 ≤ P.size from ⟨by rw [hpo.2.2.2.2]; omega, hpo.2.1, hpo.1⟩)
  obtain ⟨b1, b2⟩ := bound_in s c hok
  have hlo := hok.lo
  have hhi := hok.hi
  have hch := hok.ch c
  have hfit := hide hok.fit
  obtain ⟨ov, hr, ho, hd1⟩ := hcod
  obtain ⟨b, hb⟩ : ∃ b, b = bound s c := ⟨_, rfl⟩
  have HB := hide (show s.size / 2048 * s.ch c = b from hb.symm)
  rw [← hb] at b1 b2
  have hgl := hr.lt
  have hvl : ∀ k, ov.ownBlock = some k → k < w.heap.size := fun k hk => (World.ownsRow.lt ho k hk).2
  have R1 := hr.alloc (.cells #[.int .i64 (c : Int), .bool one] 28)
  have O1 : ownB (w.alloc (.cells #[.int .i64 (c : Int), .bool one] 28)) base ov s.n (byN s.n (s.low / 4294967296)) := World.ownsRow.alloc ho _
  have B1 := (Below.refl base w).alloc (show base ≤ w.heap.size by omega) (.cells #[.int .i64 (c : Int), .bool one] 28)
  have e0 : (w.alloc (.cells #[.int .i64 (c : Int), .bool one] 28)).cell? ⟨w.heap.size, 0, none⟩ = some (.int .i64 (c : Int)) := by simp
  have e1 : (w.alloc (.cells #[.int .i64 (c : Int), .bool one] 28)).cell? ⟨w.heap.size, 1, none⟩ = some (.bool one) := by simp
  have hz1 : w.heap.size < (w.alloc (.cells #[.int .i64 (c : Int), .bool one] 28)).heap.size := by simp
  have HV := hide hvl
  clear hvl hr ho hb hpo hP
  go_enter Try.func27, Try.ntmps27
  go_wp2_with fail
  generalize w.alloc (.cells #[.int .i64 (c : Int), .bool one] 28) = W1 at *
  have hz : g ≠ w.heap.size := by omega
  generalize w.heap.size = z at *
  have SB := hide (show ∀ n, Calls Try.prog 44 #[.pointer (some ⟨g, 0, none⟩), .int .i64 (c : Int)] (W1.drewN n) fun e w' => e = .returned (.int .u64 (b : Int)) ∧ ∃ m, w' = (W1.drewN n).drewN m by
    intro n
    have h := imp_bound g 57 s.size (s.low % 4294967296) c s.ch ov (W1.drewN n) hhi hc (by omega) R1
    rw [HB.out] at h; exact h)
  go_quiet ((go_at_call 44; refine Calls.quiet_of (SB.out _)))
  have R2 : (W1.drewN nq).rowIs g 57 1603 (cdF s.size s.ch (s.low % 4294967296) ov) := R1
  have O2 : ownB (W1.drewN nq) base ov s.n (byN s.n (s.low / 4294967296)) := O1
  have B2 : Below base w (W1.drewN nq) := B1.trans ⟨rfl, rfl, rfl, Nat.le_refl _, fun _ _ => rfl⟩
  have e0' : (W1.drewN nq).cell? ⟨z, 0, none⟩ = some (.int .i64 (c : Int)) := e0
  have e1' : (W1.drewN nq).cell? ⟨z, 1, none⟩ = some (.bool one) := e1
  have hz2 : z < (W1.drewN nq).heap.size := hz1
  generalize W1.drewN nq = W2 at *
  clear R1 O1 B1 e0 e1 SB hz1
  cases one with
  | true =>
    have SA := hide (imp_add base g s.size s.low s.n b s.ch W2 (by omega) (by omega) (by have := hfit.out; omega) hbg ov R2 O2 hd1)
    clear R2 O2
    go_wp2_with fail
    refine SA.out.mono ?_
    rintro e W3 ⟨rfl, C3, B3, K3⟩
    have hk := K3 z hz2 (fun e => hz e.symm) (fun e => absurd (HV.out z e) (by omega))
    have e0 : W3.cell? ⟨z, 0, none⟩ = some (.int .i64 (c : Int)) := (World.cell?_of_block hk).trans e0'
    have e1 : W3.cell? ⟨z, 1, none⟩ = some (.bool true) := (World.cell?_of_block hk).trans e1'
    have B4 := B2.trans B3
    obtain ⟨ov3, r3, o3, d3⟩ := C3
    have HPE := hide (show P = ⟨s.size - b, setCh s.ch c (chOne (s.ch c)), s.low + b, s.n⟩ by rw [HPS.out, ← HB.out]; rfl)
    clear SA K3 hk e0' e1' B2 B3
    go_wp2_with fail
    go_region_with ((go_at_call 46; refine (imp_narrow g 57 s.size ((s.low + b) % 4294967296) c b true s.ch _ W3.drew hhi (by omega) hc (by omega) r3.drew).mono ?_; rintro e w9 ⟨rfl, r9, g9⟩))
    have HCOD := hide (show CodR w9 base g P by
      rw [HPE.out]
      refine ⟨_, ?_, World.ownsRow.kept (World.ownsRow.drew o3) g9 (.inr d3), d3⟩
      exact r9)
    have HBEL := hide (B4.drew.trans (grownBy_below g9 hbg (show base ≤ W3.heap.size by have := r3.lt; omega)))

    clear r9 g9 r3 o3 B4 e0 e1
    go_wp2_with fail
    go_loopw [22] (fun _ wx => ∃ t : RC, Hid (t = P ∨ (t = norm P ∧ P.size < 16777216)) ∧ Hid (CodR wx base g t) ∧ Hid (Below base w wx)) (fun _ wx => if size0 wx g < 16777216 then 1 else 0)
    case atStart => exact ⟨P, .inl rfl, HCOD, HBEL⟩
    case round =>
      clear HCOD HBEL
      obtain ⟨t, ht, hcod, hbel⟩ := hrel
      obtain ⟨ov, hr, ho, hd⟩ := hcod.out
      have hsw := hide (size0_of (cd_cells hr).1)
      by_cases hsz : t.size < 16777216
      · have htP : t = P := by
          rcases ht.out with h | ⟨h, h2⟩
          · exact h
          · rw [h] at hsz; exact absurd hsz (by have := HNOK.out.lo; omega)
        have SW := hide (imp_widen_yes g 57 t.size (t.low % 4294967296) t.ch ov wr hsz hr)
        have HO := hide ho
        have HT := hide htP
        have hgl := hr.lt
        clear hr ho htP hcod
        go_wp2_with fail
        refine SW.out.mono ?_
        rintro e w1 ⟨rfl, r1, g1⟩
        have C1 : CodP w1 base g (256 * t.size) t.ch t.low t.n := ⟨ov, r1, HO.out.kept g1 (.inr hd), hd⟩
        have SS := hide (imp_shift base g (256 * t.size) t.low t.n t.ch w1 (by rw [HT.out]; exact HPN.out.1) hbg C1)
        have hb1 := hide (hbel.out.trans (grownBy_below g1 hbg (by omega)))
        clear r1 g1 C1 SW hbel
        go_wp2_with fail
        refine SS.out.mono ?_
        rintro e w2 ⟨rfl, C2, hb2⟩
        have hb3 := hide (hb1.out.trans hb2)
        have hC3 := hide (show CodR w2 base g (norm P) by
          rw [norm, if_pos (by rw [← HT.out]; exact hsz), ← HT.out]; exact C2)
        have hs3 := hide (show size0 w2 g = 256 * t.size by obtain ⟨o3, r3, _⟩ := C2; exact size0_of (cd_cells r3).1)
        clear C2 hb2 hb1 SS
        go_wp2_with fail
        go_roundw
        case rel => exact ⟨norm P, .inr ⟨rfl, by rw [← HT.out]; exact hsz⟩, hC3, hb3⟩
        case measure =>
          rw [hs3.out, hsw.out, if_pos hsz, if_neg (by have h := HNOK.out.lo; rw [norm, if_pos (by rw [← HT.out]; exact hsz)] at h; have h' : 16777216 ≤ 256 * P.size := h; rw [← HT.out] at h'; omega)]
          omega
      · have htS := hide (show t = norm P by
          rcases ht.out with h | ⟨h, _⟩
          · rw [norm, if_neg (by rw [← h]; exact hsz), h]
          · exact h)
        have SW := hide (imp_widen_no g 57 t.size (t.low % 4294967296) t.ch ov wr hsz hr)
        clear hr ho
        go_wp2_with fail
        refine SW.out.mono ?_
        rintro e w1 ⟨rfl, rfl⟩
        go_wp2_with fail
        go_end0
        exact ⟨rfl, by show CodR _ base g (norm (part1 s c _)); rw [← HPS.out, ← htS.out]; exact hcod.out, hbel.out⟩
  | false =>
    have HPE := hide (show P = ⟨b, setCh s.ch c (chNot (s.ch c)), s.low, s.n⟩ by rw [HPS.out, ← HB.out]; rfl)
    go_wp2_with fail
    go_region_with ((go_at_call 46; refine (imp_narrow g 57 s.size (s.low % 4294967296) c b false s.ch _ W2.drew hhi (by omega) hc (by omega) R2.drew).mono ?_; rintro e w9 ⟨rfl, r9, g9⟩))
    have HCOD := hide (show CodR w9 base g P by
      rw [HPE.out]
      refine ⟨_, ?_, World.ownsRow.kept (World.ownsRow.drew O2) g9 (.inr hd1), hd1⟩
      exact r9)
    have HBEL := hide (B2.drew.trans (grownBy_below g9 hbg (show base ≤ W2.heap.size by have := R2.lt; omega)))

    clear r9 g9 R2 O2 B2 e0' e1'
    go_wp2_with fail
    go_loopw [22] (fun _ wx => ∃ t : RC, Hid (t = P ∨ (t = norm P ∧ P.size < 16777216)) ∧ Hid (CodR wx base g t) ∧ Hid (Below base w wx)) (fun _ wx => if size0 wx g < 16777216 then 1 else 0)
    case atStart => exact ⟨P, .inl rfl, HCOD, HBEL⟩
    case round =>
      clear HCOD HBEL
      obtain ⟨t, ht, hcod, hbel⟩ := hrel
      obtain ⟨ov, hr, ho, hd⟩ := hcod.out
      have hsw := hide (size0_of (cd_cells hr).1)
      by_cases hsz : t.size < 16777216
      · have htP : t = P := by
          rcases ht.out with h | ⟨h, h2⟩
          · exact h
          · rw [h] at hsz; exact absurd hsz (by have := HNOK.out.lo; omega)
        have SW := hide (imp_widen_yes g 57 t.size (t.low % 4294967296) t.ch ov wr hsz hr)
        have HO := hide ho
        have HT := hide htP
        have hgl := hr.lt
        clear hr ho htP hcod
        go_wp2_with fail
        refine SW.out.mono ?_
        rintro e w1 ⟨rfl, r1, g1⟩
        have C1 : CodP w1 base g (256 * t.size) t.ch t.low t.n := ⟨ov, r1, HO.out.kept g1 (.inr hd), hd⟩
        have SS := hide (imp_shift base g (256 * t.size) t.low t.n t.ch w1 (by rw [HT.out]; exact HPN.out.1) hbg C1)
        have hb1 := hide (hbel.out.trans (grownBy_below g1 hbg (by omega)))
        clear r1 g1 C1 SW hbel
        go_wp2_with fail
        refine SS.out.mono ?_
        rintro e w2 ⟨rfl, C2, hb2⟩
        have hb3 := hide (hb1.out.trans hb2)
        have hC3 := hide (show CodR w2 base g (norm P) by
          rw [norm, if_pos (by rw [← HT.out]; exact hsz), ← HT.out]; exact C2)
        have hs3 := hide (show size0 w2 g = 256 * t.size by obtain ⟨o3, r3, _⟩ := C2; exact size0_of (cd_cells r3).1)
        clear C2 hb2 hb1 SS
        go_wp2_with fail
        go_roundw
        case rel => exact ⟨norm P, .inr ⟨rfl, by rw [← HT.out]; exact hsz⟩, hC3, hb3⟩
        case measure =>
          rw [hs3.out, hsw.out, if_pos hsz, if_neg (by have h := HNOK.out.lo; rw [norm, if_pos (by rw [← HT.out]; exact hsz)] at h; have h' : 16777216 ≤ 256 * P.size := h; rw [← HT.out] at h'; omega)]
          omega
      · have htS := hide (show t = norm P by
          rcases ht.out with h | ⟨h, _⟩
          · rw [norm, if_neg (by rw [← h]; exact hsz), h]
          · exact h)
        have SW := hide (imp_widen_no g 57 t.size (t.low % 4294967296) t.ch ov wr hsz hr)
        clear hr ho
        go_wp2_with fail
        refine SW.out.mono ?_
        rintro e w1 ⟨rfl, rfl⟩
        go_wp2_with fail
        go_end0
        exact ⟨rfl, by show CodR _ base g (norm (part1 s c _)); rw [← HPS.out, ← htS.out]; exact hcod.out, hbel.out⟩

end Go.Proofs.Ytnehnhclhokahaa

/- The walk over the program's add. -/
import Derived.Test.YtdoodkabmeojmaaDoorRngS
namespace Go.Proofs.YtdoodkabmeojmaaDoor
open Go.RowKit
theorem add_carry {low b n : Nat} (h : low + b < 4294967296 * 256 ^ n) (hc : 4294967296 ≤ low % 4294967296 + b) (hb : b ≤ 4294967295) : 0 < n ∧ (low + b) / 4294967296 = low / 4294967296 + 1 ∧ low / 4294967296 + 1 < 256 ^ n ∧ (low + b) % 4294967296 = (low % 4294967296 + b) % 4294967296 := by
  have h2 : (low + b) / 4294967296 = low / 4294967296 + 1 := by omega
  have h3 : low / 4294967296 + 1 < 256 ^ n := by
    rw [← h2]
    exact (Nat.div_lt_iff_lt_mul (by decide)).2 (by rw [Nat.mul_comm]; exact h)
  refine ⟨?_, h2, h3, by omega⟩
  rcases Nat.eq_zero_or_pos n with h0 | h0
  · subst h0; rw [Nat.pow_zero] at h3; omega
  · exact h0
set_option maxRecDepth 100000 in
set_option maxHeartbeats 800000 in
theorem imp_addK (base g size low n b : Nat) (ch : Nat → Nat) (w : World) (hn2 : n ≤ 100000) (hb : b ≤ 4294967295) (hfit : low + b < 4294967296 * 256 ^ n) (hbg : base ≤ g) (ov : Value) (hr : w.rowIs g 64 1603 (cdF size ch (low % 4294967296) ov)) (ho : ownB w base ov n (byN n (low / 4294967296))) (hd1 : ov.ownBlock ≠ some g) :
    Calls Tryd.prog 56 #[.pointer (some ⟨g, 0, none⟩), .int .u64 (b : Int)] w fun e w' => e = .returned (.tuple #[]) ∧ (w'.rowIs g 64 1603 (cdF size ch ((low + b) % 4294967296) ov) ∧ ownB w' base ov n (byN n ((low + b) / 4294967296))) ∧ Below base w w' ∧ ∀ k, k < w.heap.size → k ≠ g → ov.ownBlock ≠ some k → w'.heap[k]? = w.heap[k]? := by
  obtain ⟨l, hl⟩ : ∃ l, l = low % 4294967296 := ⟨_, rfl⟩
  rw [← hl] at hr
  have c1 := (cd_cells hr).2.1
  have f1 := hr.frozen 1601
  obtain ⟨m, hm⟩ : ∃ m, m = l + b := ⟨_, rfl⟩
  have k1 : (l : Int) + (b : Int) = (m : Int) := by omega
  have k2 : IntKind.u64.wrap ((l : Int) + (b : Int)) = (m : Int) := by rw [IntKind.wrap_u64]; omega
  have k3 : IntKind.u64.wrap (m : Int) = (m : Int) := by rw [IntKind.wrap_u64]; omega
  have hm3 : (m : Int) ≤ 8589934592 := by omega
  have R1 := (cd_set hr).2.1 m
  have O1 := ho.far (g := g) (k := 1601) (x := .int .u64 (m : Int)) hd1
  have B1 := (Below.refl base w).setCell (p := ⟨g, 1601, none⟩) hbg (.int .u64 (m : Int))
  have K1 : ∀ v k, k < w.heap.size → k ≠ g → (w.setCell ⟨g, 1601, none⟩ v).heap[k]? = w.heap[k]? := fun v k _ hk => Below.heap_setCell _ _ _ _ hk
  have d1 := (cd_cells R1).2.1
  have e1 := R1.frozen 1601
  have KK := hide K1
  clear K1
  by_cases hc : 4294967296 ≤ m
  · have hc' : (4294967295 : Int) < (m : Int) := by omega
    obtain ⟨q1, q2, q3, q4⟩ := add_carry hfit (show 4294967296 ≤ low % 4294967296 + b by omega) hb
    obtain ⟨go, cap, rfl, hgo, _⟩ := ho.form q1
    have hne : go ≠ g := fun e => hd1 (by rw [e]; rfl)
    obtain ⟨m2, hm2⟩ : ∃ x, x = m % 4294967296 := ⟨_, rfl⟩
    have a1 : bits .and .u64 (m : Int) 4294967295 = (m2 : Int) := by rw [and64 m (by omega), hm2]
    have R2 := (cd_set R1).2.1 m2
    have O2 := O1.far (g := g) (k := 1601) (x := .int .u64 (m2 : Int)) hd1
    have B2 := B1.setCell (p := ⟨g, 1601, none⟩) hbg (.int .u64 (m2 : Int))
    have HL := hide (show (low + b) % 4294967296 = m2 by rw [q4, ← hl, ← hm, hm2])
    have HV := hide q2
    have H := hide (And.intro R2 (And.intro O2 B2))
    clear hm hm2 hl R2 O2 B2 q4 q2 R1 O1 B1 hr ho
    go_enter Tryd.func56, Tryd.ntmps56
    go_wp2_with fail
    refine (imp_carry base g go n cap m2 size (low / 4294967296) ch _ q1 hn2 q3 H.out.1 H.out.2.1 hne).mono ?_
    rintro e w3 ⟨rfl, ho3, hg3⟩
    go_wp2_with fail
    go_end0
    refine ⟨rfl, ⟨?_, ?_⟩, ?_, fun k h1 h2 h3 => ?_⟩
    · rw [HL.out]
      exact H.out.1.of_block (hg3.block g H.out.1.lt (by simpa using fun e => hne e.symm))
    · rw [HV.out]; exact ho3
    · exact H.out.2.2.trans (grownBy_below hg3 hgo (Nat.le_trans hbg (Nat.le_of_lt H.out.1.lt)))
    · refine (hg3.block k (by simpa [World.setCell] using h1) (fun e => h3 (by rw [e]; rfl))).trans ?_
      rw [Below.heap_setCell _ _ _ _ h2]; exact KK.out _ k h1 h2
  · have hc' : ¬ (4294967295 : Int) < (m : Int) := by omega
    have HL := hide (show (low + b) % 4294967296 = m by omega)
    have HV := hide (show (low + b) / 4294967296 = low / 4294967296 by omega)
    have H := hide (And.intro R1 (And.intro O1 B1))
    clear hm hl R1 O1 B1 hr ho
    go_enter Tryd.func56, Tryd.ntmps56
    go_wp2_with fail
    go_end0
    exact ⟨rfl, ⟨by rw [HL.out]; exact H.out.1, by rw [HV.out]; exact H.out.2.1⟩, H.out.2.2, fun k h1 h2 _ => KK.out _ k h1 h2⟩
end Go.Proofs.YtdoodkabmeojmaaDoor

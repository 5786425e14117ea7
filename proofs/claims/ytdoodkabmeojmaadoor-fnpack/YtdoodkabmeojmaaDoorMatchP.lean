/- The walks over the model's l06Long, l06Parse, Parse. -/
import Derived.Test.YtdoodkabmeojmaaDoorRows
import Derived.Test.YtdoodkabmeojmaaDoorMatchF
import Derived.Below
import Derived.Test.YtdoodkabmeojmaaDoorRowC
import Derived.OwnWalk
import Derived.Deep.AppendLies
import Derived.BigRegion
import Derived.BigQuiet
import Derived.Deep.QuietTactic
namespace Go.Proofs.YtdoodkabmeojmaaDoor
open Go.RowKit
theorem bF_get (t : ByteArray) (j : Nat) (h : j < t.size) : t[j].toNat = (bF t j).toNat := by
  have h2 := bF_at t t.size rfl j h
  rw [List.getElem?_eq_getElem (by have e : t.data.toList.length = t.size := rfl; omega)] at h2
  rw [← Option.some.inj h2]; rfl
theorem longG_now (T : Nat → UInt8) (N at_ far n : Nat) (hn : n < 66) (h : at_ + n < N ∧ T (at_ + n) = T (at_ + n - far)) : longG T N at_ far (66 - n) n = longG T N at_ far (66 - (n + 1)) (n + 1) := by
  rw [show 66 - n = (66 - (n + 1)) + 1 by omega]
  show (if at_ + n < N ∧ T (at_ + n) = T (at_ + n - far) then _ else _) = _
  rw [if_pos h]
theorem longG_not (T : Nat → UInt8) (N at_ far n : Nat) (h : ¬ (n < 66 ∧ at_ + n < N ∧ T (at_ + n) = T (at_ + n - far))) (hn : n ≤ 66) : longG T N at_ far (66 - n) n = n := by
  by_cases e : n = 66
  · subst e; rfl
  · rw [show 66 - n = (66 - (n + 1)) + 1 by omega]
    show (if at_ + n < N ∧ T (at_ + n) = T (at_ + n - far) then _ else _) = _
    rw [if_neg (fun h2 => h ⟨by omega, h2⟩)]
set_option maxRecDepth 100000 in
set_option maxHeartbeats 800000 in
theorem spec_long (t : ByteArray) (at_ far : Nat) (w : World) (hN : t.size ≤ 1000000) (hat : at_ ≤ t.size) (hf1 : 1 ≤ far) (hf2 : far ≤ at_) :
    Calls Tryd.prog 64 #[.string t, .int .i64 (at_ : Int), .int .i64 (far : Int)] w fun e w' => e = .returned (.int .i64 (long (bF t) t.size at_ far : Nat)) ∧ Below w.heap.size w w' := by
  go_enter Tryd.func64, Tryd.ntmps64
  go_wp2_with fail
  go_loopw [7] (fun i wx => ∃ k : Nat, k ≤ 66 ∧ i = .int .i64 k ∧ Hid (longG (bF t) t.size at_ far (66 - k) k = long (bF t) t.size at_ far) ∧ Hid (Below w.heap.size w wx)) (fun i _ => 66 - (intOf i).toNat)
  case atStart => exact ⟨0, by omega, rfl, rfl, Below.refl _ _⟩
  case round =>
    obtain ⟨k, hk, rfl, hl, hbl⟩ := hrel
    obtain ⟨q, hq⟩ : ∃ q, q = at_ + k := ⟨_, rfl⟩
    have s1 : (at_ : Int) + (k : Int) = (q : Int) := by omega
    have s1w : IntKind.i64.wrap ((at_ : Int) + (k : Int)) = (q : Int) := by simp only [IntKind.wrap_i64]; omega
    have hqb : (q : Int) ≤ 1000066 := by omega
    by_cases h1 : k < 66
    · have h1' : (k : Int) < 66 := by omega
      have d1 : decide ((k : Int) < 66) = true := decide_eq_true h1'
      by_cases h2 : q < t.size
      · have h2' : (q : Int) < (t.size : Int) := by omega
        have d2 : decide ((q : Int) < (t.size : Int)) = true := decide_eq_true h2'
        obtain ⟨p, hp⟩ : ∃ p, p = q - far := ⟨_, rfl⟩
        have s2 : (q : Int) - (far : Int) = (p : Int) := by omega
        have s2w : IntKind.i64.wrap ((q : Int) - (far : Int)) = (p : Int) := by simp only [IntKind.wrap_i64]; omega
        have hp2 : p < t.size := by omega
        have hp2' : (p : Int) < (t.size : Int) := by omega
        have b1 := bF_get t q h2
        have b2 := bF_get t p hp2
        by_cases h3 : bF t q = bF t p
        · obtain ⟨x, hx⟩ : ∃ x, x = (bF t q).toNat := ⟨_, rfl⟩
          rw [← hx] at b1
          rw [← h3, ← hx] at b2
          have HL := hide (show longG (bF t) t.size at_ far (66 - (k + 1)) (k + 1) = long (bF t) t.size at_ far by
            rw [← hl.out, longG_now (bF t) t.size at_ far k h1 ⟨by omega, by rw [← hq, ← hp]; exact h3⟩])
          clear hl hq hp hx h3
          go_wp2_with fail
          go_quiet (fail)
          have B2 := hide (show Below w.heap.size w (wr.drewN nq) from hbl.out.trans ⟨rfl, rfl, rfl, Nat.le_refl _, fun _ _ => rfl⟩)
          clear hbl
          go_wp2_with fail
          go_roundw
          case rel => exact ⟨k + 1, by omega, by go_num, HL, B2⟩
          case measure => simp [intOf]; omega
        · obtain ⟨x, hx⟩ : ∃ x, x = (bF t q).toNat := ⟨_, rfl⟩
          obtain ⟨y, hy⟩ : ∃ y, y = (bF t p).toNat := ⟨_, rfl⟩
          rw [← hx] at b1
          rw [← hy] at b2
          have hxy : ((x : Int) == (y : Int)) = false := by
            rw [beq_eq_false_iff_ne]
            intro e
            exact h3 (UInt8.toNat_inj.1 (by omega))
          have HL := hide (show k = long (bF t) t.size at_ far by
            rw [← hl.out, longG_not (bF t) t.size at_ far k (fun h => h3 (by have := h.2.2; rw [← hq, ← hp] at this; exact this)) hk])
          clear hl hq hp hx hy h3
          go_wp2_with fail
          go_quiet (fail)
          have B2 := hide (show Below w.heap.size w (wr.drewN nq) from hbl.out.trans ⟨rfl, rfl, rfl, Nat.le_refl _, fun _ _ => rfl⟩)
          clear hbl
          go_wp2_with fail
          go_ret
          exact ⟨by rw [← HL.out]; rfl, B2.out⟩
      · have h2' : ¬ (q : Int) < (t.size : Int) := by omega
        have d2 : decide ((q : Int) < (t.size : Int)) = false := decide_eq_false h2'
        have HL := hide (show k = long (bF t) t.size at_ far by
          rw [← hl.out, longG_not (bF t) t.size at_ far k (fun h => h2 (by have := h.2.1; omega)) hk])
        clear hl hq
        go_wp2_with fail
        go_quiet (fail)
        have B2 := hide (show Below w.heap.size w (wr.drewN nq) from hbl.out.trans ⟨rfl, rfl, rfl, Nat.le_refl _, fun _ _ => rfl⟩)
        clear hbl
        go_wp2_with fail
        go_ret
        exact ⟨by rw [← HL.out]; rfl, B2.out⟩
    · have h1' : ¬ (k : Int) < 66 := by omega
      have d1 : decide ((k : Int) < 66) = false := decide_eq_false h1'
      have HL := hide (show k = long (bF t) t.size at_ far by
        rw [← hl.out, longG_not (bF t) t.size at_ far k (fun h => h1 h.1) hk])
      clear hl hq
      go_wp2_with fail
      go_quiet (fail)
      have B2 := hide (show Below w.heap.size w (wr.drewN nq) from hbl.out.trans ⟨rfl, rfl, rfl, Nat.le_refl _, fun _ _ => rfl⟩)
      clear hbl
      go_wp2_with fail
      go_ret
      exact ⟨by rw [← HL.out]; rfl, B2.out⟩
end Go.Proofs.YtdoodkabmeojmaaDoor

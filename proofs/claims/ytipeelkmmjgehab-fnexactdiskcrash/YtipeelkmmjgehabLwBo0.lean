/- The walks over the laws' eqBoolS, markBoolS. -/
import Derived.Test.YtipeelkmmjgehabRows
import Derived.Test.YtipeelkmmjgehabLwV
import Derived.BigRegion
import Derived.BigQuiet
import Derived.Deep.QuietTactic
namespace Go.Proofs.Ytipeelkmmjgehab
open Go.RowKit
/-- What markBoolS lays. -/
def m3 (k : Nat) : Bool := decide (k % 3 = 0)
theorem beq_nat (r : Nat) : ((r : Int) == 0) = decide (r = 0) := by
  by_cases h : r = 0
  · rw [h]; rfl
  · rw [decide_eq_false h, beq_eq_false_iff_ne]; omega
set_option maxRecDepth 100000 in
set_option maxHeartbeats 400000 in
theorem law_eqBool (va vb : Value) (n : Nat) (z : Nat → Bool) (w : World) (hn : n ≤ 1048576) (ha : valV w va n (fun j => .bool (z j))) (hb : valV w vb n (fun j => .bool (z j))) :
    Calls Try.prog 30 #[va, vb] w fun e w' => e = .returned (.bool true) ∧ Below w.heap.size w w' := by
  obtain ⟨aa, ca, rfl, hca, hA⟩ := ha
  obtain ⟨ab, cb, rfl, hcb, hB⟩ := hb
  have HA := hide hA
  have HB := hide hB
  clear hA hB
  go_enter Try.func30, Try.ntmps30
  go_wp2_with fail
  go_loopw [5] (fun i wx => ∃ k : Nat, k ≤ n ∧ i = .int .i64 k ∧ Below w.heap.size w wx) (fun i _ => n - (intOf i).toNat)
  case atStart => exact ⟨0, Nat.zero_le _, rfl, Below.refl _ _⟩
  case round =>
    obtain ⟨k, hk, rfl, hbl⟩ := hrel
    by_cases hlt : k < n
    · have hlt' : decide ((k : Int) < (n : Int)) = true := decide_eq_true (by omega)
      have hlt2 : (k : Int) < (n : Int) := by omega
      obtain h0 | ⟨ga, rfl, hga, hca⟩ := HA.out
      · omega
      obtain h0 | ⟨gb, rfl, hgb, hcb⟩ := HB.out
      · omega
      have c1 : wr.cell? ⟨ga, k, none⟩ = some (.bool (z k)) := (hbl.cell (p := ⟨ga, k, none⟩) hga).trans (hca k hlt).1
      have c2 : wr.cell? ⟨gb, k, none⟩ = some (.bool (z k)) := (hbl.cell (p := ⟨gb, k, none⟩) hgb).trans (hcb k hlt).1
      clear hca hcb HA HB
      generalize z k = X at *
      go_wp2_with fail
      go_region
      go_wp2_with fail
      go_roundw
      case rel => exact ⟨k + 1, by omega, by go_num, hbl.drew⟩
      case measure => simp [intOf]; omega
    · have hlt' : decide ((k : Int) < (n : Int)) = false := decide_eq_false (by omega)
      go_wp2_with fail
      go_ret
      exact ⟨rfl, hbl⟩
set_option maxRecDepth 100000 in
set_option maxHeartbeats 400000 in
theorem law_markBool (v : Value) (n k0 : Nat) (f : Nat → Value) (w : World) (hn : n ≤ 1048576) (hk0 : k0 ≤ 4194304) (ha : valV w v n f) :
    Calls Try.prog 31 #[v, .int .i64 k0] w fun e w' => e = .returned (.int .i64 ((k0 + n : Nat) : Int)) ∧ valV w' v n (fun j => .bool (m3 (k0 + j))) ∧ w.grownBy w' v.ownBlock := by
  obtain ⟨ao, cap, rfl, hcap, hA⟩ := ha
  have hcap' : (n : Int) ≤ (cap : Int) := by omega
  by_cases hn0 : n = 0
  · subst hn0
    clear hA
    go_enter Try.func31, Try.ntmps31
    go_wp2_with fail
    go_loopw [1, 5] (fun k i wx => k = .int .i64 k0 ∧ i = .int .i64 0 ∧ w = wx) (fun _ _ _ => 0)
    case atStart => exact ⟨rfl, rfl, rfl⟩
    case round =>
      obtain ⟨rfl, rfl, rfl⟩ := hrel
      go_wp2_with fail
      go_ret
      exact ⟨rfl, ⟨ao, cap, rfl, hcap, .inl rfl⟩, ⟨rfl, rfl, rfl, Nat.le_refl _, fun _ _ _ => rfl⟩⟩
  · obtain h0 | ⟨g, rfl, hg, hc⟩ := hA
    · exact absurd h0 hn0
    have HC := hide hc
    clear hc
    go_enter Try.func31, Try.ntmps31
    go_wp2_with fail
    go_loopw [1, 5] (fun k i wx => ∃ (m : Nat) (h : Nat → Value), m ≤ n ∧ i = .int .i64 m ∧ k = .int .i64 ((k0 + m : Nat) : Int) ∧ Hid (∀ j, j < m → h j = .bool (m3 (k0 + j))) ∧ g < wx.heap.size ∧ Hid (∀ j, j < n → wx.cell? ⟨g, j, none⟩ = some (h j) ∧ wx.frozen? ⟨g, j, none⟩ = false) ∧ w.grownBy wx (some g)) (fun _ i _ => n - (intOf i).toNat)
    case atStart => exact ⟨0, f, Nat.zero_le _, rfl, rfl, fun j hj => by omega, hg, HC, ⟨rfl, rfl, rfl, Nat.le_refl _, fun _ _ _ => rfl⟩⟩
    case round =>
      obtain ⟨m, h, hm, rfl, rfl, hh, hg2, hc, hgr⟩ := hrel
      obtain ⟨km, ekm⟩ : ∃ q, q = k0 + m := ⟨_, rfl⟩
      rw [← ekm]
      by_cases hlt : m < n
      · have hlt' : decide ((m : Int) < (n : Int)) = true := decide_eq_true (by omega)
        have hlt2 : (m : Int) < (n : Int) := by omega
        have hkm : (km : Int) ≤ 8388608 := by omega
        have HKM := hide ekm
        have cm := (hc.out m hlt).1
        have fm := (hc.out m hlt).2
        obtain ⟨r, er⟩ : ∃ r, r = km % 3 := ⟨_, rfl⟩
        have t1 : (km : Int).tmod 3 = (r : Int) := by rw [Int.tmod_eq_emod_of_nonneg (by omega)]; omega
        have t2 : (km : Int) % 3 = (r : Int) := by omega
        have t3 : IntKind.i64.wrap (r : Int) = (r : Int) := by simp only [IntKind.wrap_i64]; omega
        obtain ⟨b3, eb⟩ : ∃ b, b = m3 km := ⟨_, rfl⟩
        have tb : ((r : Int) == 0) = b3 := by rw [eb, m3, ← er]; exact beq_nat r
        have HB3 := hide eb
        clear ekm er eb
        go_wp2_with fail
        refine ⟨⟨m + 1, fun j => if j = m then .bool b3 else h j, by omega, by go_num, by rw [HKM.out]; exact congrArg _ (by omega), fun j hj => ?_, by simpa [World.setCell] using hg2, fun j hj => ⟨?_, ?_⟩, grownBy_set hgr _⟩, by simp [intOf]; omega⟩
        · show (if j = m then Value.bool b3 else h j) = _
          by_cases e : j = m
          · rw [if_pos e, HB3.out, HKM.out, e]
          · rw [if_neg e]; exact hh.out j (by omega)
        · show _ = some (if j = m then Value.bool b3 else h j)
          by_cases e : j = m
          · rw [if_pos e, e]; exact World.cell?_setCell_same _ _ _ cm
          · rw [if_neg e, World.cell?_setCell_other _ _ _ _ (by intro e2; injection e2 with _ e3; exact e e3.symm)]
            exact (hc.out j hj).1
        · rw [World.frozen?_setCell]; exact (hc.out j hj).2
      · have hlt' : decide ((m : Int) < (n : Int)) = false := decide_eq_false (by omega)
        have hmn : m = n := by omega
        subst hmn
        have HKM := hide ekm
        clear ekm
        go_wp2_with fail
        go_ret
        exact ⟨by rw [HKM.out]; rfl, ⟨_, cap, rfl, hcap, .inr ⟨g, rfl, hg2, fun j hj => by show _ = some (Value.bool (m3 (k0 + j))) ∧ _; rw [← hh.out j hj]; exact hc.out j hj⟩⟩, hgr⟩
end Go.Proofs.Ytipeelkmmjgehab

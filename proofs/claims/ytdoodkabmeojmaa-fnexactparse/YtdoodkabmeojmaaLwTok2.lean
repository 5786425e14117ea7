/- The walks over the laws' markTokenS, heldTokenS. -/
import Derived.Test.YtdoodkabmeojmaaLwTok
namespace Go.Proofs.Ytdoodkabmeojmaa
open Go.RowKit
def numF (k0 : Nat) (j : Nat) : Value := .int .i64 ((k0 + j : Nat) : Int)
set_option maxRecDepth 100000 in
set_option maxHeartbeats 800000 in
theorem law_markTok (v : Value) (n k0 : Nat) (f : Nat → Value) (w : World) (hn : n ≤ 1048576) (hk0 : k0 ≤ 1048576) (ha : valM 3 w v n f) :
    Calls Try.prog 26 #[v, .int .i64 k0] w fun e w' => e = .returned (.int .i64 ((k0 + 3 * n : Nat) : Int)) ∧ valM 3 w' v n (numF k0) ∧ w.grownBy w' v.ownBlock := by
  obtain ⟨ao, cap, rfl, hcap, hA⟩ := ha
  have hcap' : (n : Int) ≤ (cap : Int) := by omega
  by_cases hn0 : n = 0
  · subst hn0
    clear hA
    go_enter Try.func26, Try.ntmps26
    go_wp2_with fail
    go_loopw [1, 5] (fun k i wx => k = .int .i64 k0 ∧ i = .int .i64 0 ∧ w = wx) (fun _ _ _ => 0)
    case atStart => exact ⟨rfl, rfl, rfl⟩
    case round =>
      obtain ⟨rfl, rfl, rfl⟩ := hrel
      go_wp2_with fail
      go_ret
      exact ⟨rfl, ⟨ao, cap, rfl, hcap, .inl rfl⟩, ⟨rfl, rfl, rfl, Nat.le_refl _, fun _ _ _ => rfl⟩⟩
  · obtain h0 | ⟨g, rfl, hg, hc⟩ := hA
    · exact absurd h0 hn0
    have HC := hide hc
    clear hc
    go_enter Try.func26, Try.ntmps26
    go_wp2_with fail
    go_loopw [1, 5] (fun k i wx => ∃ (m : Nat) (h : Nat → Value), m ≤ n ∧ i = .int .i64 m ∧ k = .int .i64 ((k0 + 3 * m : Nat) : Int) ∧ Hid (∀ j, j < 3 * m → h j = numF k0 j) ∧ g < wx.heap.size ∧ Hid (∀ j, j < n * 3 → wx.cell? ⟨g, j, none⟩ = some (h j) ∧ wx.frozen? ⟨g, j, none⟩ = false) ∧ w.grownBy wx (some g)) (fun _ i _ => n - (intOf i).toNat)
    case atStart => exact ⟨0, f, Nat.zero_le _, rfl, rfl, fun j hj => by omega, hg, HC, ⟨rfl, rfl, rfl, Nat.le_refl _, fun _ _ _ => rfl⟩⟩
    case round =>
      obtain ⟨m, h, hm, rfl, rfl, hh, hg2, hc, hgr⟩ := hrel
      obtain ⟨km, ekm⟩ : ∃ q, q = k0 + 3 * m := ⟨_, rfl⟩
      rw [← ekm]
      by_cases hlt : m < n
      · have hlt' : decide ((m : Int) < (n : Int)) = true := decide_eq_true (by omega)
        have hlt2 : (m : Int) < (n : Int) := by omega
        have hkm : (km : Int) ≤ 4194304 := by omega
        obtain ⟨q, hq⟩ : ∃ q, q = 3 * m := ⟨_, rfl⟩
        have n1 : 3 * m = q := hq.symm
        have n2 : m * 3 = q := by omega
        obtain ⟨c1, f1⟩ := hc.out q (by omega)
        obtain ⟨c2, f2⟩ := hc.out (q + 1) (by omega)
        obtain ⟨c3, f3⟩ := hc.out (q + 2) (by omega)
        have HQ := hide (And.intro hq ekm)
        clear ekm hq
        go_wp2_with fail
        have hQ := HQ.out
        refine ⟨⟨m + 1, fun j => if j = q + 2 then .int .i64 ((km : Int) + 1 + 1) else if j = q + 1 then .int .i64 ((km : Int) + 1) else if j = q then .int .i64 (km : Int) else h j, by omega, by go_num, ?_, fun j hj => ?_, by simpa [World.setCell] using hg2, fun j hj => ⟨?_, ?_⟩, grownBy_set (grownBy_set (grownBy_set hgr _) _) _⟩, by simp [intOf]; omega⟩
        · congr 1; omega
        · show (if j = q + 2 then Value.int .i64 ((km : Int) + 1 + 1) else if j = q + 1 then .int .i64 ((km : Int) + 1) else if j = q then .int .i64 (km : Int) else h j) = numF k0 j
          unfold numF
          by_cases e3 : j = q + 2
          · rw [if_pos e3]; congr 1; omega
          · rw [if_neg e3]
            by_cases e2 : j = q + 1
            · rw [if_pos e2]; congr 1; omega
            · rw [if_neg e2]
              by_cases e1 : j = q
              · rw [if_pos e1]; congr 1; omega
              · rw [if_neg e1]; exact hh.out j (by omega)
        · show _ = some (if j = q + 2 then Value.int .i64 ((km : Int) + 1 + 1) else if j = q + 1 then .int .i64 ((km : Int) + 1) else if j = q then .int .i64 (km : Int) else h j)
          have o1 : ∀ (wx : World) (a : Nat) (u : Value), j ≠ a → (wx.setCell ⟨g, a, none⟩ u).cell? ⟨g, j, none⟩ = wx.cell? ⟨g, j, none⟩ := fun wx a u ha => World.cell?_setCell_other _ _ _ _ (by intro e2; injection e2 with _ e3; exact ha e3.symm)
          have hj0 := (hc.out j hj).1
          by_cases e3 : j = q + 2
          · rw [if_pos e3, e3]
            exact World.cell?_setCell_same _ _ _ (u := h (q + 2)) (by rw [← e3, o1 _ _ _ (by omega), o1 _ _ _ (by omega)]; exact hj0)
          · rw [if_neg e3, o1 _ _ _ e3]
            by_cases e2 : j = q + 1
            · rw [if_pos e2, e2]
              exact World.cell?_setCell_same _ _ _ (u := h (q + 1)) (by rw [← e2, o1 _ _ _ (by omega)]; exact hj0)
            · rw [if_neg e2, o1 _ _ _ e2]
              by_cases e1 : j = q
              · rw [if_pos e1, e1]
                exact World.cell?_setCell_same _ _ _ (u := h q) (by rw [← e1]; exact hj0)
              · rw [if_neg e1, o1 _ _ _ e1]; exact hj0
        · rw [World.frozen?_setCell, World.frozen?_setCell, World.frozen?_setCell]; exact (hc.out j hj).2
      · have hlt' : decide ((m : Int) < (n : Int)) = false := decide_eq_false (by omega)
        have hmn : m = n := by omega
        subst hmn
        have HKM := hide ekm
        clear ekm
        go_wp2_with fail
        go_ret
        exact ⟨by rw [HKM.out]; rfl, ⟨_, cap, rfl, hcap, .inr ⟨g, rfl, hg2, fun j hj => by rw [← hh.out j (by omega)]; exact hc.out j hj⟩⟩, hgr⟩
set_option maxRecDepth 100000 in
set_option maxHeartbeats 800000 in
theorem law_heldTok (v : Value) (n k0 : Nat) (w : World) (hn : n ≤ 1048576) (hk0 : k0 ≤ 1048576) (ha : valM 3 w v n (numF k0)) :
    Calls Try.prog 27 #[v, .int .i64 k0] w fun e w' => e = .returned (.int .i64 ((k0 + 3 * n : Nat) : Int)) ∧ Below w.heap.size w w' := by
  obtain ⟨ao, cap, rfl, hcap, hA⟩ := ha
  have hcap' : (n : Int) ≤ (cap : Int) := by omega
  have HA := hide hA
  clear hA
  go_enter Try.func27, Try.ntmps27
  go_wp2_with fail
  go_loopw [1, 5] (fun k i wx => ∃ m : Nat, m ≤ n ∧ i = .int .i64 m ∧ k = .int .i64 ((k0 + 3 * m : Nat) : Int) ∧ Below w.heap.size w wx) (fun _ i _ => n - (intOf i).toNat)
  case atStart => exact ⟨0, Nat.zero_le _, rfl, rfl, Below.refl _ _⟩
  case round =>
    obtain ⟨m, hm, rfl, rfl, hbl⟩ := hrel
    obtain ⟨km, ekm⟩ : ∃ q, q = k0 + 3 * m := ⟨_, rfl⟩
    rw [← ekm]
    by_cases hlt : m < n
    · have hlt' : decide ((m : Int) < (n : Int)) = true := decide_eq_true (by omega)
      have hlt2 : (m : Int) < (n : Int) := by omega
      have hkm : (km : Int) ≤ 4194304 := by omega
      obtain h0 | ⟨g, rfl, hg, hc⟩ := HA.out
      · omega
      obtain ⟨q, hq⟩ : ∃ q, q = 3 * m := ⟨_, rfl⟩
      have n1 : 3 * m = q := hq.symm
      have n2 : m * 3 = q := by omega
      have c1 : wr.cell? ⟨g, q, none⟩ = some (.int .i64 (km : Int)) := by
        rw [(hbl.cell (p := ⟨g, q, none⟩) hg).trans (hc q (by omega)).1, numF]; congr 2; omega
      have c2 : wr.cell? ⟨g, q + 1, none⟩ = some (.int .i64 ((km : Int) + 1)) := by
        rw [(hbl.cell (p := ⟨g, q + 1, none⟩) hg).trans (hc (q + 1) (by omega)).1, numF]; congr 2; omega
      have c3 : wr.cell? ⟨g, q + 2, none⟩ = some (.int .i64 ((km : Int) + 1 + 1)) := by
        rw [(hbl.cell (p := ⟨g, q + 2, none⟩) hg).trans (hc (q + 2) (by omega)).1, numF]; congr 2; omega
      have HKM := hide ekm
      clear hc ekm HA hq
      go_wp2_with fail
      go_roundw
      case rel => exact ⟨m + 1, by omega, by go_num, by congr 1; have := HKM.out; omega, hbl⟩
      case measure => simp [intOf]; omega
    · have hlt' : decide ((m : Int) < (n : Int)) = false := decide_eq_false (by omega)
      have hmn : m = n := by omega
      subst hmn
      have HKM := hide ekm
      clear ekm
      go_wp2_with fail
      go_ret
      exact ⟨by rw [HKM.out]; rfl, hbl⟩
end Go.Proofs.Ytdoodkabmeojmaa

/- The walk over the model's DiskRight. -/
import Derived.Test.YtipeelkmmjgehabLwDisk2
namespace Go.Proofs.Ytipeelkmmjgehab
open Go Go.RowKit
/-- A right disk. -/
def dskOk (nS : Nat) (S : Nat → ByteArray) (nC : Nat) (A : Nat → Int) (X : Nat → ByteArray) : Prop :=
  nS ≤ 620 ∧ nC ≤ 400 ∧ (∀ j, j < nS → (S j).size = 64) ∧ ∀ j, j < nC → 0 ≤ A j ∧ A j < (nS : Int) ∧ (X j).size = 64
/-- A truth value that tells whether P. -/
def tells (e : Ending) (P : Prop) : Prop := ∃ r : Bool, e = .returned (.bool r) ∧ (r = true ↔ P)
set_option maxRecDepth 100000 in
set_option maxHeartbeats 1600000 in
theorem spec_diskRight (v : Value) (nS : Nat) (S : Nat → ByteArray) (nC : Nat) (A : Nat → Int) (X : Nat → ByteArray) (w : World) (hS : nS ≤ 1048576) (hC : nC ≤ 1048576) (h : dskI w w.heap.size v nS S nC A X) :
    Calls Try.prog 19 #[v] w fun e w' => tells e (dskOk nS S nC A X) ∧ Below w.heap.size w w' := by
  obtain ⟨sv, cv, rfl, ⟨sa, sk, rfl, hsk, hs⟩, ⟨ca, ck, rfl, hck, hc⟩⟩ := h
  have HS := hide hs
  have HC := hide hc
  clear hs hc
  have hsk' : (nS : Int) ≤ (sk : Int) := by omega
  have hck' : (nC : Int) ≤ (ck : Int) := by omega
  have q0 := hide ((Below.refl w.heap.size w).alloc (Nat.le_refl _) (.cells #[.slice sa nS sk, .slice ca nC ck] 26))
  by_cases b1 : 620 < nS
  · have d1 : decide ((620 : Int) < (nS : Int)) = true := decide_eq_true (by omega)
    go_enter Try.func19, Try.ntmps19
    go_wp2_with fail
    go_ret
    exact ⟨⟨false, rfl, ⟨(fun h => by cases h), (fun h => by have := h.1; omega)⟩⟩, q0.out⟩
  · have d1 : decide ((620 : Int) < (nS : Int)) = false := decide_eq_false (by omega)
    by_cases b2 : 400 < nC
    · have d2 : decide ((400 : Int) < (nC : Int)) = true := decide_eq_true (by omega)
      go_enter Try.func19, Try.ntmps19
      go_wp2_with fail
      go_ret
      exact ⟨⟨false, rfl, ⟨(fun h => by cases h), (fun h => by have := h.2.1; omega)⟩⟩, q0.out⟩
    · have d2 : decide ((400 : Int) < (nC : Int)) = false := decide_eq_false (by omega)
      go_enter Try.func19, Try.ntmps19
      go_wp2_with fail
      have qs : (w.alloc (.cells #[.slice sa nS sk, .slice ca nC ck] 26)).heap.size = w.heap.size + 1 := by simp
      have c0 : (w.alloc (.cells #[.slice sa nS sk, .slice ca nC ck] 26)).cell? ⟨w.heap.size, 0, none⟩ = some (.slice sa nS sk) := by go_simp
      have c1 : (w.alloc (.cells #[.slice sa nS sk, .slice ca nC ck] 26)).cell? ⟨w.heap.size, 1, none⟩ = some (.slice ca nC ck) := by go_simp
      generalize w.alloc (.cells #[.slice sa nS sk, .slice ca nC ck] 26) = W1 at *
      go_loopw [3] (fun i wx => ∃ k : Nat, k ≤ nS ∧ i = .int .i64 k ∧ Hid (∀ j, j < k → (S j).size = 64) ∧ W1 = wx) (fun i _ => nS - (intOf i).toNat)
      case atStart => exact ⟨0, Nat.zero_le _, rfl, fun j hj => by omega, rfl⟩
      case round =>
        obtain ⟨k, hk, rfl, hall, rfl⟩ := hrel
        by_cases hlt : k < nS
        · have hlt' : (k : Int) < (nS : Int) := by omega
          obtain h00 | ⟨r, o, rfl, hr, hcells⟩ := HS.out
          · omega
          obtain ⟨x, hx⟩ : ∃ x, x = S k := ⟨_, rfl⟩
          have y : W1.cell? ⟨r, o + k, none⟩ = some (.string x) := by rw [hx]; exact (q0.out.cell (p := ⟨r, o + k, none⟩) hr).trans (hcells k hlt)
          have HX := hide hx
          clear hcells HS hx
          by_cases b3 : x.size = 64
          · have d3 : ((x.size : Int) != 64) = false := by simp [b3]
            have R := hide (show ∀ j, j < k + 1 → (S j).size = 64 from fun j hj => by
              by_cases e : j = k
              · rw [e, ← HX.out]; exact b3
              · exact hall.out j (by omega))
            clear b3 hall
            go_wp2_with fail
            go_roundw
            case rel => exact ⟨k + 1, by omega, by go_num, R, trivial⟩
            case measure => simp [intOf]; omega
          · have d3 : ((x.size : Int) != 64) = true := by simp; omega
            have R := hide (show ¬ dskOk nS S nC A X from fun h => b3 (by rw [HX.out]; exact h.2.2.1 k hlt))
            clear b3 hall
            go_wp2_with fail
            go_ret
            exact ⟨⟨false, rfl, ⟨(fun h => by cases h), fun h => absurd h R.out⟩⟩, q0.out⟩
        · have hlt' : ¬ (k : Int) < (nS : Int) := by omega
          have HA := hide (show ∀ j, j < nS → (S j).size = 64 from fun j hj => hall.out j (by omega))
          clear hall
          go_wp2_with fail
          go_loopw [4] (fun i wx => ∃ k : Nat, k ≤ nC ∧ i = .int .i64 k ∧ Hid (∀ j, j < k → 0 ≤ A j ∧ A j < (nS : Int) ∧ (X j).size = 64) ∧ Hid (Below W1.heap.size W1 wx)) (fun i _ => nC - (intOf i).toNat)
          case atStart => exact ⟨0, Nat.zero_le _, rfl, fun j hj => by omega, Below.refl _ _⟩
          case round =>
            obtain ⟨m, hm, rfl, hall, hbl⟩ := hrel
            have hws := hbl.out.size
            have e0 : wr.cell? ⟨w.heap.size, 0, none⟩ = some (.slice sa nS sk) := (hbl.out.cell (p := ⟨w.heap.size, 0, none⟩) (by show w.heap.size < _; omega)).trans c0
            have e1 : wr.cell? ⟨w.heap.size, 1, none⟩ = some (.slice ca nC ck) := (hbl.out.cell (p := ⟨w.heap.size, 1, none⟩) (by show w.heap.size < _; omega)).trans c1
            by_cases hlt2 : m < nC
            · have hlt2' : (m : Int) < (nC : Int) := by omega
              obtain h00 | ⟨r, o, rfl, hr, hcells⟩ := HC.out
              · omega
              obtain ⟨a, ha⟩ : ∃ a, a = A m := ⟨_, rfl⟩
              obtain ⟨x, hx⟩ : ∃ x, x = X m := ⟨_, rfl⟩
              obtain ⟨q, hq⟩ : ∃ q, q = o + 2 * m := ⟨_, rfl⟩
              have y0 : wr.cell? ⟨r, q, none⟩ = some (.int .i64 a) := by rw [hq, ha]; exact (hbl.out.cell (p := ⟨r, o + 2 * m, none⟩) (by show r < _; omega)).trans ((q0.out.cell (p := ⟨r, o + 2 * m, none⟩) hr).trans (hcells m hlt2 0 (by omega)))
              have y1 : wr.cell? ⟨r, q + 1, none⟩ = some (.string x) := by rw [hq, hx]; exact (hbl.out.cell (p := ⟨r, o + 2 * m + 1, none⟩) (by show r < _; omega)).trans ((q0.out.cell (p := ⟨r, o + 2 * m + 1, none⟩) hr).trans (hcells m hlt2 1 (by omega)))
              have n1 : o + 2 * m = q := hq.symm
              have n2 : o + m * 2 = q := by omega
              have HX := hide (And.intro ha hx)
              have e0' : (wr.alloc (.cells #[.int .i64 a, .string x] 70)).cell? ⟨w.heap.size, 0, none⟩ = some (.slice sa nS sk) := (((Below.refl wr.heap.size wr).alloc (Nat.le_refl _) _).cell (p := ⟨w.heap.size, 0, none⟩) (by show w.heap.size < _; omega)).trans e0
              have BA := hide (hbl.out.alloc hws (.cells #[.int .i64 a, .string x] 70))
              clear hcells HC ha hx hq hbl
              by_cases b4 : a < 0
              · have d4 : decide (a < 0) = true := decide_eq_true b4
                have R := hide (show ¬ dskOk nS S nC A X from fun h => by have := (h.2.2.2 m hlt2).1; rw [← HX.out.1] at this; omega)
                clear b4 hall
                go_wp2_with fail
                go_ret
                exact ⟨⟨false, rfl, ⟨(fun h => by cases h), fun h => absurd h R.out⟩⟩, q0.out.trans (BA.out.mono (by omega))⟩
              · have d4 : decide (a < 0) = false := decide_eq_false b4
                by_cases b5 : (nS : Int) ≤ a
                · have d5 : decide ((nS : Int) ≤ a) = true := decide_eq_true b5
                  have R := hide (show ¬ dskOk nS S nC A X from fun h => by have := (h.2.2.2 m hlt2).2.1; rw [← HX.out.1] at this; omega)
                  clear b4 b5 hall
                  go_wp2_with fail
                  go_ret
                  exact ⟨⟨false, rfl, ⟨(fun h => by cases h), fun h => absurd h R.out⟩⟩, q0.out.trans (BA.out.mono (by omega))⟩
                · have d5 : decide ((nS : Int) ≤ a) = false := decide_eq_false b5
                  by_cases b6 : x.size = 64
                  · have d6 : ((x.size : Int) != 64) = false := by simp [b6]
                    have R := hide (show ∀ j, j < m + 1 → 0 ≤ A j ∧ A j < (nS : Int) ∧ (X j).size = 64 from fun j hj => by
                      by_cases e : j = m
                      · rw [e, ← HX.out.1, ← HX.out.2]; exact ⟨by omega, by omega, b6⟩
                      · exact hall.out j (by omega))
                    clear b4 b5 b6 hall
                    go_wp2_with fail
                    go_roundw
                    case rel => exact ⟨m + 1, by omega, by go_num, R, BA⟩
                    case measure => simp [intOf]; omega
                  · have d6 : ((x.size : Int) != 64) = true := by simp; omega
                    have R := hide (show ¬ dskOk nS S nC A X from fun h => b6 (by rw [HX.out.2]; exact (h.2.2.2 m hlt2).2.2))
                    clear b4 b5 b6 hall
                    go_wp2_with fail
                    go_ret
                    exact ⟨⟨false, rfl, ⟨(fun h => by cases h), fun h => absurd h R.out⟩⟩, q0.out.trans (BA.out.mono (by omega))⟩
            · have hlt2' : ¬ (m : Int) < (nC : Int) := by omega
              have R := hide (show dskOk nS S nC A X from ⟨by omega, by omega, HA.out, fun j hj => hall.out j (by omega)⟩)
              clear hall
              go_wp2_with fail
              go_ret
              exact ⟨⟨true, rfl, ⟨fun _ => R.out, fun _ => rfl⟩⟩, q0.out.trans (hbl.out.mono (by omega))⟩
end Go.Proofs.Ytipeelkmmjgehab

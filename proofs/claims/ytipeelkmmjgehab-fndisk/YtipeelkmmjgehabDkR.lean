/- The walks over the program's isThere, DiskRight. -/
import Derived.Test.YtipeelkmmjgehabDskR
namespace Go.Proofs.Ytipeelkmmjgehab
open Go Go.RowKit
set_option maxRecDepth 100000 in
set_option maxHeartbeats 800000 in
theorem imp_lieInB (a m n : Int) (r : Bool) (w : World) (hn0 : 0 ≤ n) (hn : n ≤ 4611686018427387903) (hm0 : 0 ≤ m) (hm : m ≤ 4611686018427387904) (hr : r = true ↔ 0 ≤ a ∧ a ≤ n - m) :
    Calls Try.prog 63 #[.int .i64 a, .int .i64 m, .int .i64 n] w fun e w' => e = .returned (.bool r) ∧ w' = w := by
  have s1 : IntKind.i64.wrap (n - m) = n - m := by simp only [IntKind.wrap_i64]; omega
  by_cases b1 : 0 ≤ a
  · have d1 : decide ((0 : Int) ≤ a) = true := decide_eq_true b1
    by_cases b2 : a ≤ n - m
    · have d2 : decide (a ≤ n - m) = true := decide_eq_true b2
      obtain rfl : r = true := hr.2 ⟨b1, b2⟩
      clear b1 b2 hr
      go_enter Try.func63, Try.ntmps63
      go_wp2_with fail
      go_ret
      exact ⟨rfl, rfl⟩
    · have d2 : decide (a ≤ n - m) = false := decide_eq_false b2
      obtain rfl : r = false := by cases r; rfl; exact absurd (hr.1 rfl).2 b2
      clear b1 b2 hr
      go_enter Try.func63, Try.ntmps63
      go_wp2_with fail
      go_ret
      exact ⟨rfl, rfl⟩
  · have d1 : decide ((0 : Int) ≤ a) = false := decide_eq_false b1
    obtain rfl : r = false := by cases r; rfl; exact absurd (hr.1 rfl).1 b1
    clear b1 hr
    go_enter Try.func63, Try.ntmps63
    go_wp2_with fail
    go_ret
    exact ⟨rfl, rfl⟩
theorem imp_lieIn (a m n : Int) (w : World) (hn0 : 0 ≤ n) (hn : n ≤ 4611686018427387903) (hm0 : 0 ≤ m) (hm : m ≤ 4611686018427387904) :
    Calls Try.prog 63 #[.int .i64 a, .int .i64 m, .int .i64 n] w fun e w' => tells e (0 ≤ a ∧ a ≤ n - m) ∧ Below w.heap.size w w' :=
  (imp_lieInB a m n (decide (0 ≤ a ∧ a ≤ n - m)) w hn0 hn hm0 hm (by simp)).mono fun _ _ ⟨h1, h2⟩ => ⟨⟨_, h1, by simp⟩, h2 ▸ Below.refl _ _⟩
set_option maxRecDepth 100000 in
set_option maxHeartbeats 800000 in
theorem imp_isThere (sa ca : Option Addr) (nS sk nC ck : Nat) (a m : Int) (w : World) (hS : nS ≤ 1048576) (hm0 : 0 ≤ m) (hm : m ≤ 4611686018427387904) :
    Calls Try.prog 44 #[.agg #[.slice sa nS sk, .slice ca nC ck], .int .i64 a, .int .i64 m] w fun e w' => tells e (0 ≤ a ∧ a ≤ (nS : Int) - m) ∧ Below w.heap.size w w' := by
  have q0 := hide ((Below.refl w.heap.size w).alloc (Nat.le_refl _) (.cells #[.slice sa nS sk, .slice ca nC ck] 26))
  go_enter Try.func44, Try.ntmps44
  go_wp2_with fail
  refine (imp_lieIn a m (nS : Int) _ (by omega) (by omega) hm0 hm).mono ?_
  rintro e w1 ⟨⟨r, rfl, hr⟩, hb1⟩
  have B := hide (q0.out.trans (hb1.mono (by simp)))
  have R := hide hr
  clear hb1 hr
  go_wp2_with fail
  go_ret
  exact ⟨⟨r, rfl, R.out⟩, B.out⟩
set_option maxRecDepth 100000 in
set_option maxHeartbeats 1600000 in
theorem imp_diskRight (v : Value) (nS : Nat) (S : Nat → ByteArray) (nC : Nat) (A : Nat → Int) (X : Nat → ByteArray) (w : World) (hS : nS ≤ 1048576) (hC : nC ≤ 1048576) (h : dskI w w.heap.size v nS S nC A X) :
    Calls Try.prog 14 #[v] w fun e w' => tells e (dskOk nS S nC A X) ∧ Below w.heap.size w w' := by
  obtain ⟨sv, cv, rfl, ⟨sa, sk, rfl, hsk, hs⟩, ⟨ca, ck, rfl, hck, hc⟩⟩ := h
  have HS := hide hs
  have HC := hide hc
  clear hs hc
  have hsk' : (nS : Int) ≤ (sk : Int) := by omega
  have hck' : (nC : Int) ≤ (ck : Int) := by omega
  have q0 := hide ((Below.refl w.heap.size w).alloc (Nat.le_refl _) (.cells #[.slice sa nS sk, .slice ca nC ck] 26))
  by_cases b1 : 620 < nS
  · have d1 : decide ((620 : Int) < (nS : Int)) = true := decide_eq_true (by omega)
    go_enter Try.func14, Try.ntmps14
    go_wp2_with fail
    go_ret
    exact ⟨⟨false, rfl, ⟨(fun h => by cases h), (fun h => by have := h.1; omega)⟩⟩, q0.out⟩
  · have d1 : decide ((620 : Int) < (nS : Int)) = false := decide_eq_false (by omega)
    by_cases b2 : 400 < nC
    · have d2 : decide ((400 : Int) < (nC : Int)) = true := decide_eq_true (by omega)
      go_enter Try.func14, Try.ntmps14
      go_wp2_with fail
      go_ret
      exact ⟨⟨false, rfl, ⟨(fun h => by cases h), (fun h => by have := h.2.1; omega)⟩⟩, q0.out⟩
    · have d2 : decide ((400 : Int) < (nC : Int)) = false := decide_eq_false (by omega)
      go_enter Try.func14, Try.ntmps14
      go_wp2_with fail
      have qs : (w.alloc (.cells #[.slice sa nS sk, .slice ca nC ck] 26)).heap.size = w.heap.size + 1 := by simp
      have c0 : (w.alloc (.cells #[.slice sa nS sk, .slice ca nC ck] 26)).cell? ⟨w.heap.size, 0, none⟩ = some (.slice sa nS sk) := by go_simp
      have c1 : (w.alloc (.cells #[.slice sa nS sk, .slice ca nC ck] 26)).cell? ⟨w.heap.size, 1, none⟩ = some (.slice ca nC ck) := by go_simp
      generalize w.alloc (.cells #[.slice sa nS sk, .slice ca nC ck] 26) = W1 at *
      go_loopw [20] (fun i wx => ∃ k : Nat, k ≤ nS ∧ i = .int .i64 k ∧ Hid (∀ j, j < k → (S j).size = 64) ∧ W1 = wx) (fun i _ => nS - (intOf i).toNat)
      case atStart => exact ⟨0, Nat.zero_le _, rfl, fun j hj => by omega, rfl⟩
      case round =>
        obtain ⟨k, hk, rfl, hall, rfl⟩ := hrel
        by_cases hlt : k < nS
        · have hlt' : (k : Int) < (nS : Int) := by omega
          obtain h00 | ⟨r, o, rfl, hr, hcells⟩ := HS.out
          · omega
          obtain ⟨x, hx⟩ : ∃ x, x = S k := ⟨_, rfl⟩
          have y : W1.cell? ⟨r, o + k, none⟩ = some (.string x) := by rw [hx]; exact (q0.out.cell (p := ⟨r, o + k, none⟩) hr).trans (hcells k hlt)
          have HX := hide hx
          clear hcells HS hx
          by_cases b3 : x.size = 64
          · have d3 : ((x.size : Int) != 64) = false := by simp [b3]
            have R := hide (show ∀ j, j < k + 1 → (S j).size = 64 from fun j hj => by
              by_cases e : j = k
              · rw [e, ← HX.out]; exact b3
              · exact hall.out j (by omega))
            clear b3 hall
            go_wp2_with fail
            go_roundw
            case rel => exact ⟨k + 1, by omega, by go_num, R, trivial⟩
            case measure => simp [intOf]; omega
          · have d3 : ((x.size : Int) != 64) = true := by simp; omega
            have R := hide (show ¬ dskOk nS S nC A X from fun h => b3 (by rw [HX.out]; exact h.2.2.1 k hlt))
            clear b3 hall
            go_wp2_with fail
            go_ret
            exact ⟨⟨false, rfl, ⟨(fun h => by cases h), fun h => absurd h R.out⟩⟩, q0.out⟩
        · have hlt' : ¬ (k : Int) < (nS : Int) := by omega
          have HA := hide (show ∀ j, j < nS → (S j).size = 64 from fun j hj => hall.out j (by omega))
          clear hall
          go_wp2_with fail
          go_loopw [31] (fun i wx => ∃ k : Nat, k ≤ nC ∧ i = .int .i64 k ∧ Hid (∀ j, j < k → 0 ≤ A j ∧ A j < (nS : Int) ∧ (X j).size = 64) ∧ Hid (Below W1.heap.size W1 wx)) (fun i _ => nC - (intOf i).toNat)
          case atStart => exact ⟨0, Nat.zero_le _, rfl, fun j hj => by omega, Below.refl _ _⟩
          case round =>
            obtain ⟨m, hm, rfl, hall, hbl⟩ := hrel
            have hws := hbl.out.size
            have e0 : wr.cell? ⟨w.heap.size, 0, none⟩ = some (.slice sa nS sk) := (hbl.out.cell (p := ⟨w.heap.size, 0, none⟩) (by show w.heap.size < _; omega)).trans c0
            have e1 : wr.cell? ⟨w.heap.size, 1, none⟩ = some (.slice ca nC ck) := (hbl.out.cell (p := ⟨w.heap.size, 1, none⟩) (by show w.heap.size < _; omega)).trans c1
            by_cases hlt2 : m < nC
            · have hlt2' : (m : Int) < (nC : Int) := by omega
              obtain h00 | ⟨r, o, rfl, hr, hcells⟩ := HC.out
              · omega
              obtain ⟨a, ha⟩ : ∃ a, a = A m := ⟨_, rfl⟩
              obtain ⟨x, hx⟩ : ∃ x, x = X m := ⟨_, rfl⟩
              obtain ⟨q, hq⟩ : ∃ q, q = o + 2 * m := ⟨_, rfl⟩
              have y0 : wr.cell? ⟨r, q, none⟩ = some (.int .i64 a) := by rw [hq, ha]; exact (hbl.out.cell (p := ⟨r, o + 2 * m, none⟩) (by show r < _; omega)).trans ((q0.out.cell (p := ⟨r, o + 2 * m, none⟩) hr).trans (hcells m hlt2 0 (by omega)))
              have y1 : wr.cell? ⟨r, q + 1, none⟩ = some (.string x) := by rw [hq, hx]; exact (hbl.out.cell (p := ⟨r, o + 2 * m + 1, none⟩) (by show r < _; omega)).trans ((q0.out.cell (p := ⟨r, o + 2 * m + 1, none⟩) hr).trans (hcells m hlt2 1 (by omega)))
              have n1 : o + 2 * m = q := hq.symm
              have n2 : o + m * 2 = q := by omega
              have HX := hide (And.intro ha hx)
              have e0' : (wr.alloc (.cells #[.int .i64 a, .string x] 70)).cell? ⟨w.heap.size, 0, none⟩ = some (.slice sa nS sk) := (((Below.refl wr.heap.size wr).alloc (Nat.le_refl _) _).cell (p := ⟨w.heap.size, 0, none⟩) (by show w.heap.size < _; omega)).trans e0
              have e1' : (wr.alloc (.cells #[.int .i64 a, .string x] 70)).cell? ⟨w.heap.size, 1, none⟩ = some (.slice (some ⟨r, o, none⟩) nC ck) := (((Below.refl wr.heap.size wr).alloc (Nat.le_refl _) _).cell (p := ⟨w.heap.size, 1, none⟩) (by show w.heap.size < _; omega)).trans e1
              have BA := hide (hbl.out.alloc hws (.cells #[.int .i64 a, .string x] 70))
              clear hcells HC ha hx hq hbl
              go_wp2_with fail
              refine (imp_isThere sa (some ⟨r, o, none⟩) nS sk nC ck a 1 _ hS (by omega) (by omega)).mono ?_
              rintro e w1 ⟨⟨r1, rfl, hr1⟩, hb1⟩
              have t1 : w1.cell? ⟨wr.heap.size, 1, none⟩ = some (.string x) := (hb1.cell (p := ⟨wr.heap.size, 1, none⟩) (by show _ < (World.heap _).size; simp)).trans (by go_simp)
              have B1 := hide (BA.out.trans (hb1.mono (by simp; omega)))
              clear hb1 e0 e1 e0' e1' y0 y1
              cases r1 with
              | false =>
                have R := hide (show ¬ dskOk nS S nC A X from fun h => by
                  have h2 := h.2.2.2 m hlt2
                  rw [← HX.out.1] at h2
                  have := hr1.2 ⟨h2.1, by omega⟩
                  cases this)
                clear hr1 hall
                go_wp2_with fail
                go_ret
                exact ⟨⟨false, rfl, ⟨(fun h => by cases h), fun h => absurd h R.out⟩⟩, q0.out.trans (B1.out.mono (by omega))⟩
              | true =>
                have b5 := hr1.1 rfl
                by_cases b6 : x.size = 64
                · have d6 : ((x.size : Int) != 64) = false := by simp [b6]
                  have R := hide (show ∀ j, j < m + 1 → 0 ≤ A j ∧ A j < (nS : Int) ∧ (X j).size = 64 from fun j hj => by
                    by_cases e : j = m
                    · rw [e, ← HX.out.1, ← HX.out.2]; exact ⟨b5.1, by omega, b6⟩
                    · exact hall.out j (by omega))
                  clear hr1 b5 b6 hall
                  go_wp2_with fail
                  go_roundw
                  case rel => exact ⟨m + 1, by omega, by go_num, R, B1⟩
                  case measure => simp [intOf]; omega
                · have d6 : ((x.size : Int) != 64) = true := by simp; omega
                  have R := hide (show ¬ dskOk nS S nC A X from fun h => b6 (by rw [HX.out.2]; exact (h.2.2.2 m hlt2).2.2))
                  clear hr1 b5 b6 hall
                  go_wp2_with fail
                  go_ret
                  exact ⟨⟨false, rfl, ⟨(fun h => by cases h), fun h => absurd h R.out⟩⟩, q0.out.trans (B1.out.mono (by omega))⟩
            · have hlt2' : ¬ (m : Int) < (nC : Int) := by omega
              have R := hide (show dskOk nS S nC A X from ⟨by omega, by omega, HA.out, fun j hj => hall.out j (by omega)⟩)
              clear hall
              go_wp2_with fail
              go_ret
              exact ⟨⟨true, rfl, ⟨fun _ => R.out, fun _ => rfl⟩⟩, q0.out.trans (hbl.out.mono (by omega))⟩
end Go.Proofs.Ytipeelkmmjgehab

/- The walks over the laws' marks and sizes of slices of Write (written by mkls.py). -/
import Derived.Test.YtipeelkmmjgehabLwWr
namespace Go.Proofs.Ytipeelkmmjgehab
open Go Go.RowKit
theorem mkWr_0 (k0 x : Nat) (h : x % 2 = 0) : mkWr k0 x = .int .i64 (((k0 + x) : Nat) : Int) := by
  unfold mkWr
  rw [if_pos h]
theorem mkWr_1 (k0 x : Nat) (h : x % 2 = 1) : mkWr k0 x = .string (markT (k0 + x)) := by
  unfold mkWr
  rw [if_neg (by omega)]
set_option maxRecDepth 100000 in
set_option maxHeartbeats 800000 in
theorem law_markWr (v : Value) (n k0 : Nat) (f : Nat → Value) (w : World) (hn : n ≤ 1048576) (hk0 : k0 ≤ 8388608) (ha : valM 2 w v n f) :
    Calls Try.prog 56 #[v, .int .i64 k0] w fun e w' => e = .returned (.int .i64 ((k0 + 2 * n : Nat) : Int)) ∧ valM 2 w' v n (mkWr k0) ∧ w.grownBy w' v.ownBlock := by
  obtain ⟨ao, cap, rfl, hcap, hA⟩ := ha
  have hcap' : (n : Int) ≤ (cap : Int) := by omega
  by_cases hn0 : n = 0
  · subst hn0
    clear hA
    go_enter Try.func56, Try.ntmps56
    go_wp2_with fail
    go_loopw [1, 5] (fun k i wx => k = .int .i64 k0 ∧ i = .int .i64 0 ∧ w = wx) (fun _ _ _ => 0)
    case atStart => exact ⟨rfl, rfl, rfl⟩
    case round =>
      obtain ⟨rfl, rfl, rfl⟩ := hrel
      go_wp2_with fail
      go_ret
      exact ⟨rfl, ⟨ao, cap, rfl, hcap, .inl rfl⟩, ⟨rfl, rfl, rfl, Nat.le_refl _, fun _ _ _ => rfl⟩⟩
  · obtain h0 | ⟨g, rfl, hg, hc⟩ := hA
    · exact absurd h0 hn0
    have HC := hide (show rc w g (n * 2) f from ⟨hg, hc⟩)
    clear hc
    go_enter Try.func56, Try.ntmps56
    go_wp2_with fail
    go_loopw [1, 5] (fun k i wx => ∃ (c : Nat) (h : Nat → Value), c ≤ n ∧ i = .int .i64 c ∧ k = .int .i64 ((k0 + 2 * c : Nat) : Int) ∧ Hid (∀ y, y < 2 * c → h y = mkWr k0 y) ∧ Hid (rc wx g (n * 2) h) ∧ w.grownBy wx (some g)) (fun _ i _ => n - (intOf i).toNat)
    case atStart => exact ⟨0, f, Nat.zero_le _, rfl, rfl, fun j hj => by omega, HC, ⟨rfl, rfl, rfl, Nat.le_refl _, fun _ _ _ => rfl⟩⟩
    case round =>
      obtain ⟨c, h, hm, rfl, rfl, hh, hrc, hgr⟩ := hrel
      by_cases hlt : c < n
      · have hlt' : decide ((c : Int) < (n : Int)) = true := decide_eq_true (by omega)
        have hlt2 : (c : Int) < (n : Int) := by omega
        obtain ⟨q, hq⟩ : ∃ q, q = 2 * c := ⟨_, rfl⟩
        have n1 : 2 * c = q := hq.symm
        have n2 : c * 2 = q := by omega
        obtain ⟨K0, hK0⟩ : ∃ K, K = k0 + 2 * c + 0 := ⟨_, rfl⟩
        obtain ⟨K1, hK1⟩ : ∃ K, K = k0 + 2 * c + 1 := ⟨_, rfl⟩
        obtain ⟨K2, hK2⟩ : ∃ K, K = k0 + 2 * c + 2 := ⟨_, rfl⟩
        have t0 : (K0 : Int) + 1 = (K1 : Int) := by omega
        have tb0 : (K0 : Int) ≤ 16777216 := by omega
        have t1 : (K1 : Int) + 1 = (K2 : Int) := by omega
        have tb1 : (K1 : Int) ≤ 16777216 := by omega
        obtain ⟨uA0, dA0⟩ : ∃ u, wr.cell? ⟨g, q, none⟩ = some u := ⟨_, (hrc.out.at_ (q) (by omega)).1⟩
        have zA0 : wr.frozen? ⟨g, q, none⟩ = false := (hrc.out.at_ (q) (by omega)).2
        obtain ⟨uA1, dA1⟩ : ∃ u, wr.cell? ⟨g, q + 1, none⟩ = some u := ⟨_, (hrc.out.at_ (q + 1) (by omega)).1⟩
        have zA1 : wr.frozen? ⟨g, q + 1, none⟩ = false := (hrc.out.at_ (q + 1) (by omega)).2
        have HK := hide (And.intro hK0 (And.intro hK1 hK2))
        have HQ := hide hq
        rw [show k0 + 2 * c = K0 by omega]
        have hqn : q + 2 ≤ n * 2 := by omega
        clear hK0 hK1 hK2 hq
        go_wp2_with fail
        refine (mark_text K1 _ (by omega)).mono ?_
        rintro e w1 ⟨rfl, hb1⟩
        obtain ⟨X1, hX1⟩ : ∃ X, X = markT K1 := ⟨_, rfl⟩
        rw [← hX1]
        have RR1 := hide (rc.below (rc.set hrc.out (q) (.int .i64 (K0 : Int))) hb1)
        have GG1 := grown_below (grownBy_set hgr _) hb1
        have HXX1 := hide hX1
        obtain ⟨uB11, dB11⟩ : ∃ u, w1.cell? ⟨g, q + 1, none⟩ = some u := ⟨_, (RR1.out.at_ (q + 1) (by omega)).1⟩
        have zB11 : w1.frozen? ⟨g, q + 1, none⟩ = false := (RR1.out.at_ (q + 1) (by omega)).2
        clear hX1 hb1 dA0 zA0 dA1 zA1
        go_wp2_with fail
        have RF := hide (rc.set RR1.out (q + 1) (.string X1))
        have HH := hide (show ∀ y, y < 2 * (c + 1) → (if y = q + 1 then .string X1 else if y = q then .int .i64 (K0 : Int) else h y) = mkWr k0 y from fun y hy => by
          have hQ := HQ.out
          obtain ⟨e0, e1, e2⟩ := HK.out
          by_cases c1 : y = q + 1
          · rw [if_pos c1, mkWr_1 k0 y (by omega), HXX1.out]; congr 2; omega
          rw [if_neg c1]
          by_cases c0 : y = q
          · rw [if_pos c0, mkWr_0 k0 y (by omega)]; congr 2; omega
          rw [if_neg c0]
          exact hh.out y (by omega))
        have HKm := hide (show (K2 : Int) = ((k0 + 2 * (c + 1) : Nat) : Int) by have := HK.out; omega)
        go_roundw
        case rel => exact ⟨c + 1, _, by omega, by go_num, by rw [HKm.out], HH, RF, (grownBy_set GG1 _)⟩
        case measure => simp [intOf]; omega
      · have hlt' : decide ((c : Int) < (n : Int)) = false := decide_eq_false (by omega)
        have hmn : c = n := by omega
        subst hmn
        go_wp2_with fail
        go_ret
        exact ⟨by rfl, hrc.out.val hcap (fun j hj => hh.out j (by omega)), hgr⟩
set_option maxRecDepth 100000 in
set_option maxHeartbeats 800000 in
theorem law_heldWr (v : Value) (n k0 : Nat) (w : World) (hn : n ≤ 1048576) (hk0 : k0 ≤ 8388608) (ha : valM 2 w v n (mkWr k0)) :
    Calls Try.prog 60 #[v, .int .i64 k0] w fun e w' => e = .returned (.int .i64 ((k0 + 2 * n : Nat) : Int)) ∧ Below w.heap.size w w' := by
  obtain ⟨ao, cap, rfl, hcap, hA⟩ := ha
  have hcap' : (n : Int) ≤ (cap : Int) := by omega
  have HA := hide hA
  clear hA
  go_enter Try.func60, Try.ntmps60
  go_wp2_with fail
  go_loopw [1, 5] (fun k i wx => ∃ c : Nat, c ≤ n ∧ i = .int .i64 c ∧ k = .int .i64 ((k0 + 2 * c : Nat) : Int) ∧ Below w.heap.size w wx) (fun _ i _ => n - (intOf i).toNat)
  case atStart => exact ⟨0, Nat.zero_le _, rfl, rfl, Below.refl _ _⟩
  case round =>
    obtain ⟨c, hm, rfl, rfl, hbl⟩ := hrel
    by_cases hlt : c < n
    · have hlt' : decide ((c : Int) < (n : Int)) = true := decide_eq_true (by omega)
      have hlt2 : (c : Int) < (n : Int) := by omega
      obtain h0 | ⟨g, rfl, hg, hc⟩ := HA.out
      · omega
      obtain ⟨q, hq⟩ : ∃ q, q = 2 * c := ⟨_, rfl⟩
      have n1 : 2 * c = q := hq.symm
      have n2 : c * 2 = q := by omega
      obtain ⟨K0, hK0⟩ : ∃ K, K = k0 + 2 * c + 0 := ⟨_, rfl⟩
      obtain ⟨K1, hK1⟩ : ∃ K, K = k0 + 2 * c + 1 := ⟨_, rfl⟩
      obtain ⟨K2, hK2⟩ : ∃ K, K = k0 + 2 * c + 2 := ⟨_, rfl⟩
      have t0 : (K0 : Int) + 1 = (K1 : Int) := by omega
      have tb0 : (K0 : Int) ≤ 16777216 := by omega
      have t1 : (K1 : Int) + 1 = (K2 : Int) := by omega
      have tb1 : (K1 : Int) ≤ 16777216 := by omega
      have v0 : w.cell? ⟨g, q, none⟩ = some (.int .i64 (K0 : Int)) := by
        rw [(hc (q) (by omega)).1, mkWr_0 k0 (q) (by omega)]; congr 3; omega
      obtain ⟨X1, hX1⟩ : ∃ X, X = markT K1 := ⟨_, rfl⟩
      have CT1 := hide (show ∀ u : World, Calls Try.prog 68 #[.int .i64 (K1 : Int)] u (fun e w' => e = .returned (.string X1) ∧ Below u.heap.size u w') from fun u => by rw [hX1]; exact mark_text K1 u (by omega))
      have v1 : w.cell? ⟨g, q + 1, none⟩ = some (.string X1) := by
        rw [(hc (q + 1) (by omega)).1, mkWr_1 k0 (q + 1) (by omega), hX1]; congr 3; omega
      have HK := hide (And.intro hK0 (And.intro hK1 hK2))
      rw [show k0 + 2 * c = K0 by omega]
      clear hc HA hq hK0 hK1 hK2 hX1
      have d0 : wr.cell? ⟨g, q, none⟩ = some (.int .i64 (K0 : Int)) := (hbl.cell (p := ⟨g, q, none⟩) hg).trans v0
      have d1 : wr.cell? ⟨g, q + 1, none⟩ = some (.string X1) := (hbl.cell (p := ⟨g, q + 1, none⟩) hg).trans v1
      go_wp2_with fail
      have SA1 : ∀ u : World, Below wr.heap.size wr u → u.cell? ⟨g, q + 1, none⟩ = some (.string X1) := fun u hu => (hu.cell (p := ⟨g, q + 1, none⟩) (by show g < _; have := hbl.size; omega)).trans d1
      refine wp_region_held_drew (S := fun u => u.cell? ⟨g, q + 1, none⟩ = some (.string X1)) (by kernel_rfl) (SA1 _ (Below.refl _ _).drew) (fun hHeld => ?_)
      refine takeD (i := 0) (v := .slice (some ⟨g, 0, none⟩) n cap) (some 21) rfl rfl (by kernel_rfl) (by kernel_rfl) (by kernel_rfl) (fun _ _ _ h => h) (Or.inl ⟨by rfl, fun w hSw => by go_simp⟩) hHeld ?_
      simp only [Act.put, List.setIfInBounds_toArray, List.set_cons_zero, List.set_cons_succ]
      refine takeD (i := 1) (v := .int .i64 (c : Int)) (some 22) rfl rfl (by kernel_rfl) (by kernel_rfl) (by kernel_rfl) (fun _ _ _ h => h) (Or.inl ⟨by rfl, fun w hSw => by go_simp⟩) hHeld ?_
      simp only [Act.put, List.setIfInBounds_toArray, List.set_cons_zero, List.set_cons_succ]
      refine takeD (i := 2) (v := .pointer (some ⟨g, q, none⟩)) (some 23) rfl rfl (by kernel_rfl) (by kernel_rfl) (by kernel_rfl) (fun _ _ _ h => h) (Or.inl ⟨by rfl, fun w hSw => by go_simp⟩) hHeld ?_
      simp only [Act.put, List.setIfInBounds_toArray, List.set_cons_zero, List.set_cons_succ]
      refine takeD (i := 3) (v := .pointer (some ⟨g, q + 1, none⟩)) (some 24) rfl rfl (by kernel_rfl) (by kernel_rfl) (by kernel_rfl) (fun _ _ _ h => h) (Or.inl ⟨by rfl, fun w hSw => by go_simp⟩) hHeld ?_
      simp only [Act.put, List.setIfInBounds_toArray, List.set_cons_zero, List.set_cons_succ]
      refine takeD (i := 4) (v := .string X1) (some 25) rfl rfl (by kernel_rfl) (by kernel_rfl) (by kernel_rfl) (fun _ _ _ h => h) (Or.inl ⟨by rfl, fun w hSw => by have s0 := hSw; go_simp⟩) hHeld ?_
      simp only [Act.put, List.setIfInBounds_toArray, List.set_cons_zero, List.set_cons_succ]
      refine takeD (i := 5) (v := .int .i64 (K1 : Int)) (some 26) rfl rfl (by kernel_rfl) (by kernel_rfl) (by kernel_rfl) (fun _ _ _ h => h) (Or.inl ⟨by rfl, fun w hSw => by go_simp⟩) hHeld ?_
      simp only [Act.put, List.setIfInBounds_toArray, List.set_cons_zero, List.set_cons_succ]
      refine wpAnyH_ready (rs := [6]) (by kernel_rfl) (by simp) ?_
      refine AllReadyH.cons rfl (fun KK hK => ?_) AllReadyH.nil
      go_simp
      refine (CT1.out _).mono ?_
      rintro e w1 ⟨rfl, hb1⟩
      go_simp
      have hb1' : Below wr.heap.size wr w1 := ((Below.refl _ wr).drew).trans hb1
      refine hK.out _ _ (SA1 _ hb1') (fun hHeld => ?_)
      clear hK KK
      refine takeD (i := 7) (v := .bool false) (some 28) rfl rfl (by kernel_rfl) (by kernel_rfl) (by kernel_rfl) (fun _ _ _ h => h) (Or.inl ⟨by rfl, fun w hSw => by go_simp⟩) hHeld ?_
      simp only [Act.put, List.setIfInBounds_toArray, List.set_cons_zero, List.set_cons_succ]
      refine wpAnyH_done (by kernel_rfl) ?_ _
      have BB1 := hbl.trans (hb1'.mono hbl.size)
      clear hb1 hb1' SA1 hHeld
      clear d0 d1
      go_wp2_with fail
      have HKm := hide (show (K2 : Int) = ((k0 + 2 * (c + 1) : Nat) : Int) by have := HK.out; omega)
      go_roundw
      case rel => exact ⟨c + 1, by omega, by go_num, by rw [HKm.out], BB1⟩
      case measure => simp [intOf]; omega
    · have hlt' : decide ((c : Int) < (n : Int)) = false := decide_eq_false (by omega)
      have hmn : c = n := by omega
      subst hmn
      go_wp2_with fail
      go_ret
      exact ⟨rfl, hbl⟩
set_option maxRecDepth 100000 in
set_option maxHeartbeats 400000 in
theorem law_szWr (x0 : Int) (x1 : ByteArray) (L : Int) (w : World) (h0 : 0 ≤ L) (hL : L ≤ 1048576) (hs1 : x1.size ≤ 9223372036854775807) :
    Calls Try.prog 65 #[(.agg #[.int .i64 x0, .string x1]), .int .i64 L] w fun e w' => ∃ r : Int, e = .returned (.int .i64 r) ∧ (r = -1 ∨ (0 ≤ r ∧ r ≤ L ∧ x1.size ≤ 1048576)) ∧ Below w.heap.size w w' := by
  by_cases b1 : L - (x1.size : Int) < 0
  · go_enter Try.func65, Try.ntmps65
    go_wp2_with fail
    go_ret
    exact ⟨_, rfl, .inl rfl, (Below.refl _ _).alloc (Nat.le_refl _) _⟩
  · have b1' : 0 ≤ L - (x1.size : Int) := by omega
    go_enter Try.func65, Try.ntmps65
    go_wp2_with fail
    go_ret
    exact ⟨_, rfl, .inr ⟨by omega, by omega, by omega⟩, (Below.refl _ _).alloc (Nat.le_refl _) _⟩
set_option maxRecDepth 100000 in
set_option maxHeartbeats 800000 in
theorem law_szWrS (v : Value) (n : Nat) (F0 : Nat → Int) (F1 : Nat → ByteArray) (L : Int) (w : World) (h0 : 0 ≤ L) (hL : L ≤ 1048576) (hn : n ≤ 9223372036854775807) (hs1 : ∀ j, j < n → (F1 j).size ≤ 9223372036854775807) (hb : sliI 2 w w.heap.size v n (cWr F0 F1)) :
    Calls Try.prog 50 #[v, .int .i64 L] w fun e w' => ∃ r : Int, e = .returned (.int .i64 r) ∧ (r = -1 ∨ (0 ≤ r ∧ r ≤ L - (n : Int) ∧ ∀ j, j < n → (F1 j).size ≤ 1048576)) ∧ Below w.heap.size w w' := by
  obtain ⟨a, cap, rfl, hcap, hbits⟩ := hb
  have HB := hide hbits
  clear hbits
  have hcap' : (n : Int) ≤ (cap : Int) := by omega
  by_cases b0 : L - (n : Int) < 0
  · go_enter Try.func50, Try.ntmps50
    go_wp2_with fail
    go_ret
    exact ⟨_, rfl, .inl rfl, Below.refl _ _⟩
  · have b0' : 0 ≤ L - (n : Int) := by omega
    go_enter Try.func50, Try.ntmps50
    go_wp2_with fail
    go_loopw [1, 5] (fun lv i wx => ∃ (k : Nat) (l : Int), k ≤ n ∧ i = .int .i64 k ∧ lv = .int .i64 l ∧ 0 ≤ l ∧ l ≤ L - (n : Int) ∧ Hid (Below w.heap.size w wx) ∧ Hid (∀ j, j < k → (F1 j).size ≤ 1048576)) (fun _ i _ => n - (intOf i).toNat)
    case atStart => exact ⟨0, _, Nat.zero_le _, rfl, rfl, b0', Int.le_refl _, Below.refl _ _, (fun j hj => by omega)⟩
    case round =>
      obtain ⟨k, l, hk, rfl, rfl, hl0, hl1, hbl, hsz⟩ := hrel
      by_cases hlt : k < n
      · have hlt' : (k : Int) < (n : Int) := by omega
        obtain h00 | ⟨r, o, rfl, hr, hcells⟩ := HB.out
        · omega
        obtain ⟨x0, hx0⟩ : ∃ x, x = F0 k := ⟨_, rfl⟩
        obtain ⟨x1, hx1⟩ : ∃ x, x = F1 k := ⟨_, rfl⟩
        obtain ⟨q, hq⟩ : ∃ q, q = o + 2 * k := ⟨_, rfl⟩
        have y0 : wr.cell? ⟨r, q, none⟩ = some (.int .i64 x0) := by rw [hq, hx0]; exact (hbl.out.cell (p := ⟨r, o + 2 * k, none⟩) hr).trans (hcells k hlt 0 (by omega))
        have y1 : wr.cell? ⟨r, q + 1, none⟩ = some (.string x1) := by rw [hq, hx1]; exact (hbl.out.cell (p := ⟨r, o + 2 * k + 1, none⟩) hr).trans (hcells k hlt 1 (by omega))
        have n1 : o + 2 * k = q := hq.symm
        have n2 : o + k * 2 = q := by omega
        have g1 : x1.size ≤ 9223372036854775807 := by rw [hx1]; exact hs1 k hlt
        have HXX := hide (hx1)
        have hbs := hbl.out.size
        clear hcells HB hq hx0 hx1 hs1
        go_wp2_with fail
        refine (law_szWr x0 x1 l _ hl0 (by omega) g1).mono ?_
        rintro e w1 ⟨r1, rfl, hr1, hb1⟩
        have B1 := hide (hbl.out.trans (hb1.mono hbs))
        clear hb1 hbl y0 y1 n1 n2
        rcases hr1 with rfl | ⟨hr0, hrl, hsx⟩
        · go_wp2_with fail
          go_ret
          exact ⟨_, rfl, .inl rfl, B1.out⟩
        · have hr0' : ¬ r1 < 0 := by omega
          have R9 := hide (show ∀ j, j < k + 1 → (F1 j).size ≤ 1048576 from fun j hj => (Nat.lt_or_ge j k).elim (fun h => (hsz.out) j h) (fun h => (show j = k from by omega) ▸ (HXX.out) ▸ (hsx)))
          clear hsx hsz HXX
          go_wp2_with fail
          go_roundw
          case rel => exact ⟨k + 1, r1, by omega, by go_num, rfl, hr0, by omega, B1, R9⟩
          case measure => simp [intOf]; omega
      · have hlt' : ¬ (k : Int) < (n : Int) := by omega
        have hkn : n = k := by omega
        subst hkn
        go_wp2_with fail
        go_ret
        exact ⟨_, rfl, .inr ⟨hl0, hl1, hsz.out⟩, hbl.out⟩
end Go.Proofs.Ytipeelkmmjgehab

/- The walk over the model's GetNum. -/
import Derived.Test.YtdoodkabmeojmaaDoorNumO
import Derived.Test.YtdoodkabmeojmaaDoorReadNum
import Derived.Handy
namespace Go.Proofs.YtdoodkabmeojmaaDoor
open Go.RowKit

theorem shl_step (u c k : Nat) (hk : k ≤ 9) (hu : u < 2 ^ (7 * k)) (h9 : k = 9 → c ≤ 1) :
    IntKind.u64.wrap (((c : Int) % 128) * 2 ^ (7 * k)) = ((c % 128 * 2 ^ (7 * k) : Nat) : Int) ∧ u + c % 128 * 2 ^ (7 * k) < 18446744073709551616 := by
  have hf := next_fits u c k hk hu h9
  have e : ((c : Int) % 128) * 2 ^ (7 * k) = ((c % 128 * 2 ^ (7 * k) : Nat) : Int) := by
    rw [Int.natCast_mul, Int.natCast_pow, Int.natCast_emod]; rfl
  exact ⟨by rw [e, wrap_u64_in _ (by omega) (by omega)], hf⟩

set_option maxRecDepth 100000 in
set_option maxHeartbeats 400000 in
theorem spec_getNum_long (s : ByteArray) (p : Int) (w : World) (hs : s.size ≤ 9223372036854775807) (h : 20000 < s.size) :
    Calls Tryd.prog 23 #[.string s, .int .i64 p] w fun e w' => e = .returned (numOut 0 0 2) ∧ Below w.heap.size w w' := by
  go_enter Tryd.func23, Tryd.ntmps23
  go_wp2_with fail
  go_returns
  exact ⟨rfl, by go_grown⟩
set_option maxRecDepth 100000 in
set_option maxHeartbeats 400000 in
theorem spec_getNum_neg (s : ByteArray) (p : Int) (w : World) (hs : s.size ≤ 20000) (h : p < 0) :
    Calls Tryd.prog 23 #[.string s, .int .i64 p] w fun e w' => e = .returned (numOut 0 0 1) ∧ Below w.heap.size w w' := by
  go_enter Tryd.func23, Tryd.ntmps23
  go_wp2_with fail
  go_returns
  exact ⟨rfl, by go_grown⟩

/-- What GetNum tells, of what was read. -/
def numAns (q : Nat) (r : Nat × Nat × Nat) : Value := if r.1 = 0 then numOut (unfold r.2.1) ((q : Int) + r.2.2) 0 else numOut 0 0 r.1

theorem num_odd (q u M k : Nat) (h : (u + M) % 2 = 1) : Ending.returned (.agg #[.int .i64 (-(((u : Int) + M) / 2) - 1), .int .i64 ((q : Int) + k + 1), .int .i64 0]) = .returned (numAns q (0, u + M, k + 1)) := by
  unfold numAns numOut unfold
  rw [if_pos rfl, if_pos h]
  have e1 : -(((u : Int) + M) / 2) - 1 = -(((u + M) / 2 : Nat) : Int) - 1 := by omega
  have e2 : (q : Int) + k + 1 = (q : Int) + ((k + 1 : Nat) : Int) := by omega
  rw [e1, e2]
theorem num_even (q u M k : Nat) (h : (u + M) % 2 = 0) : Ending.returned (.agg #[.int .i64 (((u : Int) + M) / 2), .int .i64 ((q : Int) + k + 1), .int .i64 0]) = .returned (numAns q (0, u + M, k + 1)) := by
  unfold numAns numOut unfold
  have h' : ¬ ((0, u + M, k + 1) : Nat × Nat × Nat).2.1 % 2 = 1 := by show ¬ (u + M) % 2 = 1; omega
  rw [if_pos rfl, if_neg h']
  have e1 : (((u : Int) + M) / 2) = (((u + M) / 2 : Nat) : Int) := by omega
  have e2 : (q : Int) + k + 1 = (q : Int) + ((k + 1 : Nat) : Int) := by omega
  rw [e1, e2]

set_option maxRecDepth 100000 in
set_option maxHeartbeats 1600000 in
theorem spec_getNum (s : ByteArray) (q : Nat) (w : World) (hs : s.size ≤ 20000) (hq : (q : Int) ≤ 9223372036854775807) :
    Calls Tryd.prog 23 #[.string s, .int .i64 q] w fun e w' => e = .returned (numAns q (decAt s q)) ∧ Below w.heap.size w w' := by
  go_enter Tryd.func23, Tryd.ntmps23
  go_wp2_with fail
  go_loop [5, 6] (fun v i => ∃ (k u : Nat), k ≤ 9 ∧ i = .int .i64 k ∧ v = .int .u64 u ∧ Hid (u < 2 ^ (7 * k)) ∧ Hid (dec k u (s.data.toList.drop (q + k)) = decAt s q)) (fun _ i => 10 - (intOf i).toNat)
  case atStart => exact ⟨0, 0, by omega, rfl, rfl, by simp [Hid], rfl⟩
  case round =>
    obtain ⟨k, u, hk, rfl, rfl, hu, hd⟩ := hrel
    by_cases hlt : q + k < s.size
    · have hlt' : (q : Int) < (s.size : Int) - k := by omega
      have hlt2 : (q : Int) + k < (s.size : Int) := by omega
      have hb : (s[q + k].toNat : Int) ≤ 255 := by have := s[q + k].toNat_lt; omega
      by_cases h91 : k = 9 ∧ 1 < s[q + k].toNat
      · have h9' : ((k : Int) == 9) = true := by simp; omega
        have hc' : 1 < (s[q + k].toNat : Int) := by omega
        have HB := hide (dec_bad s q k u _ hlt (.inl h91) hd.out)
        clear h91 hd hu
        go_wp2_with fail
        go_returns
        exact ⟨by rw [HB.out]; rfl, by go_grown⟩
      · obtain ⟨hsh, hfit⟩ := shl_step u s[q + k].toNat k hk hu.out (by omega)
        have hnx := hide (next_lt u s[q + k].toNat k hu.out)
        have hmo := fun h1 h2 => dec_more s q k u _ hlt h1 h2 hd.out
        have hgo := fun h1 h2 h3 => dec_good s q k u _ hlt h1 h2 h3 hd.out
        have hba := fun h1 => dec_bad s q k u _ hlt h1 hd.out
        generalize hM : s[q + k].toNat % 128 * 2 ^ (7 * k) = M at *
        clear hM hd hu
        have hfit' : (u : Int) + M ≤ 18446744073709551615 := by omega
        clear hfit
        rcases (show (k = 9 ∧ s[q + k].toNat = 0) ∨ (k = 9 ∧ s[q + k].toNat = 1) ∨ (k < 9 ∧ 128 ≤ s[q + k].toNat) ∨ (k < 9 ∧ 0 < k ∧ s[q + k].toNat = 0) ∨ (k = 0 ∧ s[q + k].toNat = 0) ∨ (k < 9 ∧ 0 < s[q + k].toNat ∧ s[q + k].toNat < 128) from by omega) with h | h | h | h | h | h
        · have h9' : ((k : Int) == 9) = true := by simp; omega
          have hc1 : (s[q + k].toNat : Int) ≤ 1 := by omega
          have hc0 : ((s[q + k].toNat : Int) == 0) = true := by simp; omega
          have hk0 : 0 < (k : Int) := by omega
          have hc8 : (s[q + k].toNat : Int) < 128 := by omega
          have HB := hide (hba (by omega))
          clear hmo hgo hba h hnx
          go_wp2_with fail
          go_returns
          exact ⟨by rw [HB.out]; rfl, by go_grown⟩
        · have h9' : ((k : Int) == 9) = true := by simp; omega
          have hc1 : (s[q + k].toNat : Int) ≤ 1 := by omega
          have hc0 : ((s[q + k].toNat : Int) == 0) = false := by simp; omega
          have hc8 : (s[q + k].toNat : Int) < 128 := by omega
          have HG := hide (hgo (by omega) (by omega) (by omega))
          clear hmo hgo hba h hnx
          rcases (show (u + M) % 2 = 1 ∨ (u + M) % 2 = 0 from by omega) with hp | hp
          · have hp' : (((u : Int) + M) % 2 == 1) = true := by simp; omega
            have HP := hide hp
            clear hp
            go_wp2_with fail
            go_returns
            exact ⟨by rw [HG.out]; exact num_odd q u M k HP.out, by go_grown⟩
          · have hp' : (((u : Int) + M) % 2 == 1) = false := by simp; omega
            have HP := hide hp
            clear hp
            go_wp2_with fail
            go_returns
            exact ⟨by rw [HG.out]; exact num_even q u M k HP.out, by go_grown⟩
        · have h9' : ((k : Int) == 9) = false := by simp; omega
          have hc8 : 128 ≤ (s[q + k].toNat : Int) := by omega
          have HM := hide (hmo h.1 h.2)
          have hk9 : k < 9 := h.1
          clear hmo hgo hba h
          go_wp2_with fail
          go_round
          case rel => exact ⟨k + 1, u + M, by omega, by go_num, by go_num, hnx, HM⟩
          case measure => simp [intOf]; omega
        · have h9' : ((k : Int) == 9) = false := by simp; omega
          have hc0 : ((s[q + k].toNat : Int) == 0) = true := by simp; omega
          have hk0 : 0 < (k : Int) := by omega
          have hc8 : (s[q + k].toNat : Int) < 128 := by omega
          have HB := hide (hba (by omega))
          clear hmo hgo hba h hnx
          go_wp2_with fail
          go_returns
          exact ⟨by rw [HB.out]; rfl, by go_grown⟩
        · have h9' : ((k : Int) == 9) = false := by simp; omega
          have hc0 : ((s[q + k].toNat : Int) == 0) = true := by simp; omega
          have hk0 : (k : Int) ≤ 0 := by omega
          have hc8 : (s[q + k].toNat : Int) < 128 := by omega
          have HG := hide (hgo (by omega) (by omega) (by omega))
          clear hmo hgo hba h hnx
          rcases (show (u + M) % 2 = 1 ∨ (u + M) % 2 = 0 from by omega) with hp | hp
          · have hp' : (((u : Int) + M) % 2 == 1) = true := by simp; omega
            have HP := hide hp
            clear hp
            go_wp2_with fail
            go_returns
            exact ⟨by rw [HG.out]; exact num_odd q u M k HP.out, by go_grown⟩
          · have hp' : (((u : Int) + M) % 2 == 1) = false := by simp; omega
            have HP := hide hp
            clear hp
            go_wp2_with fail
            go_returns
            exact ⟨by rw [HG.out]; exact num_even q u M k HP.out, by go_grown⟩
        · have h9' : ((k : Int) == 9) = false := by simp; omega
          have hc0 : ((s[q + k].toNat : Int) == 0) = false := by simp; omega
          have hc8 : (s[q + k].toNat : Int) < 128 := by omega
          have HG := hide (hgo (by omega) (by omega) (by omega))
          clear hmo hgo hba h hnx
          rcases (show (u + M) % 2 = 1 ∨ (u + M) % 2 = 0 from by omega) with hp | hp
          · have hp' : (((u : Int) + M) % 2 == 1) = true := by simp; omega
            have HP := hide hp
            clear hp
            go_wp2_with fail
            go_returns
            exact ⟨by rw [HG.out]; exact num_odd q u M k HP.out, by go_grown⟩
          · have hp' : (((u : Int) + M) % 2 == 1) = false := by simp; omega
            have HP := hide hp
            clear hp
            go_wp2_with fail
            go_returns
            exact ⟨by rw [HG.out]; exact num_even q u M k HP.out, by go_grown⟩
    · have hlt' : (s.size : Int) - k ≤ (q : Int) := by omega
      have HB := hide (dec_short s q k u _ (by omega) hd.out)
      clear hd hu
      go_wp2_with fail
      go_returns
      exact ⟨by rw [HB.out]; rfl, by go_grown⟩
theorem numAns_good (q U m : Nat) : numAns q (0, U, m) = numOut (unfold U) ((q : Int) + m) 0 := by unfold numAns; rw [if_pos rfl]
theorem numAns_bad (q c : Nat) (h : c ≠ 0) : numAns q (c, 0, 0) = numOut 0 0 c := by unfold numAns; rw [if_neg h]
end Go.Proofs.YtdoodkabmeojmaaDoor

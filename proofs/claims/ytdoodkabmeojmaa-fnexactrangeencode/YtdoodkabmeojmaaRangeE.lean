/- The walks over the model's l05Context and RangeEncode. -/
import Derived.Test.YtdoodkabmeojmaaRangeEnc
namespace Go.Proofs.Ytdoodkabmeojmaa
open Go.RowKit
set_option maxRecDepth 100000 in
set_option maxHeartbeats 400000 in
theorem spec_context (n : Int) (b : Bool) (w : World) (hb : b = decide (0 ≤ n ∧ n < 1600)) :
    Calls Try.prog 37 #[.int .i64 n] w fun e w' => e = .returned (.bool b) ∧ w = w' := by
  by_cases h0 : 0 ≤ n
  · by_cases h1 : n < 1600
    · obtain rfl : b = true := by rw [hb]; exact decide_eq_true ⟨h0, h1⟩
      clear hb
      go_enter Try.func37, Try.ntmps37
      go_wp2_with fail
      go_ret
      exact ⟨rfl, rfl⟩
    · obtain rfl : b = false := by rw [hb]; exact decide_eq_false (fun h => h1 h.2)
      clear hb
      have hd : decide (n < 1600) = false := decide_eq_false h1
      go_enter Try.func37, Try.ntmps37
      go_wp2_with fail
      go_ret
      exact ⟨rfl, rfl⟩
  · obtain rfl : b = false := by rw [hb]; exact decide_eq_false (fun h => h0 h.1)
    clear hb
    have hd : decide (0 ≤ n) = false := decide_eq_false h0
    go_enter Try.func37, Try.ntmps37
    go_wp2_with fail
    go_ret
    exact ⟨rfl, rfl⟩
set_option maxRecDepth 100000 in
set_option maxHeartbeats 800000 in
theorem spec_rangeEncode (v : Value) (l : List (Int × Bool)) (w : World) (hlen : l.length ≤ 9223372036854775807) (hb : BitsI w w.heap.size v l) :
    Calls Try.prog 10 #[v] w fun e w' => e = .returned (.string (encS l)) ∧ Below w.heap.size w w' := by
  have hb0 := hide hb
  obtain ⟨a, cap, rfl, hcap, hbits⟩ := hb
  have HB := hide hbits
  clear hbits
  by_cases h400 : l.length ≤ 400
  · have h4' : ¬ (400 : Int) < (l.length : Int) := by omega
    go_enter Try.func10, Try.ntmps10
    go_wp2_with fail
    go_loop [3] (fun i => ∃ k : Nat, k ≤ l.length ∧ i = .int .i64 k ∧ Hid (∀ j x, j < k → l[j]? = some x → ctxOk x.1 = true)) (fun i => l.length - (intOf i).toNat)
    case atStart => exact ⟨0, by omega, rfl, fun j x hj _ => by omega⟩
    case round =>
      obtain ⟨k, hk, rfl, hok⟩ := hrel
      by_cases hlt : k < l.length
      · have hlt' : (k : Int) < (l.length : Int) := by omega
        obtain ⟨x, hx⟩ : ∃ x, l[k]? = some x := ⟨_, List.getElem?_eq_getElem hlt⟩
        obtain h0 | ⟨r, o, rfl, hr, hcells⟩ := HB.out
        · rw [h0] at hlt; simp at hlt
        obtain ⟨x1, _⟩ := hcells k x hx
        obtain ⟨q, hq⟩ : ∃ q, q = o + 2 * k := ⟨_, rfl⟩
        rw [← hq] at x1
        have n1 : o + 2 * k = q := hq.symm
        have n2 : o + k * 2 = q := by omega
        have HX := hide hx
        clear hq hcells HB hx
        cases hcx : ctxOk x.1 with
        | true =>
          have hd := hide (show true = decide (0 ≤ x.1 ∧ x.1 < 1600) from hcx.symm)
          have hok' := hide (show ∀ j y, j < k + 1 → l[j]? = some y → ctxOk y.1 = true from fun j y hj hy => by
            by_cases e : j = k
            · subst e; rw [HX.out] at hy; rw [← Option.some.inj hy]; exact hcx
            · exact hok.out j y (by omega) hy)
          obtain ⟨c, hc⟩ : ∃ c, c = x.1 := ⟨_, rfl⟩
          rw [← hc] at x1 hd
          clear hcx hok HX hc
          go_wp2_with (first | (go_at_call 37; refine (spec_context c true _ hd.out).mono ?_; rintro e w1 ⟨rfl, rfl⟩))
          go_round
          case rel => exact ⟨k + 1, by omega, by go_num, hok'⟩
          case measure => simp [intOf]; omega
        | false =>
          have hd := hide (show false = decide (0 ≤ x.1 ∧ x.1 < 1600) from hcx.symm)
          have hE := hide (show encS l = ⟨#[]⟩ from if_neg (fun h => by
            have := h.2 x (List.mem_of_getElem? HX.out)
            rw [hcx] at this; cases this))
          obtain ⟨c, hc⟩ : ∃ c, c = x.1 := ⟨_, rfl⟩
          rw [← hc] at x1 hd
          clear hcx hok HX hc
          go_wp2_with (first | (go_at_call 37; refine (spec_context c false _ hd.out).mono ?_; rintro e w1 ⟨rfl, rfl⟩))
          go_ret
          exact ⟨by rw [hE.out]; rfl, Below.refl _ _⟩
      · have hlt' : ¬ (k : Int) < (l.length : Int) := by omega
        have hall : ∀ x ∈ l, ctxOk x.1 = true := fun x hx => by
          obtain ⟨j, hj⟩ := List.getElem?_of_mem hx
          exact hok.out j x (by have := (List.getElem?_eq_some_iff.1 hj).1; omega) hj
        have hE := hide (show encS l = ⟨(codeOf (bitsN l)).toArray⟩ from if_pos ⟨h400, hall⟩)
        have SE := hide (spec_encode _ (bitsN l) w (by rw [show (bitsN l).length = l.length by simp [bitsN]]; omega) (fun x hx => by
          obtain ⟨y, hy, rfl⟩ := List.mem_map.1 hx
          have := of_decide_eq_true (hall y hy)
          show y.1.toNat < 1600
          omega) (hb0.out.nat hall))
        clear hall hok HB hb0
        go_wp2_with fail
        refine SE.out.mono ?_
        rintro e w1 ⟨rfl, hb1⟩
        rw [← hE.out]
        go_wp2_with fail
        go_ret
        exact ⟨rfl, hb1⟩
  · have h4' : (400 : Int) < (l.length : Int) := by omega
    have hE : encS l = ⟨#[]⟩ := if_neg (fun h => h400 h.1)
    rw [hE]
    clear hE HB hb0
    go_enter Try.func10, Try.ntmps10
    go_wp2_with fail
    go_ret
    exact ⟨rfl, Below.refl _ _⟩
end Go.Proofs.Ytdoodkabmeojmaa

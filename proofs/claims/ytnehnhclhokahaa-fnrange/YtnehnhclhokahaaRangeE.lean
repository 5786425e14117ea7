/- The walk over the model's RangeEncode. -/
import Derived.Test.YtnehnhclhokahaaRangeEnc
namespace Go.Proofs.Ytnehnhclhokahaa
open Go.RowKit
/-- Bits in memory, whatever their contexts. -/
def BitsI (w : World) (B : Nat) (v : Value) (l : List (Int × Bool)) : Prop :=
  ∃ a cap, v = .slice a l.length cap ∧ l.length ≤ cap ∧ (l = [] ∨ ∃ r o, a = some ⟨r, o, none⟩ ∧ r < B ∧ ∀ j x, l[j]? = some x → w.cell? ⟨r, o + 2 * j, none⟩ = some (.int .i64 x.1) ∧ w.cell? ⟨r, o + 2 * j + 1, none⟩ = some (.bool x.2))
def ctxOk (n : Int) : Bool := decide (0 ≤ n ∧ n < 1600)
def bitsN (l : List (Int × Bool)) : List (Nat × Bool) := l.map fun x => (x.1.toNat, x.2)
/-- RangeEncode. -/
def encS (l : List (Int × Bool)) : ByteArray := if l.length ≤ 400 ∧ ∀ x ∈ l, ctxOk x.1 = true then ⟨(codeOf (bitsN l)).toArray⟩ else ⟨#[]⟩
theorem BitsI.nat {w : World} {B : Nat} {v : Value} {l : List (Int × Bool)} (h : BitsI w B v l) (hc : ∀ x ∈ l, ctxOk x.1 = true) : BitsAt w B v (bitsN l) := by
  obtain ⟨a, cap, rfl, hcap, hb⟩ := h
  have hlen : (bitsN l).length = l.length := by simp [bitsN]
  refine ⟨a, cap, by rw [hlen], by rw [hlen]; exact hcap, ?_⟩
  rcases hb with rfl | ⟨r, o, rfl, hr, hcell⟩
  · exact .inl rfl
  · refine .inr ⟨r, o, rfl, hr, fun j x hx => ?_⟩
    unfold bitsN at hx
    rw [List.getElem?_map] at hx
    obtain ⟨y, hy, rfl⟩ := Option.map_eq_some_iff.1 hx
    have h := hcell j y hy
    have h2 := of_decide_eq_true (hc y (List.mem_of_getElem? hy))
    refine ⟨?_, h.2⟩
    show _ = some (Value.int .i64 ((y.1.toNat : Nat) : Int))
    rw [h.1, Int.toNat_of_nonneg h2.1]
theorem BitsI.below {w w' : World} {B : Nat} {v : Value} {l : List (Int × Bool)} (h : BitsI w B v l) (hb : Below B w w') : BitsI w' B v l := by
  obtain ⟨a, cap, e, hc, h⟩ := h
  refine ⟨a, cap, e, hc, ?_⟩
  rcases h with h | ⟨r, o, e2, hr, hcell⟩
  · exact .inl h
  · exact .inr ⟨r, o, e2, hr, fun j x hx => ⟨(hb.cell (p := ⟨r, o + 2 * j, none⟩) hr).trans (hcell j x hx).1, (hb.cell (p := ⟨r, o + 2 * j + 1, none⟩) hr).trans (hcell j x hx).2⟩⟩
theorem BitsI.wide {w : World} {B C : Nat} {v : Value} {l : List (Int × Bool)} (h : BitsI w B v l) (hb : B ≤ C) : BitsI w C v l := by
  obtain ⟨a, cap, e, hc, h⟩ := h
  refine ⟨a, cap, e, hc, ?_⟩
  rcases h with h | ⟨r, o, e2, hr, hcell⟩
  · exact .inl h
  · exact .inr ⟨r, o, e2, Nat.lt_of_lt_of_le hr hb, hcell⟩
set_option maxRecDepth 100000 in
set_option maxHeartbeats 800000 in
theorem spec_rangeEncode (v : Value) (l : List (Int × Bool)) (w : World) (hlen : l.length ≤ 9223372036854775807) (hb : BitsI w w.heap.size v l) :
    Calls Try.prog 8 #[v] w fun e w' => e = .returned (.string (encS l)) ∧ Below w.heap.size w w' := by
  have hb0 := hide hb
  obtain ⟨a, cap, rfl, hcap, hbits⟩ := hb
  have HB := hide hbits
  clear hbits
  by_cases h400 : l.length ≤ 400
  · have h4' : ¬ (400 : Int) < (l.length : Int) := by omega
    go_enter Try.func8, Try.ntmps8
    go_wp2_with fail
    go_loop [3] (fun i => ∃ k : Nat, k ≤ l.length ∧ i = .int .i64 k ∧ Hid (∀ j x, j < k → l[j]? = some x → ctxOk x.1 = true)) (fun i => l.length - (intOf i).toNat)
    case atStart => exact ⟨0, by omega, rfl, fun j x hj _ => by omega⟩
    case round =>
      obtain ⟨k, hk, rfl, hok⟩ := hrel
      by_cases hlt : k < l.length
      · have hlt' : (k : Int) < (l.length : Int) := by omega
        obtain ⟨x, hx⟩ : ∃ x, l[k]? = some x := ⟨_, List.getElem?_eq_getElem hlt⟩
        obtain h0 | ⟨r, o, rfl, hr, hcells⟩ := HB.out
        · rw [h0] at hlt; simp at hlt
        obtain ⟨x1, _⟩ := hcells k x hx
        obtain ⟨q, hq⟩ : ∃ q, q = o + 2 * k := ⟨_, rfl⟩
        rw [← hq] at x1
        have n1 : o + 2 * k = q := hq.symm
        have n2 : o + k * 2 = q := by omega
        have HX := hide hx
        clear hq hcells HB hx
        cases hcx : ctxOk x.1 with
        | true =>
          have hd := hide (show true = decide (0 ≤ x.1 ∧ x.1 < 1600) from hcx.symm)
          have hok' := hide (show ∀ j y, j < k + 1 → l[j]? = some y → ctxOk y.1 = true from fun j y hj hy => by
            by_cases e : j = k
            · subst e; rw [HX.out] at hy; rw [← Option.some.inj hy]; exact hcx
            · exact hok.out j y (by omega) hy)
          obtain ⟨c, hc⟩ : ∃ c, c = x.1 := ⟨_, rfl⟩
          rw [← hc] at x1 hd
          clear hcx hok HX hc
          go_wp2_with (first | (go_at_call 29; refine (spec_context c true _ hd.out).mono ?_; rintro e w1 ⟨rfl, rfl⟩))
          go_round
          case rel => exact ⟨k + 1, by omega, by go_num, hok'⟩
          case measure => simp [intOf]; omega
        | false =>
          have hd := hide (show false = decide (0 ≤ x.1 ∧ x.1 < 1600) from hcx.symm)
          have hE := hide (show encS l = ⟨#[]⟩ from if_neg (fun h => by
            have := h.2 x (List.mem_of_getElem? HX.out)
            rw [hcx] at this; cases this))
          obtain ⟨c, hc⟩ : ∃ c, c = x.1 := ⟨_, rfl⟩
          rw [← hc] at x1 hd
          clear hcx hok HX hc
          go_wp2_with (first | (go_at_call 29; refine (spec_context c false _ hd.out).mono ?_; rintro e w1 ⟨rfl, rfl⟩))
          go_ret
          exact ⟨by rw [hE.out]; rfl, Below.refl _ _⟩
      · have hlt' : ¬ (k : Int) < (l.length : Int) := by omega
        have hall : ∀ x ∈ l, ctxOk x.1 = true := fun x hx => by
          obtain ⟨j, hj⟩ := List.getElem?_of_mem hx
          exact hok.out j x (by have := (List.getElem?_eq_some_iff.1 hj).1; omega) hj
        have hE := hide (show encS l = ⟨(codeOf (bitsN l)).toArray⟩ from if_pos ⟨h400, hall⟩)
        have SE := hide (spec_encode _ (bitsN l) w (by simpa [bitsN] using h400) (fun x hx => by
          obtain ⟨y, hy, rfl⟩ := List.mem_map.1 hx
          have := of_decide_eq_true (hall y hy)
          show y.1.toNat < 1600
          omega) (hb0.out.nat hall))
        clear hall hok HB hb0
        go_wp2_with fail
        refine SE.out.mono ?_
        rintro e w1 ⟨rfl, hb1⟩
        rw [← hE.out]
        go_wp2_with fail
        go_ret
        exact ⟨rfl, hb1⟩
  · have h4' : (400 : Int) < (l.length : Int) := by omega
    have hE : encS l = ⟨#[]⟩ := if_neg (fun h => h400 h.1)
    rw [hE]
    clear hE HB hb0
    go_enter Try.func8, Try.ntmps8
    go_wp2_with fail
    go_ret
    exact ⟨rfl, Below.refl _ _⟩
end Go.Proofs.Ytnehnhclhokahaa

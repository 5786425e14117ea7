/- The walks over slices.IndexFunc and slices.ContainsFunc, at the program's two questions. -/
import Derived.Test.YtdoodkabmeojmaaRngE
import Derived.Test.YtdoodkabmeojmaaRangeDec
namespace Go.Proofs.Ytdoodkabmeojmaa
open Go.RowKit
/-- Are all contexts of bits right? -/
def bitsOk (l : List (Int × Bool)) : Prop := ∀ x ∈ l, ctxOk x.1 = true
def ctxsOk (l : List Int) : Prop := ∀ x ∈ l, ctxOk x = true
set_option maxRecDepth 100000 in
set_option maxHeartbeats 800000 in
theorem imp_indexBit (v : Value) (l : List (Int × Bool)) (w : World) (hlen : l.length ≤ 9223372036854775807) (hb : BitsI w w.heap.size v l) :
    Calls Try.prog 64 #[v, .func (.func 33) #[] #[]] w fun e w' => ∃ r : Int, e = .returned (.int .i64 r) ∧ (0 ≤ r ↔ ¬ bitsOk l) ∧ Below w.heap.size w w' := by
  obtain ⟨a, cap, rfl, hcap, hbits⟩ := hb
  have HB := hide hbits
  clear hbits
  have hcap' : (l.length : Int) ≤ (cap : Int) := by omega
  go_enter Try.func64, Try.ntmps64
  go_wp2_with fail
  go_loopw [8] (fun i wx => ∃ k : Nat, k ≤ l.length ∧ i = .int .i64 k ∧ Hid (∀ j x, j < k → l[j]? = some x → ctxOk x.1 = true) ∧ Hid (Below w.heap.size w wx)) (fun i _ => l.length - (intOf i).toNat)
  case atStart => exact ⟨0, by omega, rfl, fun j x hj _ => by omega, Below.refl _ _⟩
  case round =>
    obtain ⟨k, hk, rfl, hok, hbel⟩ := hrel
    by_cases hlt : k < l.length
    · have hlt' : (k : Int) < (l.length : Int) := by omega
      obtain ⟨x, hx⟩ : ∃ x, l[k]? = some x := ⟨_, List.getElem?_eq_getElem hlt⟩
      obtain h0 | ⟨r, o, rfl, hr, hcells⟩ := HB.out
      · rw [h0] at hlt; simp at hlt
      obtain ⟨x1, x2⟩ := hcells k x hx
      obtain ⟨q, hq⟩ : ∃ q, q = o + 2 * k := ⟨_, rfl⟩
      rw [← hq] at x1 x2
      have y1 := (hbel.out.cell (p := ⟨r, q, none⟩) hr).trans x1
      have y2 := (hbel.out.cell (p := ⟨r, q + 1, none⟩) hr).trans x2
      have n1 : o + 2 * k = q := hq.symm
      have n2 : o + k * 2 = q := by omega
      have HX := hide hx
      obtain ⟨c, b⟩ := x
      simp only at y1 y2
      have hbs := hbel.out.size
      cases hcx : ctxOk c with
      | true =>
        have hok' := hide (show ∀ j y, j < k + 1 → l[j]? = some y → ctxOk y.1 = true from fun j y hj hy => by
          by_cases e : j = k
          · subst e; rw [HX.out] at hy; rw [← Option.some.inj hy]; exact hcx
          · exact hok.out j y (by omega) hy)
        have SB := hide (imp_bitWrong c b true wr hcx.symm)
        clear hcx hok HX hcells hx x1 x2 hq
        go_wp2_with fail
        refine SB.out.mono ?_
        rintro e w1 ⟨rfl, hb1⟩
        have hb2 := hide (hbel.out.trans (hb1.mono hbs))
        clear hb1 SB y1 y2 n1 n2 hbel
        go_wp2_with fail
        go_roundw
        case rel => exact ⟨k + 1, by omega, by go_num, hok', hb2⟩
        case measure => simp [intOf]; omega
      | false =>
        have hE := hide (show ¬ bitsOk l from fun h => by
          have := h (c, b) (List.mem_of_getElem? HX.out)
          rw [hcx] at this; cases this)
        have SB := hide (imp_bitWrong c b false wr hcx.symm)
        clear hcx hok HX hcells hx x1 x2 hq
        go_wp2_with fail
        refine SB.out.mono ?_
        rintro e w1 ⟨rfl, hb1⟩
        have hb2 := hide (hbel.out.trans (hb1.mono hbs))
        clear hb1 SB y1 y2 n1 n2 hbel
        go_wp2_with fail
        go_ret
        exact ⟨k, rfl, ⟨fun _ => hE.out, fun _ => by omega⟩, hb2.out⟩
    · have hlt' : ¬ (k : Int) < (l.length : Int) := by omega
      have hall := hide (show bitsOk l from fun x hx => by
        obtain ⟨j, hj⟩ := List.getElem?_of_mem hx
        exact hok.out j x (by have := (List.getElem?_eq_some_iff.1 hj).1; omega) hj)
      clear hok
      go_wp2_with fail
      go_ret
      exact ⟨-1, rfl, ⟨fun h => absurd h (by decide), fun h => absurd hall.out h⟩, hbel.out⟩
set_option maxRecDepth 100000 in
set_option maxHeartbeats 800000 in
theorem imp_containsBit (v : Value) (l : List (Int × Bool)) (b : Bool) (w : World) (hlen : l.length ≤ 9223372036854775807) (hb : BitsI w w.heap.size v l) (hall : b = true ↔ bitsOk l) :
    Calls Try.prog 32 #[v, .func (.func 33) #[] #[]] w fun e w' => e = .returned (.bool (!b)) ∧ Below w.heap.size w w' := by
  have HA := hide hall
  clear hall
  go_enter Try.func32, Try.ntmps32
  go_wp2_with fail
  refine (imp_indexBit v l w hlen hb).mono ?_
  rintro e w1 ⟨r, rfl, hr, hb1⟩
  have hd : decide (0 ≤ r) = !b := by
    cases b with
    | true => exact decide_eq_false (fun h => hr.1 h (HA.out.1 rfl))
    | false => exact decide_eq_true (hr.2 (fun h => by have := HA.out.2 h; cases this))
  clear hr
  go_wp2_with fail
  go_ret
  exact ⟨rfl, hb1⟩
set_option maxRecDepth 100000 in
set_option maxHeartbeats 800000 in
theorem imp_indexCtx (v : Value) (l : List Int) (w : World) (hlen : l.length ≤ 9223372036854775807) (hb : CtxAt w w.heap.size v l) :
    Calls Try.prog 73 #[v, .func (.func 40) #[] #[]] w fun e w' => ∃ r : Int, e = .returned (.int .i64 r) ∧ (0 ≤ r ↔ ¬ ctxsOk l) ∧ w = w' := by
  obtain ⟨a, cap, rfl, hcap, hbits⟩ := hb
  have HB := hide hbits
  clear hbits
  have hcap' : (l.length : Int) ≤ (cap : Int) := by omega
  go_enter Try.func73, Try.ntmps73
  go_wp2_with fail
  go_loop [8] (fun i => ∃ k : Nat, k ≤ l.length ∧ i = .int .i64 k ∧ Hid (∀ j x, j < k → l[j]? = some x → ctxOk x = true)) (fun i => l.length - (intOf i).toNat)
  case atStart => exact ⟨0, by omega, rfl, fun j x hj _ => by omega⟩
  case round =>
    obtain ⟨k, hk, rfl, hok⟩ := hrel
    by_cases hlt : k < l.length
    · have hlt' : (k : Int) < (l.length : Int) := by omega
      obtain ⟨x, hx⟩ : ∃ x, l[k]? = some x := ⟨_, List.getElem?_eq_getElem hlt⟩
      obtain h0 | ⟨r, o, rfl, hr, hcells⟩ := HB.out
      · rw [h0] at hlt; simp at hlt
      have x1 := hcells k x hx
      have HX := hide hx
      cases hcx : ctxOk x with
      | true =>
        have hok' := hide (show ∀ j y, j < k + 1 → l[j]? = some y → ctxOk y = true from fun j y hj hy => by
          by_cases e : j = k
          · subst e; rw [HX.out] at hy; rw [← Option.some.inj hy]; exact hcx
          · exact hok.out j y (by omega) hy)
        have SB := hide (imp_context x true w hcx.symm)
        clear hcx hok HX hcells hx
        go_wp2_with fail
        refine SB.out.mono ?_
        rintro e w1 ⟨rfl, rfl⟩
        clear SB
        go_wp2_with fail
        go_round
        case rel => exact ⟨k + 1, by omega, by go_num, hok'⟩
        case measure => simp [intOf]; omega
      | false =>
        have hE := hide (show ¬ ctxsOk l from fun h => by
          have := h x (List.mem_of_getElem? HX.out)
          rw [hcx] at this; cases this)
        have SB := hide (imp_context x false w hcx.symm)
        clear hcx hok HX hcells hx
        go_wp2_with fail
        refine SB.out.mono ?_
        rintro e w1 ⟨rfl, rfl⟩
        clear SB
        go_wp2_with fail
        go_ret
        exact ⟨k, rfl, ⟨fun _ => hE.out, fun _ => by omega⟩, rfl⟩
    · have hlt' : ¬ (k : Int) < (l.length : Int) := by omega
      have hall := hide (show ctxsOk l from fun x hx => by
        obtain ⟨j, hj⟩ := List.getElem?_of_mem hx
        exact hok.out j x (by have := (List.getElem?_eq_some_iff.1 hj).1; omega) hj)
      clear hok
      go_wp2_with fail
      go_ret
      exact ⟨-1, rfl, ⟨fun h => absurd h (by decide), fun h => absurd hall.out h⟩, rfl⟩
set_option maxRecDepth 100000 in
set_option maxHeartbeats 800000 in
theorem imp_containsCtx (v : Value) (l : List Int) (b : Bool) (w : World) (hlen : l.length ≤ 9223372036854775807) (hb : CtxAt w w.heap.size v l) (hall : b = true ↔ ctxsOk l) :
    Calls Try.prog 39 #[v, .func (.func 40) #[] #[]] w fun e w' => e = .returned (.bool (!b)) ∧ w = w' := by
  have HA := hide hall
  clear hall
  go_enter Try.func39, Try.ntmps39
  go_wp2_with fail
  refine (imp_indexCtx v l w hlen hb).mono ?_
  rintro e w1 ⟨r, rfl, hr, rfl⟩
  have hd : decide (0 ≤ r) = !b := by
    cases b with
    | true => exact decide_eq_false (fun h => hr.1 h (HA.out.1 rfl))
    | false => exact decide_eq_true (hr.2 (fun h => by have := HA.out.2 h; cases this))
  clear hr
  go_wp2_with fail
  go_ret
  exact ⟨rfl, rfl⟩
end Go.Proofs.Ytdoodkabmeojmaa

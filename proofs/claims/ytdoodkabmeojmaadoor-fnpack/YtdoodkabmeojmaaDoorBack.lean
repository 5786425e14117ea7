/- The library's slices.Backward over a row of whole numbers: what it hands to its loop, last first. -/
import Derived.RangeFuncNested
import Derived.RangeFuncBound
import Derived.RangeFuncCalls
import Derived.RangeFuncBox
import Derived.RangeFuncLeaves
import Derived.Shelf.Abstract
import Derived.Shelf.RegionOpen
import Derived.WalkKit
import Derived.OwnWalkIn
import Derived.TacticsInMore
import Derived.LoopNIn
import Derived.LoopIn
import Derived.Test.YtdoodkabmeojmaaDoorPastG
namespace Go.Proofs.YtdoodkabmeojmaaDoor
open Go Go.RowKit Go.Shelf
attribute [local go_sem] Oper.semAt_some
theorem take_more {α : Type} (L : List α) (k : Nat) (h : k < L.length) : L.take (k + 1) = L.take k ++ [L[k]] := by
  rw [List.take_add_one, List.getElem?_eq_getElem h]; rfl
/-- The blocks below n₀ are kept, but for xx. -/
structure KpX (n₀ xx : Nat) (W W' : World) : Prop where
  size : W.heap.size ≤ W'.heap.size
  block : ∀ g, g < n₀ → g ≠ xx → W'.heap[g]? = W.heap[g]?
theorem KpX.refl (n₀ xx : Nat) (W : World) : KpX n₀ xx W W := ⟨Nat.le_refl _, fun _ _ _ => rfl⟩
theorem KpX.trans {n₀ xx : Nat} {A B C : World} (h : KpX n₀ xx A B) (k : KpX n₀ xx B C) : KpX n₀ xx A C := ⟨Nat.le_trans h.size k.size, fun g h1 h2 => (k.block g h1 h2).trans (h.block g h1 h2)⟩
theorem KpX.of_below {n₀ xx : Nat} {A B : World} (h : Below n₀ A B) : KpX n₀ xx A B := ⟨h.size, fun g h1 _ => h.block g h1⟩
theorem KpX.cell {n₀ xx : Nat} {A B : World} (h : KpX n₀ xx A B) {p : Addr} (h1 : p.block < n₀) (h2 : p.block ≠ xx) : B.cell? p = A.cell? p := World.cell?_of_block (h.block _ h1 h2)
set_option maxRecDepth 100000 in
set_option maxHeartbeats 2000000 in
theorem back1_in {α : Type} (ix pl : α → Nat) (F : Fence) (n : Nat) (hf : F.fn 73) (hro : F.round = none) (hn : 1 ≤ n) (l Bs n₀ b off len cap : Nat) (L : List α) (hlen : L.length = len) (hreach : len ≤ 4000) (hb : b < n₀) (xx : Nat) (hbx : b ≠ xx) (hBx : Bs ≠ xx) (J Jx : List α → World → Prop)
    (hY : ∀ pre x W, J pre W → pre.length < len → YieldAt F (n - 1) Tryd.prog l #[.int .i64 (ix x : Int), .int .i64 (pl x : Int)] W fun e W' =>
      (e = .returned (.bool true) ∧ J (pre ++ [x]) W' ∧ KpX n₀ xx W W') ∨ (e = .returned (.bool false) ∧ Jx (pre ++ [x]) W'))
    (W : World) (hBl : Bs < n₀) (hBs : W.cell? ⟨Bs, 0, none⟩ = some (.slice (some ⟨b, off, none⟩) len cap)) (hix : ∀ k (h : k < L.length), ix L[k] = len - 1 - k) (hc : ∀ k (h : k < L.length), W.cell? ⟨b, off + (len - 1 - k), none⟩ = some (.int .i64 (pl L[k] : Int))) (h0 : J [] W) :
    CallsIn F n Tryd.prog 73 #[.func (.yield l) #[] #[], .pointer (some ⟨Bs, 0, none⟩)] W fun e W' => (∃ v, e = .returned v) ∧
      ((∃ ys, ys = L ∧ J ys W') ∨ (∃ pre, pre <+: L ∧ Jx pre W')) := by
  have s1w : IntKind.i64.wrap ((len : Int) - 1) = (len : Int) - 1 := by simp only [IntKind.wrap_i64]; omega
  have s1 : wrap64 ((len : Int) - 1) = (len : Int) - 1 := by unfold wrap64; omega
  refine callsIn_of_wp Tryd.func73 rfl hf ?_ hro
  simp only [Tryd.ntmps73, List.size_toArray, List.length_cons, List.length_nil, Nat.reduceAdd, Nat.reduceSub, Array.replicate_succ, Array.replicate_zero, List.push_toArray, List.append_toArray, List.nil_append, List.cons_append]
  gi_wp2
  gi_loopw [3] (fun i wr => ∃ m : Nat, m ≤ len ∧ i = .int .i64 ((m : Int) - 1) ∧ J (L.take (len - m)) wr ∧ KpX n₀ xx W wr)
    (fun i _ => (intOf i + 1).toNat)
  case atStart => exact ⟨len, Nat.le_refl _, rfl, by simpa using h0, KpX.refl _ _ _⟩
  case round =>
    obtain ⟨m, hm, rfl, hJs, hnx⟩ := hrel
    cases m with
    | zero =>
      have hneg : ¬ (0 : Int) ≤ ((0 : Nat) : Int) - 1 := by decide
      gi_wp2
      go_end0
      exact ⟨⟨_, rfl⟩, .inl (by rw [Nat.sub_zero, ← hlen, List.take_length] at hJs; exact hJs)⟩
    | succ m =>
      have e0 : (((m + 1 : Nat) : Int) - 1) = (m : Int) := by omega
      rw [e0]
      have hk : len - (m + 1) < L.length := by omega
      have hms : len - 1 - (len - (m + 1)) = m := by omega
      obtain ⟨x, hx⟩ : ∃ x, x = L[len - (m + 1)] := ⟨_, rfl⟩
      have hxi : ix x = m := by rw [hx, hix _ hk]; exact hms
      have hcx : wr.cell? ⟨b, off + m, none⟩ = some (.int .i64 (pl x : Int)) := by
        have := hc _ hk
        rw [hms, ← hx] at this
        exact (hnx.cell (p := ⟨b, off + m, none⟩) hb hbx).trans this
      have hBc : wr.cell? ⟨Bs, 0, none⟩ = some (.slice (some ⟨b, off, none⟩) len cap) := (hnx.cell (p := ⟨Bs, 0, none⟩) hBl hBx).trans hBs
      have htk : L.take (len - m) = L.take (len - (m + 1)) ++ [x] := by
        rw [hx, ← take_more L _ hk]; congr 1; omega
      have hHt := hide htk
      obtain ⟨fn, tmps, assign, body, hy, hR⟩ := hY _ x wr hJs (by rw [List.length_take]; omega)
      rw [hxi] at hy
      obtain ⟨z, hz⟩ : ∃ z, z = pl x := ⟨_, rfl⟩
      rw [← hz] at hy hcx
      have hmlt : m < len := by omega
      have s2 : wrap64 ((m : Int) - 1) = (m : Int) - 1 := by unfold wrap64; omega
      have s2w : IntKind.i64.wrap ((m : Int) - 1) = (m : Int) - 1 := by simp only [IntKind.wrap_i64]; omega
      have hpos : (0 : Int) ≤ (m : Int) := by omega
      clear htk hx hms hk hc hix e0 hz
      gi_wp2
      refine hR.mono ?_
      rintro e W3 (⟨rfl, hJ3, hk3⟩ | ⟨rfl, hJx3⟩)
      · rw [← hHt.out] at hJ3
        gi_wp2
        go_roundw
        case rel => exact ⟨m, by omega, rfl, hJ3, hnx.trans hk3⟩
        case measure => simp [intOf]
      · rw [← hHt.out] at hJx3
        gi_wp2
        refine bodyPost_ret (results_none rfl _ _ _) rfl ?_
        exact ⟨⟨_, rfl⟩, .inr ⟨_, List.take_prefix _ _, hJx3⟩⟩
set_option maxRecDepth 100000 in
set_option maxHeartbeats 1000000 in
/-- .. of the nil slice: no round. -/
theorem back1_nil_in {α : Type} (F : Fence) (n : Nat) (hf : F.fn 73) (hro : F.round = none) (l Bs : Nat) (J : List α → World → Prop) (W : World) (hBs : W.cell? ⟨Bs, 0, none⟩ = some (.slice none 0 0)) (h0 : J [] W) :
    CallsIn F n Tryd.prog 73 #[.func (.yield l) #[] #[], .pointer (some ⟨Bs, 0, none⟩)] W fun e W' => (∃ v, e = .returned v) ∧ J [] W' := by
  refine callsIn_of_wp Tryd.func73 rfl hf ?_ hro
  simp only [Tryd.ntmps73, List.size_toArray, List.length_cons, List.length_nil, Nat.reduceAdd, Nat.reduceSub, Array.replicate_succ, Array.replicate_zero, List.push_toArray, List.append_toArray, List.nil_append, List.cons_append]
  gi_wp2
  gi_loopw [3] (fun i wr => i = .int .i64 (-1) ∧ J [] wr) (fun _ _ => 0)
  case atStart => exact ⟨by simp, h0⟩
  case round =>
    obtain ⟨rfl, hJs⟩ := hrel
    gi_wp2
    go_end0
    exact ⟨⟨_, rfl⟩, hJs⟩
set_option maxHeartbeats 1000000 in
/-- slices.Backward: the slice is boxed; the function handed back holds the box. -/
theorem back_in (F : Fence) (n : Nat) (hf : F.fn 53) (hro : F.round = none) (a : Option Addr) (len cap : Nat) (w : World) :
    CallsIn F n Tryd.prog 53 #[.slice a len cap] w fun e w' => e = .returned (.func (.func 73) #[] #[.pointer (some ⟨w.heap.size, 0, none⟩)]) ∧ w' = w.alloc (.cells #[.slice a len cap] 107) := by
  refine callsIn_of_wp Tryd.func53 rfl hf ?_ hro
  simp only [Tryd.ntmps53, List.size_toArray, List.length_cons, List.length_nil, Nat.reduceAdd, Nat.reduceSub, Array.replicate_succ, Array.replicate_zero, List.push_toArray, List.append_toArray, List.nil_append, List.cons_append]
  gi_wp2
  go_ret
  exact ⟨rfl, rfl⟩
/-- What the loop over slices.Backward is handed: all of L, or a beginning of it. -/
theorem back_stops {α : Type} (ix pl : α → Nat) (F : Fence) (n : Nat) (hf : F.fn 73) (hro : F.round = none) (hn : 1 ≤ n) (Bs n₀ : Nat) (sv : Value) (L : List α) (hreach : L.length ≤ 4000) (w : World) (hBs : Bs < w.heap.size) (hBn : Bs < n₀) (hn₀ : n₀ ≤ w.heap.size) (xx : Nat) (hBx : Bs ≠ xx)
    (hc : w.cell? ⟨Bs, 0, none⟩ = some sv) (hix : ∀ k (h : k < L.length), ix L[k] = L.length - 1 - k)
    (hI : (sv = .slice none 0 0 ∧ L = []) ∨ ∃ b off cap, sv = .slice (some ⟨b, off, none⟩) L.length cap ∧ b < n₀ ∧ b ≠ xx ∧ ∀ k (h : k < L.length), w.cell? ⟨b, off + (L.length - 1 - k), none⟩ = some (.int .i64 (pl L[k] : Int))) :
    SeqStopsK F n Tryd.prog 73 #[.pointer (some ⟨Bs, 0, none⟩)] (fun x : α => #[Value.int .i64 (ix x : Int), Value.int .i64 (pl x : Int)]) (KpX n₀ xx) (fun ys => ys = L) (fun pre => pre <+: L) L.length w := fun l J Jx W hW _ _ hY h0 => by
  have hc' := (hW.cell (p := ⟨Bs, 0, none⟩) hBs).trans hc
  rcases hI with ⟨rfl, rfl⟩ | ⟨b, off, cap, rfl, hb, hbx, hcs⟩
  · exact (back1_nil_in F n hf hro l Bs J W hc' h0).mono fun e W' ⟨he, hj⟩ => ⟨he, .inl ⟨_, rfl, hj⟩⟩
  · exact back1_in ix pl F n hf hro hn l Bs n₀ b off L.length cap L rfl hreach hb xx hbx hBx J Jx hY W hBn hc' hix (fun k h => ((hW.mono hn₀).cell (p := ⟨b, off + (L.length - 1 - k), none⟩) hb).trans (hcs k h)) h0
end Go.Proofs.YtdoodkabmeojmaaDoor

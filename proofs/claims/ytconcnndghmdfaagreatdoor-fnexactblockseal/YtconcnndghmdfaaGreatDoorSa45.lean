/- Put together: Back, BestF. -/
import Derived.RangeFuncNested
import Derived.RangeFuncBound
import Derived.RangeFuncCalls
import Derived.RangeFuncBox
import Derived.RangeFuncLeaves
import Derived.Shelf.Abstract
import Derived.Shelf.RegionOpen
import Derived.WalkKit
import Derived.OwnWalkIn
import Derived.TacticsInMore
import Derived.LoopNIn
import Derived.LoopIn
import Derived.Test.YtconcnndghmdfaaGreatDoorSa44
namespace Go.Proofs.YtconcnndghmdfaaGreatDoor
open Go Go.RowKit Go.Shelf
attribute [local go_sem] Oper.semAt_some
theorem take_more {α : Type} (L : List α) (k : Nat) (h : k < L.length) : L.take (k + 1) = L.take k ++ [L[k]] := by
  rw [List.take_add_one, List.getElem?_eq_getElem h]; rfl
/-- The blocks below n₀ are kept, but for xx. -/
structure KpX (n₀ xx : Nat) (W W' : World) : Prop where
  size : W.heap.size ≤ W'.heap.size
  block : ∀ g, g < n₀ → g ≠ xx → W'.heap[g]? = W.heap[g]?
theorem KpX.refl (n₀ xx : Nat) (W : World) : KpX n₀ xx W W := ⟨Nat.le_refl _, fun _ _ _ => rfl⟩
theorem KpX.trans {n₀ xx : Nat} {A B C : World} (h : KpX n₀ xx A B) (k : KpX n₀ xx B C) : KpX n₀ xx A C := ⟨Nat.le_trans h.size k.size, fun g h1 h2 => (k.block g h1 h2).trans (h.block g h1 h2)⟩
theorem KpX.of_below {n₀ xx : Nat} {A B : World} (h : Below n₀ A B) : KpX n₀ xx A B := ⟨h.size, fun g h1 _ => h.block g h1⟩
theorem KpX.cell {n₀ xx : Nat} {A B : World} (h : KpX n₀ xx A B) {p : Addr} (h1 : p.block < n₀) (h2 : p.block ≠ xx) : B.cell? p = A.cell? p := World.cell?_of_block (h.block _ h1 h2)
set_option maxRecDepth 100000 in
set_option maxHeartbeats 2000000 in
theorem back1_in {α : Type} (ix pl : α → Nat) (F : Fence) (n : Nat) (hf : F.fn 141) (hro : F.round = none) (hn : 1 ≤ n) (l Bs n₀ b off len cap : Nat) (L : List α) (hlen : L.length = len) (hreach : len ≤ 4000) (hb : b < n₀) (xx : Nat) (hbx : b ≠ xx) (hBx : Bs ≠ xx) (J Jx : List α → World → Prop)
    (hY : ∀ pre x W, J pre W → pre.length < len → YieldAt F (n - 1) Tryz.prog l #[.int .i64 (ix x : Int), .int .i64 (pl x : Int)] W fun e W' =>
      (e = .returned (.bool true) ∧ J (pre ++ [x]) W' ∧ KpX n₀ xx W W') ∨ (e = .returned (.bool false) ∧ Jx (pre ++ [x]) W'))
    (W : World) (hBl : Bs < n₀) (hBs : W.cell? ⟨Bs, 0, none⟩ = some (.slice (some ⟨b, off, none⟩) len cap)) (hix : ∀ k (h : k < L.length), ix L[k] = len - 1 - k) (hc : ∀ k (h : k < L.length), W.cell? ⟨b, off + (len - 1 - k), none⟩ = some (.int .i64 (pl L[k] : Int))) (h0 : J [] W) :
    CallsIn F n Tryz.prog 141 #[.func (.yield l) #[] #[], .pointer (some ⟨Bs, 0, none⟩)] W fun e W' => (∃ v, e = .returned v) ∧
      ((∃ ys, ys = L ∧ J ys W') ∨ (∃ pre, pre <+: L ∧ Jx pre W')) := by
  have s1w : IntKind.i64.wrap ((len : Int) - 1) = (len : Int) - 1 := by simp only [IntKind.wrap_i64]; omega
  have s1 : wrap64 ((len : Int) - 1) = (len : Int) - 1 := by unfold wrap64; omega
  refine callsIn_of_wp Tryz.func141 rfl hf ?_ hro
  simp only [Tryz.ntmps141, List.size_toArray, List.length_cons, List.length_nil, Nat.reduceAdd, Nat.reduceSub, Array.replicate_succ, Array.replicate_zero, List.push_toArray, List.append_toArray, List.nil_append, List.cons_append]
  gi_wp2
  gi_loopw [3] (fun i wr => ∃ m : Nat, m ≤ len ∧ i = .int .i64 ((m : Int) - 1) ∧ J (L.take (len - m)) wr ∧ KpX n₀ xx W wr)
    (fun i _ => (intOf i + 1).toNat)
  case atStart => exact ⟨len, Nat.le_refl _, rfl, by simpa using h0, KpX.refl _ _ _⟩
  case round =>
    obtain ⟨m, hm, rfl, hJs, hnx⟩ := hrel
    cases m with
    | zero =>
      have hneg : ¬ (0 : Int) ≤ ((0 : Nat) : Int) - 1 := by decide
      gi_wp2
      go_end0
      exact ⟨⟨_, rfl⟩, .inl (by rw [Nat.sub_zero, ← hlen, List.take_length] at hJs; exact hJs)⟩
    | succ m =>
      have e0 : (((m + 1 : Nat) : Int) - 1) = (m : Int) := by omega
      rw [e0]
      have hk : len - (m + 1) < L.length := by omega
      have hms : len - 1 - (len - (m + 1)) = m := by omega
      obtain ⟨x, hx⟩ : ∃ x, x = L[len - (m + 1)] := ⟨_, rfl⟩
      have hxi : ix x = m := by rw [hx, hix _ hk]; exact hms
      have hcx : wr.cell? ⟨b, off + m, none⟩ = some (.int .i64 (pl x : Int)) := by
        have := hc _ hk
        rw [hms, ← hx] at this
        exact (hnx.cell (p := ⟨b, off + m, none⟩) hb hbx).trans this
      have hBc : wr.cell? ⟨Bs, 0, none⟩ = some (.slice (some ⟨b, off, none⟩) len cap) := (hnx.cell (p := ⟨Bs, 0, none⟩) hBl hBx).trans hBs
      have htk : L.take (len - m) = L.take (len - (m + 1)) ++ [x] := by
        rw [hx, ← take_more L _ hk]; congr 1; omega
      have hHt := hide htk
      obtain ⟨fn, tmps, assign, body, hy, hR⟩ := hY _ x wr hJs (by rw [List.length_take]; omega)
      rw [hxi] at hy
      obtain ⟨z, hz⟩ : ∃ z, z = pl x := ⟨_, rfl⟩
      rw [← hz] at hy hcx
      have hmlt : m < len := by omega
      have s2 : wrap64 ((m : Int) - 1) = (m : Int) - 1 := by unfold wrap64; omega
      have s2w : IntKind.i64.wrap ((m : Int) - 1) = (m : Int) - 1 := by simp only [IntKind.wrap_i64]; omega
      have hpos : (0 : Int) ≤ (m : Int) := by omega
      clear htk hx hms hk hc hix e0 hz
      gi_wp2
      refine hR.mono ?_
      rintro e W3 (⟨rfl, hJ3, hk3⟩ | ⟨rfl, hJx3⟩)
      · rw [← hHt.out] at hJ3
        gi_wp2
        go_roundw
        case rel => exact ⟨m, by omega, rfl, hJ3, hnx.trans hk3⟩
        case measure => simp [intOf]
      · rw [← hHt.out] at hJx3
        gi_wp2
        refine bodyPost_ret (results_none rfl _ _ _) rfl ?_
        exact ⟨⟨_, rfl⟩, .inr ⟨_, List.take_prefix _ _, hJx3⟩⟩
set_option maxRecDepth 100000 in
set_option maxHeartbeats 1000000 in
/-- .. of the nil slice: no round. -/
theorem back1_nil_in {α : Type} (F : Fence) (n : Nat) (hf : F.fn 141) (hro : F.round = none) (l Bs : Nat) (J : List α → World → Prop) (W : World) (hBs : W.cell? ⟨Bs, 0, none⟩ = some (.slice none 0 0)) (h0 : J [] W) :
    CallsIn F n Tryz.prog 141 #[.func (.yield l) #[] #[], .pointer (some ⟨Bs, 0, none⟩)] W fun e W' => (∃ v, e = .returned v) ∧ J [] W' := by
  refine callsIn_of_wp Tryz.func141 rfl hf ?_ hro
  simp only [Tryz.ntmps141, List.size_toArray, List.length_cons, List.length_nil, Nat.reduceAdd, Nat.reduceSub, Array.replicate_succ, Array.replicate_zero, List.push_toArray, List.append_toArray, List.nil_append, List.cons_append]
  gi_wp2
  gi_loopw [3] (fun i wr => i = .int .i64 (-1) ∧ J [] wr) (fun _ _ => 0)
  case atStart => exact ⟨by simp, h0⟩
  case round =>
    obtain ⟨rfl, hJs⟩ := hrel
    gi_wp2
    go_end0
    exact ⟨⟨_, rfl⟩, hJs⟩
set_option maxHeartbeats 1000000 in
/-- slices.Backward: the slice is boxed; the function handed back holds the box. -/
theorem back_in (F : Fence) (n : Nat) (hf : F.fn 114) (hro : F.round = none) (a : Option Addr) (len cap : Nat) (w : World) :
    CallsIn F n Tryz.prog 114 #[.slice a len cap] w fun e w' => e = .returned (.func (.func 141) #[] #[.pointer (some ⟨w.heap.size, 0, none⟩)]) ∧ w' = w.alloc (.cells #[.slice a len cap] 160) := by
  refine callsIn_of_wp Tryz.func114 rfl hf ?_ hro
  simp only [Tryz.ntmps114, List.size_toArray, List.length_cons, List.length_nil, Nat.reduceAdd, Nat.reduceSub, Array.replicate_succ, Array.replicate_zero, List.push_toArray, List.append_toArray, List.nil_append, List.cons_append]
  gi_wp2
  go_ret
  exact ⟨rfl, rfl⟩
/-- What the loop over slices.Backward is handed: all of L, or a beginning of it. -/
theorem back_stops {α : Type} (ix pl : α → Nat) (F : Fence) (n : Nat) (hf : F.fn 141) (hro : F.round = none) (hn : 1 ≤ n) (Bs n₀ : Nat) (sv : Value) (L : List α) (hreach : L.length ≤ 4000) (w : World) (hBs : Bs < w.heap.size) (hBn : Bs < n₀) (hn₀ : n₀ ≤ w.heap.size) (xx : Nat) (hBx : Bs ≠ xx)
    (hc : w.cell? ⟨Bs, 0, none⟩ = some sv) (hix : ∀ k (h : k < L.length), ix L[k] = L.length - 1 - k)
    (hI : (sv = .slice none 0 0 ∧ L = []) ∨ ∃ b off cap, sv = .slice (some ⟨b, off, none⟩) L.length cap ∧ b < n₀ ∧ b ≠ xx ∧ ∀ k (h : k < L.length), w.cell? ⟨b, off + (L.length - 1 - k), none⟩ = some (.int .i64 (pl L[k] : Int))) :
    SeqStopsK F n Tryz.prog 141 #[.pointer (some ⟨Bs, 0, none⟩)] (fun x : α => #[Value.int .i64 (ix x : Int), Value.int .i64 (pl x : Int)]) (KpX n₀ xx) (fun ys => ys = L) (fun pre => pre <+: L) L.length w := fun l J Jx W hW _ _ hY h0 => by
  have hc' := (hW.cell (p := ⟨Bs, 0, none⟩) hBs).trans hc
  rcases hI with ⟨rfl, rfl⟩ | ⟨b, off, cap, rfl, hb, hbx, hcs⟩
  · exact (back1_nil_in F n hf hro l Bs J W hc' h0).mono fun e W' ⟨he, hj⟩ => ⟨he, .inl ⟨_, rfl, hj⟩⟩
  · exact back1_in ix pl F n hf hro hn l Bs n₀ b off L.length cap L rfl hreach hb xx hbx hBx J Jx hY W hBn hc' hix (fun k h => ((hW.mono hn₀).cell (p := ⟨b, off + (L.length - 1 - k), none⟩) hb).trans (hcs k h)) h0
end Go.Proofs.YtconcnndghmdfaaGreatDoor
namespace Go.Proofs.YtconcnndghmdfaaGreatDoor
open Go Go.RowKit
theorem kV_inj (f g : Nat → UInt8) : kV f = kV g ↔ ∀ j, j < 3 → f j = g j := by
  rw [kV_eq, kV_eq]
  constructor
  · intro h
    simp only [Value.agg.injEq, Array.mk.injEq, List.cons.injEq, Value.int.injEq, true_and, and_true] at h
    have h0 : f 0 = g 0 := UInt8.toNat_inj.1 (by omega)
    have h1 : f 1 = g 1 := UInt8.toNat_inj.1 (by omega)
    have h2 : f 2 = g 2 := UInt8.toNat_inj.1 (by omega)
    intro j hj
    match j, hj with
    | 0, _ => exact h0
    | 1, _ => exact h1
    | 2, _ => exact h2
  · intro h
    rw [h 0 (by omega), h 1 (by omega), h 2 (by omega)]
theorem alike_longG (T : Nat → UInt8) (N here p : Nat) (hp : p < here) : ∀ k n, here + n + k ≤ N → alikeG (fun j => T (here + j)) (fun j => T (p + j)) k n = longG T N here (here - p) k n
  | 0, _, _ => rfl
  | k + 1, n, h => by
    have e : here + n - (here - p) = p + n := by omega
    show (if T (p + n) = T (here + n) then _ else n) = if here + n < N ∧ T (here + n) = T (here + n - (here - p)) then _ else n
    rw [e]
    by_cases c : T (p + n) = T (here + n)
    · rw [if_pos c, if_pos ⟨by omega, c.symm⟩]
      exact alike_longG T N here p hp k (n + 1) (by omega)
    · rw [if_neg c, if_neg (fun h => c h.2.symm)]
theorem longG_past (T : Nat → UInt8) (N at_ far d : Nat) : ∀ k n, N ≤ at_ + n + k → longG T N at_ far (k + d) n = longG T N at_ far k n
  | 0, n, h => by
    cases d with
    | zero => rfl
    | succ d =>
      rw [Nat.zero_add]
      show (if at_ + n < N ∧ T (at_ + n) = T (at_ + n - far) then _ else n) = n
      rw [if_neg (fun h => by omega)]
  | k + 1, n, h => by
    rw [show k + 1 + d = (k + d) + 1 by omega]
    show (if at_ + n < N ∧ T (at_ + n) = T (at_ + n - far) then longG T N at_ far (k + d) (n + 1) else n) = if at_ + n < N ∧ T (at_ + n) = T (at_ + n - far) then longG T N at_ far k (n + 1) else n
    rw [longG_past T N at_ far d k (n + 1) (by omega)]
theorem alike_long (T : Nat → UInt8) (N here p M : Nat) (hp : p < here) (hh : here ≤ N) (hM : (M = 66 ∧ 66 ≤ N - here) ∨ (M = N - here ∧ N - here ≤ 66)) : alikeG (fun j => T (here + j)) (fun j => T (p + j)) M 0 = long T N here (here - p) := by
  rw [alike_longG T N here p hp M 0 (by omega)]
  unfold long
  rcases hM with ⟨h, _⟩ | ⟨h, h2⟩
  · rw [h]
  · have := longG_past T N here (here - p) (66 - M) M 0 (by omega)
    rw [show M + (66 - M) = 66 by omega] at this
    exact this.symm
theorem long_most (T : Nat → UInt8) (N at_ far : Nat) : long T N at_ far ≤ N - at_ := by
  rcases Nat.lt_or_ge (N - at_) (long T N at_ far) with h | h
  · have := (long_eq T N at_ far (N - at_) h).1; omega
  · exact h
theorem mem_plc (T : Nat → UInt8) (N here p : Nat) (h3 : here + 3 ≤ N) : p ∈ plc T N here (kV (opF T N here)) ↔ p < here ∧ 3 ≤ long T N here (here - p) := by
  unfold plc
  rw [List.mem_filter, List.mem_range, plcP]
  constructor
  · rintro ⟨hp, hN, he⟩
    refine ⟨hp, long_ge T N here (here - p) 3 (by omega) (fun j hj => ⟨by omega, ?_⟩)⟩
    have := (kV_inj _ _).1 he j hj
    unfold opF at this
    rw [if_pos (by omega), if_pos (by omega)] at this
    rw [show here + j - (here - p) = p + j by omega]
    exact this.symm
  · rintro ⟨hp, hl⟩
    refine ⟨hp, by omega, (kV_inj _ _).2 fun j hj => ?_⟩
    unfold opF
    rw [if_pos (by omega), if_pos (by omega)]
    have := (long_eq T N here (here - p) j (by omega)).2
    rw [show here + j - (here - p) = p + j by omega] at this
    exact this.symm
theorem plc_desc (T : Nat → UInt8) (N here : Nat) (v : Value) : (plc T N here v).reverse.Pairwise (fun a b => b < a) := by
  rw [List.pairwise_reverse]
  unfold plc
  exact List.pairwise_lt_range.filter _
theorem plc_lt (T : Nat → UInt8) (N here p : Nat) (v : Value) (h : p ∈ plc T N here v) : p < here := by
  unfold plc at h
  rw [List.mem_filter, List.mem_range] at h
  exact h.1
/-- How many bytes the best so far is of. -/
def sizeB (b : Nat × Nat) : Nat := if b.1 = 0 then 1 else b.1
/-- One place more. -/
def stepB (T : Nat → UInt8) (N here : Nat) (b : Nat × Nat) (p : Nat) : Nat × Nat := if sizeB b < long T N here (here - p) then (long T N here (here - p), here - p) else b
def foldB (T : Nat → UInt8) (N here : Nat) (l : List Nat) : Nat × Nat := l.foldl (stepB T N here) (0, 0)
theorem foldB_snoc (T : Nat → UInt8) (N here : Nat) (l : List Nat) (p : Nat) : foldB T N here (l ++ [p]) = stepB T N here (foldB T N here l) p := by simp [foldB]
def GoodB (T : Nat → UInt8) (N here : Nat) (b : Nat × Nat) (l : List Nat) : Prop :=
  (b = (0, 0) ∧ l = []) ∨ (3 ≤ b.1 ∧ b.1 = long T N here b.2 ∧ (∃ p ∈ l, p < here ∧ b.2 = here - p) ∧ (∀ p ∈ l, long T N here (here - p) ≤ b.1) ∧ ∀ p ∈ l, here - p < b.2 → long T N here (here - p) < b.1)
theorem good_step {T : Nat → UInt8} {N here : Nat} {b : Nat × Nat} {l : List Nat} (h : GoodB T N here b l) (p : Nat) (hp : p < here) (h3 : 3 ≤ long T N here (here - p)) (hd : ∀ q ∈ l, p < q) : GoodB T N here (stepB T N here b p) (l ++ [p]) := by
  right
  unfold stepB
  rcases h with ⟨rfl, rfl⟩ | ⟨g1, g2, ⟨q0, hq0, hq1, hq2⟩, g4, g5⟩
  · rw [if_pos (show sizeB (0, 0) < _ from by show 1 < _; omega)]
    refine ⟨h3, rfl, ⟨p, by simp, hp, rfl⟩, fun q hq => ?_, fun q hq hl => ?_⟩
    · simp at hq; subst hq; exact Nat.le_refl _
    · simp at hq; subst hq; exact absurd hl (Nat.lt_irrefl _)
  · have hsz : sizeB b = b.1 := if_neg (by omega)
    rw [hsz]
    by_cases c : b.1 < long T N here (here - p)
    · rw [if_pos c]
      refine ⟨by show 3 ≤ long T N here (here - p); omega, rfl, ⟨p, by simp, hp, rfl⟩, fun q hq => ?_, fun q hq hl => ?_⟩
      · rcases List.mem_append.1 hq with hq | hq
        · have := g4 q hq; show _ ≤ long T N here (here - p); omega
        · simp at hq; subst hq; exact Nat.le_refl _
      · rcases List.mem_append.1 hq with hq | hq
        · have := g4 q hq; show _ < long T N here (here - p); omega
        · simp at hq; subst hq; exact absurd hl (Nat.lt_irrefl _)
    · rw [if_neg c]
      refine ⟨g1, g2, ⟨q0, by simp [hq0], hq1, hq2⟩, fun q hq => ?_, fun q hq hl => ?_⟩
      · rcases List.mem_append.1 hq with hq | hq
        · exact g4 q hq
        · simp at hq; subst hq; omega
      · rcases List.mem_append.1 hq with hq | hq
        · exact g5 q hq hl
        · simp at hq; subst hq
          have := hd q0 hq0
          omega
theorem good_all {T : Nat → UInt8} {N here : Nat} : ∀ (l ini : List Nat) (b : Nat × Nat), GoodB T N here b ini → (∀ p ∈ l, p < here ∧ 3 ≤ long T N here (here - p)) → (ini ++ l).Pairwise (fun a b => b < a) → GoodB T N here (l.foldl (stepB T N here) b) (ini ++ l)
  | [], ini, b, h, _, _ => by rw [List.append_nil]; exact h
  | p :: l, ini, b, h, hl, hd => by
    have e : ini ++ p :: l = (ini ++ [p]) ++ l := by simp
    rw [e] at hd ⊢
    rw [List.foldl_cons]
    refine good_all l (ini ++ [p]) _ (good_step h p (hl p (by simp)).1 (hl p (by simp)).2 (fun q hq => ?_)) (fun q hq => hl q (by simp [hq])) hd
    have := (List.pairwise_append.1 (List.pairwise_append.1 hd).1).2.2 q hq p (by simp)
    exact this
theorem good_fold {T : Nat → UInt8} {N here : Nat} (l : List Nat) (hl : ∀ p ∈ l, p < here ∧ 3 ≤ long T N here (here - p)) (hd : l.Pairwise (fun a b => b < a)) : GoodB T N here (foldB T N here l) l := by
  have := good_all (T := T) (N := N) (here := here) l [] (0, 0) (.inl ⟨rfl, rfl⟩) hl (by simpa using hd)
  simpa [foldB] using this
/-- The token of the best so far. -/
def tokB (T : Nat → UInt8) (here : Nat) (b : Nat × Nat) : Tok := if b.1 = 0 then ⟨((T here).toNat : Int), 0, 0⟩ else ⟨0, (b.1 : Int), (b.2 : Int)⟩
theorem best_small (T : Nat → UInt8) (N here : Nat) (h : ∀ g, 1 ≤ g → g ≤ min 1024 here → long T N here g < 3) : (bestAt T N here).1 < 3 := by
  unfold bestAt
  rcases best_is T N here (min 1024 here) with e | ⟨h1, h2, _, h4, _⟩
  · rw [e]; decide
  · rw [h4]; exact h _ h1 h2
theorem tokAt_small (T : Nat → UInt8) (N here : Nat) (h : ¬ here + 3 ≤ N) : tokAt T N here = tokB T here (0, 0) := by
  unfold tokAt
  rw [if_pos (best_small T N here (fun g _ _ => by have := long_most T N here g; omega))]
  rfl
theorem best_final (T : Nat → UInt8) (N here M : Nat) (h3 : here + 3 ≤ N) (hM : (M = 66 ∧ 66 ≤ N - here) ∨ (M = N - here ∧ N - here ≤ 66)) (ini rest : List Nat) (hmem : ∀ p, p ∈ ini ++ rest ↔ p < here ∧ 3 ≤ long T N here (here - p)) (hd : (ini ++ rest).Pairwise (fun a b => b < a))
    (hf : ∀ p ∈ ini, here - p ≤ 1024) (hr : ∀ q ∈ rest, 1024 < here - q ∨ sizeB (foldB T N here ini) = M) : tokB T here (foldB T N here ini) = tokAt T N here := by
  have hg := good_fold ini (fun p hp => (hmem p).1 (by simp [hp])) (List.pairwise_append.1 hd).1
  have hlM : ∀ g, long T N here g ≤ M := fun g => by have := long_most T N here g; have := long_le T N here g; omega
  rcases hg with ⟨e, hi⟩ | ⟨g1, g2, ⟨q0, hq0, hq1, hq2⟩, g4, g5⟩
  · rw [e]
    rw [e] at hr
    unfold tokAt
    rw [if_pos (best_small T N here (fun g hg1 hg2 => ?_))]
    · rfl
    · rcases Nat.lt_or_ge (long T N here g) 3 with h | h
      · exact h
      · have hg' : here - (here - g) = g := by omega
        have hm := (hmem (here - g)).2 ⟨by omega, by rw [hg']; exact h⟩
        rw [hi, List.nil_append] at hm
        rcases hr _ hm with h1 | h1
        · omega
        · have : sizeB (0, 0) = 1 := rfl
          omega
  · obtain ⟨m, far, hb⟩ : ∃ m far, foldB T N here ini = (m, far) := ⟨_, _, rfl⟩
    rw [hb] at g1 g2 hq2 g4 g5 hr ⊢
    dsimp only at g1 g2 hq2 g4 g5
    have hcase : ∀ g, 1 ≤ g → g ≤ min 1024 here → 3 ≤ long T N here g → (here - g ∈ ini) ∨ ((here - g) ∈ rest ∧ m = M) := by
      intro g hg1 hg2 hl
      have hg' : here - (here - g) = g := by omega
      have hm := (hmem (here - g)).2 ⟨by omega, by rw [hg']; exact hl⟩
      rcases List.mem_append.1 hm with hm | hm
      · exact .inl hm
      · rcases hr _ hm with h1 | h1
        · omega
        · have : sizeB (m, far) = m := if_neg (by show ¬ m = 0; omega)
          exact .inr ⟨hm, by omega⟩
    have hfar := hf q0 hq0
    have hbest : bestAt T N here = (m, far) := by
      unfold bestAt
      refine best_only T N here (min 1024 here) m far (by omega) (by omega) (by omega) g2 (fun g hg1 hg2 => ?_) (fun g hg1 hg2 => ?_)
      · rcases Nat.lt_or_ge (long T N here g) 3 with h | h
        · omega
        · rcases hcase g hg1 hg2 h with h1 | ⟨_, h1⟩
          · have := g4 _ h1
            rwa [show here - (here - g) = g by omega] at this
          · rw [h1]; exact hlM g
      · rcases Nat.lt_or_ge (long T N here g) 3 with h | h
        · omega
        · have e : here - (here - g) = g := by omega
          rcases hcase g hg1 (by omega) h with h1 | ⟨h1, _⟩
          · have := g5 _ h1 (by omega)
            rwa [e] at this
          · have := (List.pairwise_append.1 hd).2.2 q0 hq0 _ h1
            omega
    unfold tokAt tokB
    rw [hbest, if_neg (show ¬ m = 0 by omega), if_neg (show ¬ m < 3 by omega)]
theorem tokB_ok (T : Nat → UInt8) (N here : Nat) (l : List Nat) : (foldB T N here l).1 ≤ 66 := by
  have : ∀ (l : List Nat) (b : Nat × Nat), b.1 ≤ 66 → (l.foldl (stepB T N here) b).1 ≤ 66 := by
    intro l
    induction l with
    | nil => exact fun b h => h
    | cons p l ih =>
      intro b h
      rw [List.foldl_cons]
      refine ih _ ?_
      unfold stepB
      split
      · exact long_le T N here _
      · exact h
  exact this l (0, 0) (by omega)
end Go.Proofs.YtconcnndghmdfaaGreatDoor

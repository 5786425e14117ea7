/- Put together: ImpApartS, ImpDifB, IterM. -/
import Derived.Test.YtconcnndghmdfaaGreatDoorSc31
import Derived.RangeFuncNested
import Derived.RangeFuncCalls
import Derived.RangeFuncBox
import Derived.Deep.AppendLies
import Derived.OwnWalkIn
import Derived.Test.YtconcnndghmdfaaGreatDoorSc1
namespace Go.Proofs.YtconcnndghmdfaaGreatDoor
open Go.RowKit Go
set_option maxRecDepth 100000 in
set_option maxHeartbeats 1600000 in
theorem apart_S (M1 M2 : UInt8 → UInt8 → UInt8) (hM : ∀ (a b : UInt8) (w : World), Calls Tryz.prog 102 #[.int .u8 (a.toNat : Int), .int .u8 (b.toNat : Int)] w fun e w' => e = .returned (.tuple #[.int .u8 ((M1 a b).toNat : Int), .int .u8 ((M2 a b).toNat : Int)]) ∧ w' = w)
    (text : ByteArray) (far : Nat) (w : World) (b : Nat) (hcell : w.cell? ⟨b, 0, none⟩ = some (.string text)) (hbw : b < w.heap.size) (ht : text.size ≤ 20000) (hf1 : 1 ≤ far) (hf2 : far ≤ 256) :
    Calls Tryz.prog 46 #[.int .i64 (far : Int), .func (.func 102) #[] #[], .slice (some ⟨b, 0, none⟩) 1 1] w fun e w' => e = .returned (.string ⟨((List.range text.size).map (fun j => M1 (bF text j) (metF M2 (bF text) far j))).toArray⟩) ∧ Below w.heap.size w w' := by
  have hmk : ∀ w : World, (Instr.makeSlice 22 (.int .i64 text.size) (.int .i64 text.size)).run Tryz.prog w = .ok (.slice (some ⟨w.heap.size, 0, none⟩) text.size text.size) (w.alloc (.cells (madeCells #[.int .u8 0] text.size) 5)) := run_make_row' (P := Tryz.prog) 22 5 (.int .u8 0) 1 (by kernel_rfl) Tryz.infoA8 rfl .i64 .i64 text.size (by omega) (by omega)
  obtain ⟨hz, hsz⟩ := zero_of_info Tryz.infoRing
  have hso := hide (fun w h1 h2 h3 => sizeOf_any b [text] w h1 h2 h3)
  have e1 : (catB [text]).length = text.size := by simp [catB]
  have f1 : ¬ (far : Int) < 1 := by omega
  have f2 : ¬ (256 : Int) < (far : Int) := by omega
  have t1 : ¬ (20000 : Int) < (text.size : Int) := by omega
  obtain ⟨T, hT⟩ : ∃ T, T = bF text := ⟨_, rfl⟩
  have HT := hide (show ∀ k (hk : k < text.size), text[k] = T k from fun k hk => (bF_get' text k hk).trans (by rw [hT]))
  rw [← hT]
  clear hT
  go_enter Tryz.func46, Tryz.ntmps46
  go_wp2_with fail
  refine (hso.out _ (fun j hj => by match j, hj with | 0, _ => exact hcell) (by simp) (by rw [e1]; omega)).mono ?_
  rw [e1]
  rintro e w1 ⟨rfl, rfl⟩
  have r0 := row_alloc w1 94 256 (fun _ => 0)
  have r1 := World.rowIs_made (w1.alloc (.cells (bL 256 fun _ => 0).toArray 94)) (.int .u8 0) text.size 5
  have rb := ((Below.refl w1.heap.size w1).alloc (Nat.le_refl _) (.cells (bL 256 fun _ => 0).toArray 94)).alloc (by simp) (.cells (madeCells #[.int .u8 0] text.size) 5)
  have r0' := r0.alloc (.cells (madeCells #[.int .u8 0] text.size) 5)
  rw [World.size_alloc] at r1
  go_wp2_with fail
  clear hmk hz hso e1 f1 f2 t1 r0
  generalize (w1.alloc (.cells (bL 256 fun _ => 0).toArray 94)).alloc (.cells (madeCells #[.int .u8 0] text.size) 5) = W1 at *
  go_loopw [10, 31] (fun a i wx => ∃ (k n : Nat) (f r : Nat → UInt8), k ≤ 1 ∧ Hid (n = k * text.size) ∧ i = .int .i64 k ∧ a = .int .i64 n ∧ Hid (∀ j, j < n → f j = M1 (T j) (metF M2 T far j)) ∧ Hid (ringOk M2 T far n r) ∧ wx.rowIs w1.heap.size 94 256 (u8V r) ∧ wx.rowIs (w1.heap.size + 1) 5 text.size (u8V f) ∧ Below w1.heap.size w1 wx) (fun _ i _ => 1 - (intOf i).toNat)
  case atStart => exact ⟨0, 0, fun _ => 0, fun _ => 0, by omega, (Nat.zero_mul _).symm, rfl, rfl, fun j hj => by omega, ⟨fun j hj => by omega, fun _ _ _ => rfl⟩, r0', r1, rb⟩
  case round =>
    clear r0' r1 rb
    obtain ⟨k, n, f, r, hk, hn, rfl, rfl, hf, hr, r0, r1, rb⟩ := hrel
    by_cases hlt : k = 0
    · obtain rfl : n = 0 := by have := hn.out; rw [hlt] at this; omega
      have hcw : wr.cell? ⟨b, k, none⟩ = some (.string text) := by rw [hlt]; exact (rb.cell (p := ⟨b, 0, none⟩) hbw).trans hcell
      have hk1 : k < 1 := by omega
      have hk2 : (k : Int) < 1 := by omega
      have HK := hide hlt
      clear hn hlt
      go_wp2_with fail
      go_loopw [10, 37] (fun a i wx => ∃ (n : Nat) (f r : Nat → UInt8), n ≤ text.size ∧ i = .int .i64 n ∧ a = .int .i64 n ∧ Hid (∀ j, j < n → f j = M1 (T j) (metF M2 T far j)) ∧ Hid (ringOk M2 T far n r) ∧ wx.rowIs w1.heap.size 94 256 (u8V r) ∧ wx.rowIs (w1.heap.size + 1) 5 text.size (u8V f) ∧ Below w1.heap.size w1 wx) (fun _ i _ => text.size - (intOf i).toNat)
      case atStart => exact ⟨0, f, r, by omega, rfl, rfl, hf, hr, r0, r1, rb⟩
      case round =>
        clear r0 r1 rb hf hr f r
        obtain ⟨n, f, r, hn, rfl, rfl, hf, hr, r0, r1, rb⟩ := hrel
        by_cases hlt : n < text.size
        · have hlt' : (n : Int) < (text.size : Int) := by omega
          obtain ⟨q, hq⟩ : ∃ q, q = n % far := ⟨_, rfl⟩
          have hq1 : q < far := by rw [hq]; exact Nat.mod_lt _ (by omega)
          have hq2 : (n : Int) % (far : Int) = (q : Int) := by rw [hq]; rfl
          have hq3 : (q : Int) < 256 := by omega
          have hf0 : ¬ (far : Int) = 0 := by omega
          have cq : wr.cell? ⟨w1.heap.size, q, none⟩ = some (.int .u8 ((r q).toNat : Int)) := r0.cell (i := q) (by omega)
          have HB := hide (HT.out n hlt)
          have HR := hide (show r q = metF M2 T far n by rw [hq]; exact ring_at hr.out (by omega))
          have HQ := hide hq
          have cB := hM text[n] (r q)
          obtain ⟨R, hR⟩ : ∃ R, R = r q := ⟨_, rfl⟩
          obtain ⟨Y, hY⟩ : ∃ Y, Y = M1 text[n] R := ⟨_, rfl⟩
          obtain ⟨Z, hZ⟩ : ∃ Z, Z = M2 text[n] R := ⟨_, rfl⟩
          rw [← hR] at cq HR cB
          rw [← hY, ← hZ] at cB
          have HY := hide (show Y = M1 (T n) (metF M2 T far n) by rw [hY, HB.out, HR.out])
          have HZ := hide (show Z = keptF M2 T far n by rw [hZ, HB.out, HR.out, keptF_eq])
          have CB := hide cB
          clear hq hR hY hZ cB HR HB
          have fq := r0.frozen q
          have cn := r1.cell (i := n) hlt
          have fn := r1.frozen n
          go_wp2_with fail
          go_region_with (go_at_call 102; refine (CB.out _).mono ?_; rintro e w2 ⟨rfl, rfl⟩)
          all_goals
            clear cq fq cn fn hq2 hf0 hcell hcw CB hM
            go_wp2_with fail
            go_roundw
            case rel =>
              refine ⟨n + 1, fun j => if j = n then Y else f j, fun j => if j = q then Z else r j, by omega, by go_num, by go_num, fun j hj => ?_, by have h := ring_next hr.out HZ.out; rw [← HQ.out] at h; exact h, ?_, ?_, ?_⟩
              · show (if j = n then Y else f j) = _
                by_cases e : j = n
                · rw [if_pos e, e, HY.out]
                · rw [if_neg e]; exact hf.out j (by omega)
              · first
                  | exact (set_byte (r0.setOther (by simp) _) rfl).drew
                  | exact ((set_byte r0 rfl).setOther (by simp) _).drew
              · first
                  | exact ((set_byte r1 rfl).setOther (by simp) _).drew
                  | exact (set_byte (r1.setOther (by simp) _) rfl).drew
              · first
                  | exact ((rb.setCell (by simp) _).setCell (by simp) _).drew
            case measure => simp [intOf]; omega
        · have hn1 : n = text.size := by omega
          subst hn1
          have hlt' : ¬ (text.size : Int) < (text.size : Int) := by omega
          clear hcw
          go_wp2_with fail
          go_roundw
          case rel => exact ⟨k + 1, text.size, f, r, by omega, by rw [HK.out]; exact (Nat.one_mul _).symm, by go_num, rfl, hf, hr, r0, r1, rb⟩
          case measure => simp [intOf]; omega
    · obtain rfl : k = 1 := by omega
      have hn1 : n = text.size := by have := hn.out; omega
      subst hn1
      have hcv := conv_row (P := Tryz.prog) (cap := text.size) (l := (List.range text.size).map (fun j => M1 (T j) (metF M2 T far j))) r1 (fun j hj => by rw [List.getElem?_map, List.getElem?_range hj, hf.out j hj]; rfl) (by simp) Tryz.underlying22 Tryz.underlying5 Tryz.underlying9
      clear hn hf
      go_wp2_with fail
      go_ret
      exact ⟨rfl, rb⟩
end Go.Proofs.YtconcnndghmdfaaGreatDoor
namespace Go.Proofs.YtconcnndghmdfaaGreatDoor
open Go.RowKit Go
set_option maxRecDepth 100000 in
theorem sum_meet (a b : UInt8) (w : World) : Calls Tryz.prog 102 #[.int .u8 (a.toNat : Int), .int .u8 (b.toNat : Int)] w fun e w' => e = .returned (.tuple #[.int .u8 ((a + b).toNat : Int), .int .u8 ((a + b).toNat : Int)]) ∧ w' = w := by
  have h := add8 a b
  obtain ⟨X, hX⟩ : ∃ X, X = a + b := ⟨_, rfl⟩
  rw [← hX] at h ⊢
  clear hX
  go_enter Tryz.func102, Tryz.ntmps102
  go_wp2_with fail
  go_ret2
  exact ⟨rfl, rfl⟩
theorem apart_sum (text : ByteArray) (far : Int) (w : World) (ht : text.size ≤ 9223372036854775807) :
    Calls Tryz.prog 46 #[.int .i64 far, .func (.func 102) #[] #[], .slice (some ⟨w.heap.size, 0, none⟩) 1 1] (w.alloc (.cells #[.string text] 9)) fun e w' => e = .returned (.string (sumS text far)) ∧ Below w.heap.size w w' := by
  have hb0 := (Below.refl w.heap.size w).alloc (Nat.le_refl _) (.cells #[.string text] 9)
  by_cases h : farOk text far
  · have hE : sumS text far = ⟨((List.range text.size).map (sumF (bF text) far.toNat)).toArray⟩ := if_pos h
    rw [hE]
    obtain ⟨h1, h2, h3⟩ := h
    obtain ⟨n, rfl⟩ := Int.eq_ofNat_of_zero_le (show 0 ≤ far by omega)
    refine (apart_S (fun a b => a + b) (fun a b => a + b) sum_meet text n _ w.heap.size (text_cell w text _) (by simp) h1 (by omega) (by omega)).mono ?_
    rintro e w' ⟨rfl, hb⟩
    refine ⟨?_, hb0.trans (hb.mono (by simp))⟩
    congr 5
    funext j; exact (keptF_eq (fun a b => a + b) (bF text) n j).symm.trans (sum_kept (bF text) n (by omega) j)
  · have hE : sumS text far = ⟨#[]⟩ := if_neg h
    rw [hE]
    refine (apart_no _ text far _ w.heap.size (text_cell w text _) ht h).mono ?_
    rintro e w' ⟨rfl, hb⟩
    exact ⟨rfl, hb0.trans (hb.mono (by simp))⟩
set_option maxRecDepth 100000 in
theorem imp_sum (text : ByteArray) (far : Int) (w : World) (ht : text.size ≤ 9223372036854775807) :
    Calls Tryz.prog 66 #[.string text, .int .i64 far] w fun e w' => e = .returned (.string (sumS text far)) ∧ Below w.heap.size w w' := by
  have S := hide (fun w => apart_sum text far w ht)
  generalize sumS text far = R at *
  go_enter Tryz.func66, Tryz.ntmps66
  go_wp2_with fail
  refine (S.out w).mono ?_
  rintro e w1 ⟨rfl, hb1⟩
  go_wp2_with fail
  go_ret
  exact ⟨rfl, hb1⟩
end Go.Proofs.YtconcnndghmdfaaGreatDoor
namespace Go.Proofs.YtconcnndghmdfaaGreatDoor
open Go Go.RowKit
/-- What an iterator's step does: the blocks of M may turn, new ones may be made, all others stay. -/
structure Moves (M : Nat → Prop) (W W' : World) : Prop where
  os : W'.os = W.os
  tape : W'.tape = W.tape
  output : W'.output = W.output
  size : W.heap.size ≤ W'.heap.size
  block : ∀ g, g < W.heap.size → ¬ M g → W'.heap[g]? = W.heap[g]?
/-- What a round does: the blocks of M stay. -/
structure KeptM (M : Nat → Prop) (W W' : World) : Prop where
  size : W.heap.size ≤ W'.heap.size
  block : ∀ g, g < W.heap.size → M g → W'.heap[g]? = W.heap[g]?
theorem KeptM.refl (M : Nat → Prop) (W : World) : KeptM M W W := ⟨Nat.le_refl _, fun _ _ _ => rfl⟩
theorem KeptM.trans {M : Nat → Prop} {A B C : World} (h : KeptM M A B) (k : KeptM M B C) : KeptM M A C :=
  ⟨Nat.le_trans h.size k.size, fun g h1 h2 => (k.block g (Nat.lt_of_lt_of_le h1 h.size) h2).trans (h.block g h1 h2)⟩
theorem KeptM.below {M : Nat → Prop} {A B : World} (h : Below A.heap.size A B) : KeptM M A B := ⟨h.size, fun g h1 _ => h.block g h1⟩
/-- .. and whatever else is done to blocks beyond B that are no cells (the loop's own record, and what is deferred). -/
structure MovesB (B : Nat) (M : Nat → Prop) (W W' : World) : Prop where
  os : W'.os = W.os
  tape : W'.tape = W.tape
  output : W'.output = W.output
  size : W.heap.size ≤ W'.heap.size
  block : ∀ g, g < W.heap.size → ¬ M g → (g < B ∨ ∀ o, W.heap[g]? = some o → o.isCells = true) → W'.heap[g]? = W.heap[g]?
theorem Moves.toB {M : Nat → Prop} {A B : World} (h : Moves M A B) (b : Nat) : MovesB b M A B := ⟨h.os, h.tape, h.output, h.size, fun g h1 h2 _ => h.block g h1 h2⟩
theorem MovesB.toBelow {B b : Nat} {M : Nat → Prop} {w W W' : World} (h : MovesB B M W W') (hb : Below b w W) (hw : b ≤ W.heap.size) (hB : b ≤ B) (hM : ∀ g, M g → b ≤ g) : Below b w W' :=
  hb.trans ⟨h.os, h.tape, h.output, h.size, fun g hg => h.block g (by omega) (fun hm => by have := hM g hm; omega) (.inl (by omega))⟩
theorem MovesB.cells {B g : Nat} {M : Nat → Prop} {W W' : World} {c : Array Value} {t : TypeId} {m : Nat × Nat} (h : MovesB B M W W') (hM : ¬ M g) (hg : W.heap[g]? = some (.cells c t m)) : W'.heap[g]? = some (.cells c t m) :=
  (h.block g (Array.getElem?_eq_some_iff.1 hg).1 hM (.inr (fun o ho => by rw [hg] at ho; cases ho; rfl))).trans hg
theorem Moves.below {M : Nat → Prop} {A B : World} (h : Below A.heap.size A B) : Moves M A B := ⟨h.os, h.tape, h.output, h.size, fun g h1 _ => h.block g h1⟩
theorem Moves.trans {M : Nat → Prop} {A B C : World} (h : Moves M A B) (k : Moves M B C) : Moves M A C :=
  ⟨k.os.trans h.os, k.tape.trans h.tape, k.output.trans h.output, Nat.le_trans h.size k.size, fun g h1 h2 => (k.block g (Nat.lt_of_lt_of_le h1 h.size) h2).trans (h.block g h1 h2)⟩
/-- J stands whatever the iterator does to its own blocks. -/
def StandsM {β : Type} (J : (Nat → Prop) → β → World → Prop) : Prop :=
  ∀ M M' s W W', J M s W → Moves M W W' → (∀ g, M' g → M g ∨ W.heap.size ≤ g ∧ g < W'.heap.size) → J M' s W'
/-- .. and whatever is done to blocks beyond B that are no cells. -/
def StandsB {β : Type} (B : Nat) (J : (Nat → Prop) → β → World → Prop) : Prop :=
  ∀ M M' s W W', J M s W → MovesB B M W W' → (∀ g, M' g → M g ∨ W.heap.size ≤ g ∧ g < W'.heap.size) → J M' s W'
theorem StandsB.moves {β : Type} {B : Nat} {J : (Nat → Prop) → β → World → Prop} (h : StandsB B J) : StandsM J :=
  fun M M' s W W' hj hm hM => h M M' s W W' hj (hm.toB B) hM
theorem StandsB.alloc {β : Type} {B : Nat} {J : (Nat → Prop) → β → World → Prop} (h : StandsB B J) {M : Nat → Prop} {s : β} {W : World} (o : Obj) (hj : J M s W) : J M s (W.alloc o) :=
  h M M s W _ hj ⟨rfl, rfl, rfl, by simp, fun g h1 _ _ => Below.heap_alloc _ _ _ h1⟩ (fun g hg => .inl hg)
theorem StandsB.putObj {β : Type} {B : Nat} {J : (Nat → Prop) → β → World → Prop} (h : StandsB B J) {M : Nat → Prop} {s : β} {W : World} {l : Nat} {o : Obj} (o' : Obj) (hj : J M s W) (hB : B ≤ l) (hl : W.heap[l]? = some o) (ho : o.isCells = false) : J M s (W.putObj l o') := by
  have hg := grownBy_putObj' W l o'
  refine h M M s W _ hj ⟨hg.os, hg.tape, hg.output, hg.size, fun g h1 _ h3 => hg.block g h1 (fun e => ?_)⟩ (fun g hg => .inl hg)
  cases e
  rcases h3 with h3 | h3
  · omega
  · have := h3 o hl; rw [ho] at this; cases this
theorem KeepsFrom.below {B : Nat} {A C : World} (h : Below A.heap.size A C) : KeepsFrom B A C := ⟨h.size, fun k _ _ hk _ => (h.block k (Array.getElem?_eq_some_iff.1 hk).1).trans hk⟩
section
variable {F : Fence} {n : Nat} {P : Program}
/-- What an iterator promises that keeps memory of its own: it begins with the blocks of M₀; each thing that comes is handed to the loop's round, in order. -/
def SeqM {α : Type} (F : Fence) (n : Nat) (P : Program) (g : Nat) (lb : Array Value) (encs : α → Array Value) (M₀ : Nat → Prop) (S Sp : List α → Prop) (R : List α → α → Prop) (w : World) : Prop :=
  ∀ (l : Nat) (J Jx : (Nat → Prop) → List α → World → Prop) (W : World), KeptM M₀ w W → StandsM J → StandsM Jx →
    (∀ M pre x W1, J M pre W1 → R pre x → YieldAt F (n - 1) P l (encs x) W1 fun e W' =>
      (e = .returned (.bool true) ∧ J M (pre ++ [x]) W' ∧ KeptM M W1 W') ∨ (e = .returned (.bool false) ∧ Jx M (pre ++ [x]) W')) →
    J M₀ [] W →
    CallsIn F n P g (#[.func (.yield l) #[] #[]] ++ lb) W fun e W' => (∃ v, e = .returned v) ∧ ((∃ M xs, S xs ∧ J M xs W') ∨ (∃ M pre, Sp pre ∧ Jx M pre W'))
theorem SeqM.later {α : Type} {F : Fence} {n : Nat} {P : Program} {g : Nat} {lb : Array Value} {encs : α → Array Value} {M₀ : Nat → Prop} {S Sp : List α → Prop} {R : List α → α → Prop} {w w' : World} (h : SeqM F n P g lb encs M₀ S Sp R w) (hk : KeptM M₀ w w') : SeqM F n P g lb encs M₀ S Sp R w' :=
  fun l J Jx W hW => h l J Jx W (hk.trans hW)
/-- How a round may be left. -/
def roundPost {α : Type} (B : Nat) (M : Nat → Prop) (I : (Nat → Prop) → List α → World → Prop) (Ix : Code → (Nat → Prop) → List α → World → Prop) (xs : List α) (W : World) : Exit → Act → World → Prop
  | .normal, _, W' => KeepsFrom B W W' ∧ KeptM M W W' ∧ I M xs W'
  | .ret, _, W' => KeepsFrom B W W' ∧ Ix .ret M xs W'
  | .exit id, _, W' => KeepsFrom B W W' ∧ Ix (.exit id) M xs W'
  | .goto t, _, W' => KeepsFrom B W W' ∧ Ix (.goto t) M xs W'
  | .panic _, _, _ => False
  | .outgrown, _, _ => False
theorem keptM_putObj {M : Nat → Prop} {W : World} {l : Nat} (o : Obj) (h : ¬ M l) : KeptM M W (W.putObj l o) :=
  ⟨(grownBy_putObj' W l o).size, fun g h1 h2 => (grownBy_putObj' W l o).block g h1 (fun e => h (by cases e; exact h2))⟩
/-- The rule of a loop over such an iterator. -/
theorem wpIn_rangeM {α : Type} {g : Operand} {ps : Array Tmp} {assign body : Code} {Q : Exit → Act → World → Prop} {a : Act} {w : World}
    (hro : F.round = none) (h1 : 1 ≤ n) {gf : Nat} {lb : Array Value} (hg : a.eval g = .func (.func gf) #[] lb) (hFg : F.fn gf) (eg : ∀ args w, (callFunc gf args).run P w = .ok (.enter gf args) w)
    {encs : α → Array Value} {M₀ : Nat → Prop} {S Sp : List α → Prop} {R : List α → α → Prop} (hseq : SeqM F (n - 1) P gf lb encs M₀ S Sp R w) (hM₀ : ∀ k, M₀ k → k < w.heap.size) (hps : ∀ x, (encs x).size = ps.size)
    (I : (Nat → Prop) → List α → World → Prop) (Ix : Code → (Nat → Prop) → List α → World → Prop) (hI : StandsB w.heap.size I) (hIx : ∀ c, StandsB w.heap.size (Ix c)) (h0 : I M₀ [] w) (Ax : α → Act → World → Prop) (hAx : ∀ x a', OwnFrom w.heap.size (fun (_ : Unit) W => Ax x a' W))
    (hassign : ∀ (l : Nat) (M : Nat → Prop) (pre : List α) (x : α) (W : World) (K : Act → World → Prop), I M pre W → (∀ a' W', KeepsFrom w.heap.size W W' → KeptM M W W' → I M pre W' → Ax x a' W' → K a' W') →
      assign.wpIn (F.inRound l) (n - 1 - 1) P (Exit.then K (fun _ _ _ => False)) { tmps := (ps.zip (encs x)).foldl (fun t (p, v) => t.setIfInBounds p v) a.tmps, defers := [] } W)
    (hbody : ∀ (l : Nat) (M : Nat → Prop) (pre : List α) (x : α) (a' : Act) (W : World), I M pre W → Ax x a' W → R pre x → body.wpIn (F.inRound l) (n - 1 - 1) P (roundPost w.heap.size M I Ix (pre ++ [x]) W) a' W)
    (hdone : ∀ (D : Nat) (M : Nat → Prop) (xs : List α) (W : World), w.heap.size ≤ D → S xs → I M xs W → W.heap[D]? = some (.deferred (some [])) → Q .normal { a with defers := { target := .collected D, args := #[] } :: a.defers } W)
    (hstop : ∀ (D : Nat) (c : Code) (M : Nat → Prop) (pre : List α) (W : World), w.heap.size ≤ D → Sp pre → Ix c M pre W → W.heap[D]? = some (.deferred (some [])) → c.wpIn F n P Q { a with defers := { target := .collected D, args := #[] } :: a.defers } W) :
    (Code.rangeFunc g ps assign body).wpIn F n P Q a w := by
  obtain ⟨D, hD⟩ : ∃ D, D = w.heap.size := ⟨_, rfl⟩
  refine wpIn_rangeFunc ?_
  intro fn hfn
  rw [hro]
  obtain ⟨rec, hrec⟩ : ∃ rec : LoopState → Option Code → Loop, rec = fun st pe => { state := st, pending := pe, fn, tmps := a.tmps, params := ps, assign, body, defers := D } := ⟨_, rfl⟩
  obtain ⟨V, hV⟩ : ∃ V, (w.alloc (.deferred (some []))).alloc (.loop (rec .ready none)) = V := ⟨_, rfl⟩
  have vL : V.heap[D + 1]? = some (.loop (rec .ready none)) := by
    rw [← hV, hD]; have := World.alloc_heap_new (w.alloc (.deferred (some []))) (.loop (rec .ready none)); rwa [World.size_alloc] at this
  have vD : V.heap[D]? = some (.deferred (some [])) := by
    rw [← hV, hD]; exact (Below.heap_alloc _ _ _ (by simp)).trans (World.alloc_heap_new w _)
  have vI : I M₀ [] V := by rw [← hV]; exact hI.alloc _ (hI.alloc _ h0)
  have vb : Below w.heap.size w V := by rw [← hV]; exact ((Below.refl _ w).alloc (Nat.le_refl _) _).alloc (by simp) _
  refine ⟨D + 1, [{ target := .collected D, args := #[] }], V, { target := .fn (.func gf) lb, args := #[.func (.yield (D + 1)) #[] #[]] }, V, gf, #[.func (.yield (D + 1)) #[] #[]] ++ lb, V, ?_, ?_, ?_, ?_, fun _ => h1, ?_⟩
  · rw [← hV, hrec, hD]; exact run_enterLoop_outer _ _ _ _ _
  · simp only [resolve, hg]
    simp [go_sem]
  · intro f' hf'; simp [Target.leads] at hf'; subst hf'; exact hFg
  · simp [invoke, go_sem, eg]
  rw [← hD] at hI hIx hAx hassign hbody hdone hstop hM₀
  -- the two blocks of the loop's own: its record and what is deferred; neither is the iterator's
  let Two : Option Code → LoopState → (Nat → Prop) → World → Prop := fun c st M W => W.heap[D + 1]? = some (.loop (rec st c)) ∧ W.heap[D]? = some (.deferred (some [])) ∧ ¬ M D ∧ ¬ M (D + 1)
  have two_moves : ∀ c st M M' W W', Two c st M W → Moves M W W' → (∀ k, M' k → M k ∨ W.heap.size ≤ k ∧ k < W'.heap.size) → Two c st M' W' := fun c st M M' W W' ⟨t1, t2, t3, t4⟩ hm hM' => by
    have s1 := (Array.getElem?_eq_some_iff.1 t1).1
    have s2 := (Array.getElem?_eq_some_iff.1 t2).1
    refine ⟨(hm.block _ s1 t4).trans t1, (hm.block _ s2 t3).trans t2, fun h => ?_, fun h => ?_⟩ <;> rcases hM' _ h with h | h
    · exact t3 h
    · omega
    · exact t4 h
    · omega
  refine (hseq (D + 1) (fun M pre W => I M pre W ∧ Two none .ready M W) (fun M pre W => ∃ c, Ix c M pre W ∧ Two (some c) .done M W) V (.below vb)
    (fun M M' s W W' ⟨j1, j2⟩ hm hM' => ⟨hI.moves M M' s W W' j1 hm hM', two_moves _ _ M M' W W' j2 hm hM'⟩)
    (fun M M' s W W' ⟨c, j1, j2⟩ hm hM' => ⟨c, (hIx c).moves M M' s W W' j1 hm hM', two_moves _ _ M M' W W' j2 hm hM'⟩)
    ?_ ⟨vI, vL, vD, fun h => (Nat.lt_irrefl _ (hM₀ _ h)), fun h => by have := hM₀ _ h; omega⟩).mono ?_
  · rintro M pre x W ⟨hi, tl, td, m1, m2⟩ hlen
    have hy := run_yield (P := P) (args := encs x) tl (by rw [hrec]; exact hps x)
    rw [hrec] at hy
    refine ⟨fn, _, assign, body, hy, roundIn_of_wpIn hfn (hassign _ M pre x W _ hi ?_)⟩
    clear hy
    intro a' Wa ka pa ia ax
    have al := ka.same _ _ (by omega) tl rfl
    have ad := ka.same _ _ (Nat.le_refl _) td rfl
    have asz := (Array.getElem?_eq_some_iff.1 al).1
    refine ⟨_, run_beginRound al (by rw [hrec]), ?_⟩
    obtain ⟨Wb, hWb⟩ : ∃ Wb, Wa.putObj (D + 1) (.loop { rec .ready none with state := .busy }) = Wb := ⟨_, rfl⟩
    have bl : Wb.heap[D + 1]? = some (.loop { rec .ready none with state := .busy }) := by rw [← hWb]; exact World.putObj_heap_same asz
    have bd : Wb.heap[D]? = some (.deferred (some [])) := by rw [← hWb]; exact (World.putObj_heap_other (by omega)).trans ad
    have bk : KeptM M Wa Wb := by rw [← hWb]; exact keptM_putObj _ m2
    have bi : I M pre Wb := by rw [← hWb]; exact hI.putObj _ ia (by omega) al rfl
    have bx : Ax x a' Wb := by rw [← hWb]; exact (hAx x a').putObj (s := ()) _ ax (by omega) al rfl
    rw [hWb]
    refine wpIn_mono (hbody _ M pre x a' Wb bi bx hlen) ?_
    have fin : ∀ (j : Option Code) (W3 : World), KeepsFrom D Wb W3 →
        ∃ W4, (Instr.endRound (D + 1) j).run P W3 = .ok (.bool j.isNone) W4 ∧ Two j (if j.isNone then .ready else .done) M W4 ∧ KeptM M W3 W4 ∧ W4 = W3.putObj (D + 1) (.loop (rec (if j.isNone then .ready else .done) j)) ∧ W3.heap[D + 1]? = some (.loop { rec .ready none with state := .busy }) := fun j W3 k3 => by
      have l3 := k3.same _ _ (by omega) bl rfl
      have d3 := k3.same _ _ (Nat.le_refl _) bd rfl
      refine ⟨_, ?_, ⟨World.putObj_heap_same (Array.getElem?_eq_some_iff.1 l3).1, (World.putObj_heap_other (by omega)).trans d3, m1, m2⟩, keptM_putObj _ m2, rfl, l3⟩
      have := run_endRound (P := P) j l3
      rw [hrec] at this ⊢
      exact this
    rintro e a3 W3 hp
    cases e with
    | normal =>
      obtain ⟨k3, p3, i3⟩ := hp
      obtain ⟨W4, hr, h2, h3, h4, l3⟩ := fin none W3 k3
      exact ⟨_, _, hr, .inl ⟨rfl, ⟨by rw [h4]; exact hI.putObj _ i3 (by omega) l3 rfl, h2⟩, ((pa.trans bk).trans p3).trans h3⟩⟩
    | ret =>
      obtain ⟨k3, i3⟩ := hp
      obtain ⟨W4, hr, h2, _, h4, l3⟩ := fin (some .ret) W3 k3
      exact ⟨_, _, hr, .inr ⟨rfl, .ret, by rw [h4]; exact (hIx _).putObj _ i3 (by omega) l3 rfl, h2⟩⟩
    | exit id =>
      obtain ⟨k3, i3⟩ := hp
      obtain ⟨W4, hr, h2, _, h4, l3⟩ := fin (some (.exit id)) W3 k3
      exact ⟨_, _, hr, .inr ⟨rfl, .exit id, by rw [h4]; exact (hIx _).putObj _ i3 (by omega) l3 rfl, h2⟩⟩
    | goto t =>
      obtain ⟨k3, i3⟩ := hp
      obtain ⟨W4, hr, h2, _, h4, l3⟩ := fin (some (.goto t)) W3 k3
      exact ⟨_, _, hr, .inr ⟨rfl, .goto t, by rw [h4]; exact (hIx _).putObj _ i3 (by omega) l3 rfl, h2⟩⟩
    | panic ch => exact hp.elim
    | outgrown => exact hp.elim
  · rintro e W2 ⟨⟨v, rfl⟩, (⟨M, xs, hS, hi, tl, td, _, _⟩ | ⟨M, pre, hSp, c, hi, tl, td, _, _⟩)⟩
    · exact ⟨none, _, by have := run_endLoop (P := P) tl (by rw [hrec]; simp); rw [hrec] at this; exact this, hdone _ M xs _ (Nat.le_refl _) hS (hI.putObj _ hi (by omega) tl rfl) ((World.putObj_heap_other (by omega)).trans td)⟩
    · exact ⟨some c, _, by have := run_endLoop (P := P) tl (by rw [hrec]; simp); rw [hrec] at this; exact this, hstop _ c M pre _ (Nat.le_refl _) hSp ((hIx c).putObj _ hi (by omega) tl rfl) ((World.putObj_heap_other (by omega)).trans td)⟩
/-- An append that tells where the new row lies, inside a fence. -/
theorem wpListIn_append_lies (w : World) {ops : Array Oper} {rest : List Oper} {o : Oper} {a : Act} {Q : Exit → Act → World → Prop} (hgd : o.guard = none) (s x : Operand) (t : TypeId)
    (ho : o.op = .call { callee := .builtin .append, args := #[s, x], argTypes := #[t, t] })
    (base : Nat) (e : TypeId) (i : TypeInfo) (z : Value) (size bytes : Nat) (ht : P.underlying t = some (.slice e)) (hi : P.info? e = some i) (hz : i.zero = some z)
    (hsize : i.size = size) (hby : i.bytes = bytes) (hzs : z.cells.size = size) (hsz : 0 < size)
    (v : Value) (k : Nat) (xs : List Value) (hs : a.eval s = v) (hown : w.ownsRow base e size v k xs)
    (ad : Addr) (m c : Nat) (news : List Value) (hx : a.eval x = .slice (some ad) m c) (hl : news.length = m * size) (hnews : ∀ j u, news[j]? = some u → w.cell? (ad.add j) = some u) (h1 : ∀ u ∈ news, u.oneCell' = true)
    (hm : 0 < m) (h63 : k + m ≤ maxLen) (hbytes : (k + m) * bytes ≤ 140737488355328) (hbase : base ≤ w.heap.size) (H : Nat) (hH : w.heap.size = H)
    (h : ∀ g cap w', w'.ownsRow base e size (.slice (some ⟨g, 0, none⟩) (k + m) cap) (k + m) (xs ++ news) → w.grownBy w' v.ownBlock → (v.ownBlock = some g ∨ g = H) → g < w'.heap.size → wpListIn F n P ops Q rest (a.put o.dst (.slice (some ⟨g, 0, none⟩) (k + m) cap)) w') :
    wpListIn F n P ops Q (o :: rest) a w := by
  refine wpListIn_plain hgd fun K hK => ?_
  obtain ⟨g, cap, w', hr, h2, h3, h4, h5⟩ := run_append_lies (P := P) w t o.type base e i z size bytes ht hi hz hsize hby hzs hsz v k xs hown ad m c news hl hnews h1 hm h63 hbytes hbase H hH
  unfold Oper.wpIn
  refine ⟨?_, ?_⟩
  · simp [Oper.about, ho, resolve, Target.leads, Sem.run_pure]
  · rw [Oper.semAt_plain F _ _ (by rw [ho]; intro c hc'; cases hc')]
    simp [execOp, ho, resolve, invoke, builtin, hs, hx, hr, Result.andThen]
    exact hK _ _ (h g cap w' h2 h3 h4 h5)
end
end Go.Proofs.YtconcnndghmdfaaGreatDoor

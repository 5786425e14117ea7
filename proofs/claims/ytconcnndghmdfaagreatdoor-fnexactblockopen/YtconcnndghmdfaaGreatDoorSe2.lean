/- The walk over the model's l02Block: trial. -/
import Derived.Test.YtconcnndghmdfaaGreatDoorSe1
import Derived.BigRegion
import Derived.BigQuiet
import Derived.Deep.RegionHeld3
import Derived.Deep.AppendLies
import Derived.OwnWalk
namespace Go.Proofs.YtconcnndghmdfaaGreatDoor
open Go.RowKit
def byteAt (b : ByteArray) (j : Nat) : Nat := (b.data.getD j 0).toNat
def u32V (f : Nat → Nat) (j : Nat) : Value := .int .u32 (f j : Nat)
def i64V (f : Nat → Nat) (j : Nat) : Value := .int .i64 (f j : Nat)
theorem Tryz.infoU32 : (Tryz.prog.info? 176).map (fun i => (i.zero, i.size, i.bytes)) = some (some (.int .u32 0), 1, 4) := by kernel_rfl

theorem byteAt_eq (b : ByteArray) (j : Nat) (h : j < b.size) : b[j].toNat = byteAt b j := by
  unfold byteAt
  have h' : j < b.data.size := h
  rw [Array.getD_eq_getD_getElem?, Array.getElem?_eq_getElem h']
  rfl
theorem shl_small (x k c : Nat) (hx : x < 256) (hk : 2 ^ k = c) (hc : c ≤ 16777216) : ((x : Int) * (c : Int)) = ((shl32 x k : Nat) : Int) := by
  have h1 : x * c < 256 * 16777216 := Nat.lt_of_lt_of_le (Nat.mul_lt_mul_of_pos_right hx (by rw [← hk]; exact Nat.two_pow_pos k)) (Nat.mul_le_mul_left _ hc)
  unfold shl32
  rw [hk, Nat.mod_eq_of_lt (by omega)]
  simp
theorem word_eq (b : ByteArray) (k q0 q1 q2 q3 : Nat) (l0 : q0 < b.size) (l1 : q1 < b.size) (l2 : q2 < b.size) (l3 : q3 < b.size) (e0 : q0 = 4 * k) (e1 : q1 = q0 + 1) (e2 : q2 = q0 + 2) (e3 : q3 = q0 + 3) :
    bits .or .u32 (bits .or .u32 (bits .or .u32 (↑b[q0].toNat * 16777216) (↑b[q1].toNat * 65536)) (↑b[q2].toNat * 256)) ↑b[q3].toNat = ((word (byteAt b) k : Nat) : Int) := by
  have h0 := shl_small b[q0].toNat 24 16777216 b[q0].toNat_lt (by decide) (by decide)
  have h1 := shl_small b[q1].toNat 16 65536 b[q1].toNat_lt (by decide) (by decide)
  have h2 := shl_small b[q2].toNat 8 256 b[q2].toNat_lt (by decide) (by decide)
  have h0' : (b[q0].toNat : Int) * 16777216 = _ := h0
  have h1' : (b[q1].toNat : Int) * 65536 = _ := h1
  have h2' : (b[q2].toNat : Int) * 256 = _ := h2
  rw [h0', h1', h2', r_or, r_or, r_or, byteAt_eq b q0 l0, byteAt_eq b q1 l1, byteAt_eq b q2 l2, byteAt_eq b q3 l3]
  subst e1 e2 e3 e0
  rfl
theorem set_word {wr : World} {g E k : Nat} {f : Nat → Nat} {X : Nat} (h : wr.rowIs g E 64 (u32V f)) : (wr.setCell ⟨g, k, none⟩ (.int .u32 (X : Int))).drew.rowIs g E 64 (u32V fun j => if j = k then X else f j) := by
  refine ((h.set k (.int .u32 (X : Int))).congr ?_).drew
  intro i _
  simp only [u32V]
  split <;> rfl
theorem cell_u32 {wr : World} {g E n : Nat} {f : Nat → Nat} (h : wr.rowIs g E n (u32V f)) (q : Nat) (hq : q < n) : wr.cell? ⟨g, q, none⟩ = some (.int .u32 (f q : Nat)) := h.cell hq
theorem keep1 {wr : World} {g k q : Nat} {v x : Value} (d : q ≠ k) (c : wr.cell? ⟨g, q, none⟩ = some x) : (wr.setCell ⟨g, k, none⟩ v).drew.cell? ⟨g, q, none⟩ = some x := by
  have h : (wr.setCell ⟨g, k, none⟩ v).cell? ⟨g, q, none⟩ = wr.cell? ⟨g, q, none⟩ := World.cell?_setCell_other wr ⟨g, k, none⟩ ⟨g, q, none⟩ v (by intro e; injection e with _ e2; exact d e2.symm)
  exact h.trans c
theorem keep2 {wr : World} {g k q q' : Nat} {v x x' : Value} (d : q ≠ k) (d' : q' ≠ k) (c : wr.cell? ⟨g, q, none⟩ = some x) (c' : wr.cell? ⟨g, q', none⟩ = some x') :
    (wr.setCell ⟨g, k, none⟩ v).drew.cell? ⟨g, q, none⟩ = some x ∧ (wr.setCell ⟨g, k, none⟩ v).drew.cell? ⟨g, q', none⟩ = some x' := ⟨keep1 d c, keep1 d' c'⟩
theorem sched_eq (B : Nat → Nat) (k q2 q7 q15 q16 x2 x7 x15 x16 : Nat) (hk : ¬ k < 16) (he : q2 = k - 2 ∧ q7 = k - 7 ∧ q15 = k - 15 ∧ q16 = k - 16) (v2 : x2 = wd B q2) (v7 : x7 = wd B q7) (v15 : x15 = wd B q15) (v16 : x16 = wd B q16) :
    IntKind.u32.wrap (IntKind.u32.wrap (IntKind.u32.wrap (↑x16 + bits .xor .u32 (bits .xor .u32 ↑(turn32 x15 7) ↑(turn32 x15 18)) (↑x15 / 8)) + ↑x7) + bits .xor .u32 (bits .xor .u32 ↑(turn32 x2 17) ↑(turn32 x2 19)) (↑x2 / 1024)) = ((wd B k : Nat) : Int) := by
  have h3 : (x15 : Int) / 8 = ((shr32 x15 3 : Nat) : Int) := r_shr x15 3
  have h10 : (x2 : Int) / 1024 = ((shr32 x2 10 : Nat) : Int) := r_shr x2 10
  obtain ⟨e2, e7, e15, e16⟩ := he
  rw [h3, h10, r_xor, r_xor, r_xor, r_xor, r_add, r_add, r_add, wd_hi B k hk, v2, v7, v15, v16, e2, e7, e15, e16]
  rfl
theorem spec_keys' (w : World) :
    Calls Tryz.prog 129 #[] w fun e w' => ∃ g, e = .returned (.slice (some ⟨g, 0, none⟩) 64 64) ∧ w.heap.size ≤ g ∧ w'.rowIs g 176 64 keyV ∧ Below w.heap.size w w' :=
  (spec_keys w).mono fun _ _ ⟨h1, h2, h3⟩ => ⟨_, h1, Nat.le_refl _, h2, h3⟩
theorem below_dN {B : Nat} {a w : World} (h : Below B a w) (n : Nat) : Below B a (w.drewN n) := h.trans ⟨rfl, rfl, rfl, Nat.le_refl _, fun _ _ => rfl⟩
theorem tt1_eq (A B C D E F G H K X : Nat) :
    IntKind.u32.wrap (IntKind.u32.wrap (IntKind.u32.wrap (IntKind.u32.wrap (↑H + bits .xor .u32 (bits .xor .u32 ↑(turn32 E 6) ↑(turn32 E 11)) ↑(turn32 E 25)) + bits .xor .u32 (bits .and .u32 ↑E ↑F) (bits .and .u32 (bits .xor .u32 IntKind.u32.max ↑E) ↑G)) + ↑K) + ↑X) = ((tt1 ⟨A, B, C, D, E, F, G, H⟩ K X : Nat) : Int) := by
  rw [r_not, r_and, r_and, r_xor, r_xor, r_xor, r_add, r_add, r_add, r_add]
  rfl
theorem r_addm (a b : Nat) : ((a : Int) + (b : Int)) % 4294967296 = ((add32 a b : Nat) : Int) := by unfold add32; omega
theorem tt2_eq (A B C D E F G H T1 : Nat) :
    (↑T1 + (bits .xor .u32 (bits .xor .u32 ↑(turn32 A 2) ↑(turn32 A 13)) ↑(turn32 A 22) + bits .xor .u32 (bits .xor .u32 (bits .and .u32 ↑A ↑B) (bits .and .u32 ↑A ↑C)) (bits .and .u32 ↑B ↑C)) % 4294967296) % 4294967296 = ((add32 T1 (tt2 ⟨A, B, C, D, E, F, G, H⟩) : Nat) : Int) := by
  rw [r_and, r_and, r_and, r_xor, r_xor, r_xor, r_xor, r_addm, r_addm]
  rfl
theorem int_eq {k : IntKind} {a b : Int} (h : a = b) : Value.int k a = Value.int k b := by rw [h]
theorem rounds_step {Bf : Nat → Nat} {S : R8} {k A B C D E F G H K X T1 : Nat} (hR : rounds Bf S k = ⟨A, B, C, D, E, F, G, H⟩) (hK : K = shaKey k) (hX : X = wd Bf k) (hT : T1 = tt1 ⟨A, B, C, D, E, F, G, H⟩ K X) :
    rounds Bf S (k + 1) = ⟨add32 T1 (tt2 ⟨A, B, C, D, E, F, G, H⟩), A, B, C, add32 D T1, E, F, G⟩ := by
  show rnd (rounds Bf S k) (shaKey k) (wd Bf k) = _
  rw [hR, ← hK, ← hX, hT]; rfl
theorem Tryz.infoI64 : (Tryz.prog.info? 2).map (fun i => (i.zero, i.size, i.bytes)) = some (some (.int .i64 0), 1, 8) := by kernel_rfl
theorem r8_row (wr : World) (t A B C D E F G H : Nat) : (wr.alloc (.cells #[.int .u32 A, .int .u32 B, .int .u32 C, .int .u32 D, .int .u32 E, .int .u32 F, .int .u32 G, .int .u32 H] t)).rowIs wr.heap.size t 8 (u32V (R8.get ⟨A, B, C, D, E, F, G, H⟩)) := by
  refine World.rowIs_alloc wr _ _ _ ?_
  intro i hi
  have hi8 : i < 8 := hi
  match i, hi8 with
  | 0, _ => rfl
  | 1, _ => rfl
  | 2, _ => rfl
  | 3, _ => rfl
  | 4, _ => rfl
  | 5, _ => rfl
  | 6, _ => rfl
  | 7, _ => rfl
def i64c (n : Nat) : Value := .int .i64 (n : Int)
theorem own_ints {w : World} {base e : Nat} {v : Value} {l : List Nat} {F : Nat → Nat} (h : w.ownsRow base e 1 v l.length (l.map i64c)) (hl : l.length = 8) (hL : l = (List.range l.length).map F) :
    ∃ g cap, v = .slice (some ⟨g, 0, none⟩) 8 cap ∧ base ≤ g ∧ g < w.heap.size ∧ ∀ j, j < 8 → w.cell? ⟨g, j, none⟩ = some (.int .i64 (F j : Nat)) := by
  have h0 := h
  obtain ⟨_, ⟨_, hn⟩ | ⟨g, cap, cur, rfl, hg, _⟩⟩ := h
  · omega
  · refine ⟨g, cap, by rw [hl], hg, (h0.lt g rfl).2, fun j hj => ?_⟩
    have := h0.cellAt j (by omega)
    rw [this]
    have e : l[j]? = some (F j) := by rw [hL, hl]; simp [hj]
    simp [e, i64c]
theorem push_int {w : World} {base e : Nat} {v : Value} {l : List Nat} {X : Int} {Y : Nat} (h : w.ownsRow base e 1 v (l.length + 1) (l.map i64c ++ [.int .i64 X])) (hX : X = (Y : Int)) : w.ownsRow base e 1 v (l ++ [Y]).length ((l ++ [Y]).map i64c) := by
  subst hX; simpa [i64c] using h
theorem push_list {l : List Nat} {F : Nat → Nat} {Y : Nat} (h : l = (List.range l.length).map F) (hY : Y = F l.length) : l ++ [Y] = (List.range (l ++ [Y]).length).map F := by
  rw [List.length_append, List.length_singleton, List.range_succ, List.map_append, ← h, hY]; rfl
theorem ext_word {k : Nat} {f F : Nat → Nat} {X : Nat} (h : ∀ j, j < k → f j = F j) (hX : X = F k) : ∀ j, j < k + 1 → (if j = k then X else f j) = F j := by
  intro j hj
  split
  · subst_vars; rfl
  · exact h j (by omega)

set_option maxRecDepth 100000 in
set_option maxHeartbeats 1600000 in
theorem spec_block (gs cap : Nat) (st : Nat → Nat) (b : ByteArray) (w : World) (hst : ∀ j, st j < 4294967296) (hb : b.size = 64) (hgs : gs < w.heap.size) (hrow : ∀ j, j < 8 → w.cell? ⟨gs, j, none⟩ = some (.int .i64 (st j : Nat))) :
    Calls Tryz.prog 97 #[.slice (some ⟨gs, 0, none⟩) 8 cap, .string b] w fun e w' => ∃ g c, e = .returned (.slice (some ⟨g, 0, none⟩) 8 c) ∧ w.heap.size ≤ g ∧ g < w'.heap.size ∧ (∀ j, j < 8 → w'.cell? ⟨g, j, none⟩ = some (.int .i64 (blockF (byteAt b) st j : Nat))) ∧ Below w.heap.size w w' := by
  have hmk : ∀ w : World, (Instr.makeSlice 175 (.int .i64 64) (.int .i64 64)).run Tryz.prog w = .ok (.slice (some ⟨w.heap.size, 0, none⟩) 64 64) (w.alloc (.cells (madeCells #[.int .u32 0] 64) 176)) := run_make_row' (P := Tryz.prog) 175 176 (.int .u32 0) 4 (by kernel_rfl) Tryz.infoU32 rfl .i64 .i64 64 (by omega) (by omega)
  have HR := hide hrow
  clear hrow
  go_enter Tryz.func97, Tryz.ntmps97
  go_wp2_with fail
  clear hmk
  go_loopw [6] (fun i wr => ∃ (k : Nat) (f : Nat → Nat), k ≤ 16 ∧ i = .int .i64 k ∧ Hid (∀ j, j < k → f j = word (byteAt b) j) ∧ wr.rowIs w.heap.size 176 64 (u32V f) ∧ Below w.heap.size w wr) (fun i _ => 16 - (intOf i).toNat)
  case atStart => exact ⟨0, fun _ => 0, by omega, rfl, fun j hj => by omega, World.rowIs_made _ _ _ _, (Below.refl _ _).alloc (Nat.le_refl _) _⟩
  case round =>
    obtain ⟨k, f, hk, rfl, hf, hrw, hbl⟩ := hrel
    by_cases hlt : k < 16
    · have hc := hrw.cell (i := k) (by omega)
      have hfz := hrw.frozen k
      obtain ⟨q0, e0⟩ : ∃ q, q = 4 * k := ⟨_, rfl⟩
      obtain ⟨q1, e1⟩ : ∃ q, q = q0 + 1 := ⟨_, rfl⟩
      obtain ⟨q2, e2⟩ : ∃ q, q = q0 + 2 := ⟨_, rfl⟩
      obtain ⟨q3, e3⟩ : ∃ q, q = q0 + 3 := ⟨_, rfl⟩
      have m0 : IntKind.i64.wrap (4 * (k : Int)) = (q0 : Int) := by simp only [IntKind.wrap_i64]; omega
      have m1 : IntKind.i64.wrap ((q0 : Int) + 1) = (q1 : Int) := by simp only [IntKind.wrap_i64]; omega
      have m2 : IntKind.i64.wrap ((q0 : Int) + 2) = (q2 : Int) := by simp only [IntKind.wrap_i64]; omega
      have m3 : IntKind.i64.wrap ((q0 : Int) + 3) = (q3 : Int) := by simp only [IntKind.wrap_i64]; omega
      have l0 : q0 < b.size := by omega
      have l1 : q1 < b.size := by omega
      have l2 : q2 < b.size := by omega
      have l3 : q3 < b.size := by omega
      have b0 : (b[q0].toNat : Int) ≤ 255 := by have := b[q0].toNat_lt; omega
      have b1 : (b[q1].toNat : Int) ≤ 255 := by have := b[q1].toNat_lt; omega
      have b2 : (b[q2].toNat : Int) ≤ 255 := by have := b[q2].toNat_lt; omega
      have b3 : (b[q3].toNat : Int) ≤ 255 := by have := b[q3].toNat_lt; omega
      have n0 : (q0 : Int) < 64 := by omega
      have n1 : (q1 : Int) < 64 := by omega
      have n2 : (q2 : Int) < 64 := by omega
      have n3 : (q3 : Int) < 64 := by omega
      have E0 := hide e0
      have E1 := hide e1
      have E2 := hide e2
      have E3 := hide e3
      clear e0 e1 e2 e3
      go_wp2_with fail
      go_region
      have hw := word_eq b k q0 q1 q2 q3 l0 l1 l2 l3 E0.out E1.out E2.out E3.out
      simp only [hw]
      clear hw
      obtain ⟨X, hX⟩ : ∃ X, X = word (byteAt b) k := ⟨_, rfl⟩
      simp only [← hX]
      have HX := hide hX
      clear hX m0 m1 m2 m3 b0 b1 b2 b3 E0 E1 E2 E3
      go_wp2_with fail
      go_round
      case rel => exact ⟨k + 1, fun j => if j = k then X else f j, by omega, by go_num, ext_word hf.out HX.out, set_word hrw, (hbl.setCell (Nat.le_refl _) _).drew⟩
      case measure => simp [intOf]; omega
    · have hf2 : Hid (∀ j, j < 16 → f j = wd (byteAt b) j) := fun j hj => (hf.out j (by omega)).trans (wd_lo _ _ hj).symm
      go_wp2_with fail
      clear hf hk hlt
      go_loopw [7] (fun i wx => ∃ (k : Nat) (f : Nat → Nat), 16 ≤ k ∧ k ≤ 64 ∧ i = .int .i64 k ∧ Hid (∀ j, j < k → f j = wd (byteAt b) j) ∧ wx.rowIs w.heap.size 176 64 (u32V f) ∧ Below w.heap.size w wx) (fun i _ => 64 - (intOf i).toNat)
      case atStart => exact ⟨16, f, by omega, by omega, rfl, hf2, hrw, hbl⟩
      case round =>
        clear hf2 hrw hbl
        obtain ⟨k, f, hk0, hk, rfl, hf, hrw, hbl⟩ := hrel
        by_cases hlt : k < 64
        · obtain ⟨q2, e2⟩ : ∃ q, q = k - 2 := ⟨_, rfl⟩
          obtain ⟨q7, e7⟩ : ∃ q, q = k - 7 := ⟨_, rfl⟩
          obtain ⟨q15, e15⟩ : ∃ q, q = k - 15 := ⟨_, rfl⟩
          obtain ⟨q16, e16⟩ : ∃ q, q = k - 16 := ⟨_, rfl⟩
          have m2 : IntKind.i64.wrap ((k : Int) - 2) = (q2 : Int) := by simp only [IntKind.wrap_i64]; omega
          have m7 : IntKind.i64.wrap ((k : Int) - 7) = (q7 : Int) := by simp only [IntKind.wrap_i64]; omega
          have m15 : IntKind.i64.wrap ((k : Int) - 15) = (q15 : Int) := by simp only [IntKind.wrap_i64]; omega
          have m16 : IntKind.i64.wrap ((k : Int) - 16) = (q16 : Int) := by simp only [IntKind.wrap_i64]; omega
          have c2 := cell_u32 hrw q2 (by omega)
          have c7 := cell_u32 hrw q7 (by omega)
          have c15 := cell_u32 hrw q15 (by omega)
          have c16 := cell_u32 hrw q16 (by omega)
          have ck := cell_u32 hrw k hlt
          have hfz := hrw.frozen k
          have d7 : q7 ≠ k := by omega
          have d16 : q16 ≠ k := by omega
          have n2 : (q2 : Int) < 64 := by omega
          have n7 : (q7 : Int) < 64 := by omega
          have n15 : (q15 : Int) < 64 := by omega
          have n16 : (q16 : Int) < 64 := by omega
          have v2 := hide (hf.out q2 (by omega))
          have v7 := hide (hf.out q7 (by omega))
          have v15 := hide (hf.out q15 (by omega))
          have v16 := hide (hf.out q16 (by omega))
          have HE := hide (show q2 = k - 2 ∧ q7 = k - 7 ∧ q15 = k - 15 ∧ q16 = k - 16 from ⟨e2, e7, e15, e16⟩)
          clear e2 e7 e15 e16
          generalize f q2 = x2 at *
          generalize f q7 = x7 at *
          generalize f q15 = x15 at *
          generalize f q16 = x16 at *
          go_wp2_with fail
          go_region_held3 (fun w' => w'.cell? ⟨w.heap.size, q7, none⟩ = some (.int .u32 x7) ∧ w'.cell? ⟨w.heap.size, q16, none⟩ = some (.int .u32 x16)) (first | exact keep2 d7 d16 c7 c16 | go_keep)
            (first | (go_at_call 128; refine (spec_turnK _ _ _ ?_ ?_).mono ?_; decide; decide; rintro e w' ⟨rfl, rfl⟩))
          have hw := sched_eq (byteAt b) k q2 q7 q15 q16 x2 x7 x15 x16 (by omega) HE.out v2.out v7.out v15.out v16.out
          rename_i _ hH
          clear hH
          simp only [hw]
          obtain ⟨X, hX⟩ : ∃ X, X = wd (byteAt b) k := ⟨_, rfl⟩
          simp only [← hX]
          have HX := hide hX
          clear hw hX m2 m7 m15 m16 c2 c7 c15 c16 v2 v7 v15 v16 d7 d16 n2 n7 n15 n16 HE ck hfz
          go_wp2_with fail
          go_round
          case rel => exact ⟨k + 1, fun j => if j = k then X else f j, by omega, by omega, by go_num, ext_word hf.out HX.out, set_word hrw, (hbl.setCell (Nat.le_refl _) _).drew⟩
          case measure => simp [intOf]; omega
        · --LOOP3
          have hf3 : Hid (∀ j, j < 64 → f j = wd (byteAt b) j) := fun j hj => hf.out j (by omega)
          obtain ⟨s0, es0⟩ : ∃ s, s = st 0 := ⟨_, rfl⟩
          have c0 : wr.cell? ⟨gs, 0, none⟩ = some (.int .i64 (s0 : Nat)) := by rw [es0]; exact (hbl.cell (p := ⟨gs, 0, none⟩) hgs).trans (HR.out _ (by omega))
          have b0 : (s0 : Int) ≤ 4294967295 := by have := hst 0; omega
          obtain ⟨s1, es1⟩ : ∃ s, s = st 1 := ⟨_, rfl⟩
          have c1 : wr.cell? ⟨gs, 1, none⟩ = some (.int .i64 (s1 : Nat)) := by rw [es1]; exact (hbl.cell (p := ⟨gs, 1, none⟩) hgs).trans (HR.out _ (by omega))
          have b1 : (s1 : Int) ≤ 4294967295 := by have := hst 1; omega
          obtain ⟨s2, es2⟩ : ∃ s, s = st 2 := ⟨_, rfl⟩
          have c2 : wr.cell? ⟨gs, 2, none⟩ = some (.int .i64 (s2 : Nat)) := by rw [es2]; exact (hbl.cell (p := ⟨gs, 2, none⟩) hgs).trans (HR.out _ (by omega))
          have b2 : (s2 : Int) ≤ 4294967295 := by have := hst 2; omega
          obtain ⟨s3, es3⟩ : ∃ s, s = st 3 := ⟨_, rfl⟩
          have c3 : wr.cell? ⟨gs, 3, none⟩ = some (.int .i64 (s3 : Nat)) := by rw [es3]; exact (hbl.cell (p := ⟨gs, 3, none⟩) hgs).trans (HR.out _ (by omega))
          have b3 : (s3 : Int) ≤ 4294967295 := by have := hst 3; omega
          obtain ⟨s4, es4⟩ : ∃ s, s = st 4 := ⟨_, rfl⟩
          have c4 : wr.cell? ⟨gs, 4, none⟩ = some (.int .i64 (s4 : Nat)) := by rw [es4]; exact (hbl.cell (p := ⟨gs, 4, none⟩) hgs).trans (HR.out _ (by omega))
          have b4 : (s4 : Int) ≤ 4294967295 := by have := hst 4; omega
          obtain ⟨s5, es5⟩ : ∃ s, s = st 5 := ⟨_, rfl⟩
          have c5 : wr.cell? ⟨gs, 5, none⟩ = some (.int .i64 (s5 : Nat)) := by rw [es5]; exact (hbl.cell (p := ⟨gs, 5, none⟩) hgs).trans (HR.out _ (by omega))
          have b5 : (s5 : Int) ≤ 4294967295 := by have := hst 5; omega
          obtain ⟨s6, es6⟩ : ∃ s, s = st 6 := ⟨_, rfl⟩
          have c6 : wr.cell? ⟨gs, 6, none⟩ = some (.int .i64 (s6 : Nat)) := by rw [es6]; exact (hbl.cell (p := ⟨gs, 6, none⟩) hgs).trans (HR.out _ (by omega))
          have b6 : (s6 : Int) ≤ 4294967295 := by have := hst 6; omega
          obtain ⟨s7, es7⟩ : ∃ s, s = st 7 := ⟨_, rfl⟩
          have c7 : wr.cell? ⟨gs, 7, none⟩ = some (.int .i64 (s7 : Nat)) := by rw [es7]; exact (hbl.cell (p := ⟨gs, 7, none⟩) hgs).trans (HR.out _ (by omega))
          have b7 : (s7 : Int) ≤ 4294967295 := by have := hst 7; omega
          have HS := hide (show R8.of st = ⟨s0, s1, s2, s3, s4, s5, s6, s7⟩ by rw [es0, es1, es2, es3, es4, es5, es6, es7]; rfl)
          clear es0 es1 es2 es3 es4 es5 es6 es7
          go_wp2_with fail
          clear hf hk hk0 hlt
          go_quiet (fail)
          go_wp2_with fail
          go_quiet (fail)
          go_wp2_with fail
          --STOP
          refine (spec_keys' _).mono ?_
          rintro e w1 ⟨gk, rfl, hgk, hkr, hb1⟩
          clear c0 c1 c2 c3 c4 c5 c6 c7
          have hlt1 := hrw.lt
          have hrw1 : w1.rowIs w.heap.size 176 64 (u32V f) := hrw.of_block (hb1.block _ hlt1)
          have hbl1 : Below w.heap.size w w1 := (below_dN hbl _).trans (hb1.mono hbl.size)
          have HG := hide (show w.heap.size < gk from Nat.lt_of_lt_of_le hlt1 hgk)
          clear hb1 hrw hbl hgk hlt1
          go_wp2_with fail
          go_loopw [10, 11, 12, 13, 14, 15, 16, 17, 19] (fun a b1 c d e f1 g h i wx => ∃ (k A B C D E F G H : Nat), k ≤ 64 ∧ i = .int .i64 k ∧ a = .int .u32 A ∧ b1 = .int .u32 B ∧ c = .int .u32 C ∧ d = .int .u32 D ∧ e = .int .u32 E ∧ f1 = .int .u32 F ∧ g = .int .u32 G ∧ h = .int .u32 H ∧ Hid (rounds (byteAt b) ⟨s0, s1, s2, s3, s4, s5, s6, s7⟩ k = ⟨A, B, C, D, E, F, G, H⟩) ∧ wx.rowIs w.heap.size 176 64 (u32V f) ∧ wx.rowIs gk 176 64 keyV ∧ Below w.heap.size w wx) (fun _ _ _ _ _ _ _ _ i _ => 64 - (intOf i).toNat)
          case atStart => exact ⟨0, s0, s1, s2, s3, s4, s5, s6, s7, by omega, rfl, rfl, rfl, rfl, rfl, rfl, rfl, rfl, rfl, rfl, hrw1, hkr, hbl1⟩
          case round =>
            clear hrw1 hkr hbl1 b0 b1 b2 b3 b4 b5 b6 b7
            obtain ⟨k, A, B, C, D, E, F, G, H, hk, rfl, rfl, rfl, rfl, rfl, rfl, rfl, rfl, rfl, hR, hrw, hkr, hbl⟩ := hrel
            by_cases hlt : k < 64
            · have ck : wr.cell? ⟨gk, k, none⟩ = some (.int .u32 (shaKey k : Nat)) := hkr.cell hlt
              have cw := cell_u32 hrw k hlt
              have vw := hide (hf3.out k hlt)
              obtain ⟨K, hK⟩ : ∃ K, K = shaKey k := ⟨_, rfl⟩
              rw [← hK] at ck
              have HK := hide hK
              clear hK
              generalize f k = X at *
              go_wp2_with fail
              go_region_held3 (fun w' => w'.cell? ⟨gk, k, none⟩ = some (.int .u32 K) ∧ w'.cell? ⟨w.heap.size, k, none⟩ = some (.int .u32 X)) (go_keep)
                (first | (go_at_call 128; refine (spec_turnK _ _ _ ?_ ?_).mono ?_; decide; decide; rintro e w' ⟨rfl, rfl⟩))
              rename_i _ hH
              clear hH
              have ht := tt1_eq A B C D E F G H K X
              simp only [ht]
              obtain ⟨T1, hT1⟩ : ∃ T, T = tt1 ⟨A, B, C, D, E, F, G, H⟩ K X := ⟨_, rfl⟩
              simp only [← hT1]
              have HT1 := hide hT1
              clear ht hT1
              go_wp2_with (first | (go_at_call 128; refine (spec_turnK _ _ _ ?_ ?_).mono ?_; decide; decide; rintro e w' ⟨rfl, rfl⟩))
              refine ⟨?rel, ?measure⟩
              case rel => exact ⟨k + 1, add32 T1 (tt2 ⟨A, B, C, D, E, F, G, H⟩), A, B, C, add32 D T1, E, F, G, by omega, by go_num, int_eq (tt2_eq A B C D E F G H T1), rfl, rfl, rfl, int_eq (r_addm D T1), rfl, rfl, rfl, rounds_step hR.out HK.out vw.out HT1.out, hrw.drew, hkr.drew, hbl.drew⟩
              case measure => simp [intOf]; omega
            · --LOOP4
              have hR64 := hide (show R8.mk A B C D E F G H = rounds (byteAt b) (R8.of st) 64 by
                rw [HS.out, ← hR.out]; congr 1; omega)
              clear hR hf3 hrw hkr HS
              go_wp2_with fail
              obtain ⟨i0, hi, hz0, hz1, hz2⟩ := info_parts Tryz.infoI64
              have hv0 := r8_row wr 176 A B C D E F G H
              have hblv : Below w.heap.size w (wr.alloc (.cells #[.int .u32 A, .int .u32 B, .int .u32 C, .int .u32 D, .int .u32 E, .int .u32 F, .int .u32 G, .int .u32 H] 176)) := hbl.alloc hbl.size _
              have hsz0 := hbl.size
              obtain ⟨wv, hwv⟩ : ∃ x, x = wr.alloc (.cells #[.int .u32 A, .int .u32 B, .int .u32 C, .int .u32 D, .int .u32 E, .int .u32 F, .int .u32 G, .int .u32 H] 176) := ⟨_, rfl⟩
              rw [← hwv] at hv0 hblv ⊢
              have hszv : wv.heap.size = wr.heap.size + 1 := by rw [hwv]; simp
              clear hwv hbl
              generalize wr.heap.size = N at *
              go_loopw [23, 24] (fun v i wx => ∃ (l : List Nat), l.length ≤ 8 ∧ i = .int .i64 l.length ∧ wx.ownsRow (N + 1) 2 1 v l.length (l.map i64c) ∧ Hid (l = (List.range l.length).map (blockF (byteAt b) st)) ∧ Below (N + 1) wv wx) (fun _ i _ => 8 - (intOf i).toNat)
              case atStart =>
                refine ⟨[], by simp, rfl, ?_, rfl, (Below.refl _ _).alloc (by omega) _⟩
                have h := World.ownsRow_made (e := 2) (size := 1) (base := N + 1) wv #[] 0 (by omega) (by decide) (by simp)
                rw [hszv] at h
                simpa using h
              case round =>
                obtain ⟨l, hl8, rfl, hown, hL, hb4⟩ := hrel
                by_cases hlt : l.length < 8
                · have hblw : Below w.heap.size w wr := hblv.trans (hb4.mono (by omega))
                  have cs : wr.cell? ⟨gs, l.length, none⟩ = some (.int .i64 (st l.length : Nat)) := (hblw.cell (p := ⟨gs, l.length, none⟩) hgs).trans (HR.out _ hlt)
                  have cv : wr.cell? ⟨N, l.length, none⟩ = some (.int .u32 (R8.get ⟨A, B, C, D, E, F, G, H⟩ l.length : Nat)) := (hb4.cell (p := ⟨N, l.length, none⟩) (Nat.lt_succ_self N)).trans (hv0.cell hlt)
                  obtain ⟨S, hS⟩ : ∃ S, S = st l.length := ⟨_, rfl⟩
                  obtain ⟨V, hV⟩ : ∃ V, V = R8.get ⟨A, B, C, D, E, F, G, H⟩ l.length := ⟨_, rfl⟩
                  obtain ⟨Y, hY⟩ : ∃ Y, Y = add32 S V := ⟨_, rfl⟩
                  have bS : (S : Int) ≤ 4294967295 := by have := hst l.length; omega
                  have bY : (Y : Int) ≤ 4294967295 := by have := lt_add S V; omega
                  have HZ := hide (show IntKind.i64.wrap (IntKind.u32.wrap (IntKind.u32.wrap (S : Int) + (V : Int))) = (Y : Int) by
                    have e1 : IntKind.u32.wrap (S : Int) = (S : Int) := by rw [IntKind.wrap_u32]; omega
                    rw [e1, r_add, ← hY, IntKind.wrap_i64]; omega)
                  rw [← hS] at cs
                  rw [← hV] at cv
                  have HY := hide (show Y = blockF (byteAt b) st l.length by rw [hY, hS, hV, hR64.out]; rfl)
                  have ag : u23.ownBlock ≠ some gs := fun e => by have := (hown.lt gs e).1; omega
                  have av : u23.ownBlock ≠ some N := fun e => by have := (hown.lt N e).1; omega
                  have hs4 := hb4.size
                  clear hS hV hY hblw
                  go_wp2_with fail
                  go_region_held3 (fun w' => w'.cell? ⟨gs, l.length, none⟩ = some (.int .i64 S) ∧ w'.cell? ⟨N, l.length, none⟩ = some (.int .u32 V))
                    (first | exact ⟨(hgrow.cell_far _ (by simp; omega) (Ne.symm ag)).trans ((World.cell?_alloc_past _ _ _ (by show gs < _; omega)).trans cs), (hgrow.cell_far _ (by simp; omega) (Ne.symm av)).trans ((World.cell?_alloc_past _ _ _ (by show N < _; omega)).trans cv)⟩ | go_keep)
                    ((refine step_append_lies _ (by rfl) _ _ _ (by rfl) (N + 1) 2 i0 _ 1 8 Tryz.underlying48 hi hz0 hz1 hz2 rfl (by omega) u23 l.length (l.map i64c) (by rfl) ((hown.alloc _).drew) ⟨wr.heap.size, 0, none⟩ 1 1 [.int .i64 (IntKind.i64.wrap (IntKind.u32.wrap (IntKind.u32.wrap (S : Int) + (V : Int))))] (by rfl) (by rfl) (World.news_of_block (cs := #[.int .i64 (IntKind.i64.wrap (IntKind.u32.wrap (IntKind.u32.wrap (S : Int) + (V : Int))))]) (t := 2) (fr := (0, 0)) (heap_alloc_new wr _)) (by simp [Value.oneCell']) (by omega) (by unfold maxLen; omega) (by omega) (by simp; omega) (wr.heap.size + 1) (by simp) ?_; intro gg cc w1 hown1 hgrow hat hlt1))
                  rename_i _ hH
                  have R1 := push_int hown1 HZ.out
                  have R2 : Below (N + 1) wv w1 := ((hb4.alloc (by omega) _).drew).grown hgrow (by simp; omega) (fun k hk => (hown.lt k hk).1)
                  have R3 := hide (push_list hL.out HY.out)
                  clear hH hown hown1 hgrow hat hlt1 HZ HY hL cs cv ag av hb4 hs4 bS bY
                  go_wp2_with fail
                  go_round
                  case rel => exact ⟨l ++ [Y], by simp; omega, by simp, R1, R3, R2⟩
                  case measure => simp [intOf]; omega
                · go_wp2_with fail
                  go_ret
                  obtain ⟨g, c, hv, hg1, hg2, hcs⟩ := own_ints hown (by omega) hL.out
                  exact ⟨g, c, by rw [← hv]; rfl, by omega, hg2, hcs, hblv.trans (hb4.mono (by omega))⟩
end Go.Proofs.YtconcnndghmdfaaGreatDoor

/- The walk over the program's schedule. -/
import Derived.Test.YtconcnndghmdfaaGreatDoorSa23
import Derived.Test.YtconcnndghmdfaaGreatDoorSa2
namespace Go.Proofs.YtconcnndghmdfaaGreatDoor
open Go.RowKit
theorem mod_or (a b k : Nat) : (a ||| b) % 2 ^ k = (a % 2 ^ k) ||| (b % 2 ^ k) := Nat.or_mod_two_pow
theorem shl_or (a b k : Nat) : shl32 (or32 a b) k = or32 (shl32 a k) (shl32 b k) := by
  have h (x : Nat) : (x % 4294967296 * 2 ^ k) % 4294967296 = x * 2 ^ k % 4294967296 := Nat.mod_mul_mod _ _ _
  unfold shl32 or32
  rw [← Nat.shiftLeft_eq, Nat.shiftLeft_or_distrib, Nat.shiftLeft_eq, Nat.shiftLeft_eq, show (4294967296 : Nat) = 2 ^ 32 from rfl, mod_or, Nat.mod_mod, Nat.mod_mod]
  rw [show (2 : Nat) ^ 32 = 4294967296 from rfl, h, h]
theorem shl_shl (a j k : Nat) : shl32 (shl32 a j) k = shl32 a (j + k) := by
  unfold shl32; rw [Nat.mod_mul_mod, Nat.pow_add, Nat.mul_assoc]
theorem or_mod (a b : Nat) : or32 a (b % 4294967296) = or32 a b := by unfold or32; rw [Nat.mod_mod]
/-- What a word holds when j of its four bytes are in. -/
def part (B : Nat → Nat) (i : Nat) : Nat → Nat
  | 0 => 0
  | j + 1 => or32 (shl32 (part B i j) 8) (B (4 * i + j))
theorem part_lt (B : Nat → Nat) (i : Nat) : ∀ j, part B i j < 4294967296
  | 0 => Nat.zero_lt_succ _
  | _ + 1 => lt_or _ _
theorem part_four (B : Nat → Nat) (i : Nat) : part B i 4 = word B i := by
  show or32 (shl32 (or32 (shl32 (or32 (shl32 (or32 (shl32 0 8) (B (4 * i + 0))) 8) (B (4 * i + 1))) 8) (B (4 * i + 2))) 8) (B (4 * i + 3)) = _
  have z : shl32 0 8 = 0 := by decide
  have o (x : Nat) : or32 0 x = x % 4294967296 := by unfold or32; simp
  have m (x : Nat) : shl32 (x % 4294967296) 8 = shl32 x 8 := by unfold shl32; rw [Nat.mod_mul_mod]
  rw [z, o, m, shl_or, shl_or, shl_or, shl_shl, shl_shl, shl_shl]
  rfl
theorem alloc_size (w : World) (o : Obj) : (w.alloc o).heap.size = w.heap.size + 1 := by simp
theorem zeros_row (w : World) (c : Array Value) (t : Nat) (hc : c = (List.replicate 64 (Value.int .u32 0)).toArray) : (w.alloc (.cells c t)).rowIs w.heap.size t 64 (u32V fun _ => 0) := by
  subst hc
  refine World.rowIs_alloc w _ _ _ ?_
  intro i hi
  have : i < 64 := by simpa using hi
  rw [List.getElem?_toArray, List.getElem?_replicate, if_pos this]; rfl
theorem set_word' {wr : World} {g E k : Nat} {f : Nat → Nat} {X : Nat} (h : wr.rowIs g E 64 (u32V f)) : (wr.setCell ⟨g, k, none⟩ (.int .u32 (X : Int))).rowIs g E 64 (u32V fun j => if j = k then X else f j) := by
  refine ((h.set k (.int .u32 (X : Int))).congr ?_)
  intro i _
  simp only [u32V]
  split <;> rfl
theorem part_step {B : Nat → Nat} {i j X b : Nat} (hX : X = part B i j) (hb : b = B (4 * i + j)) : bits .or .u32 ((X : Int) * 256 % 4294967296) (b : Int) = ((part B i (j + 1) : Nat) : Int) := by
  have e : ((X : Int) * 256 % 4294967296) = ((shl32 X 8 : Nat) : Int) := by unfold shl32; simp
  rw [e, r_or, hX, hb]; rfl
theorem sched_val (B : Nat → Nat) (k q2 q7 q15 q16 x2 x7 x15 x16 : Nat) (hk : ¬ k < 16) (he : q2 = k - 2 ∧ q7 = k - 7 ∧ q15 = k - 15 ∧ q16 = k - 16) (v2 : x2 = wd B q2) (v7 : x7 = wd B q7) (v15 : x15 = wd B q15) (v16 : x16 = wd B q16) :
    ((x16 : Int) + ((sig0 x15 : Nat) : Int) + (x7 : Int) + ((sig1 x2 : Nat) : Int)) % 4294967296 = ((wd B k : Nat) : Int) := by
  obtain ⟨e2, e7, e15, e16⟩ := he
  rw [wd_hi B k hk, ← e2, ← e7, ← e15, ← e16, ← v2, ← v7, ← v15, ← v16]
  unfold add32
  omega
theorem below_setRow {B : Nat} {a w : World} (h : Below B a w) (g : Nat) (cs : Array Value) (hg : B ≤ g) : Below B a (w.setRow g cs) :=
  h.trans ⟨rfl, rfl, rfl, by simp, fun b hb => setRow_other w g b cs (by omega)⟩
theorem Tryz.size64 : (Tryz.prog.info? 235).map (·.size) = some 64 := by kernel_rfl
set_option maxRecDepth 100000 in
set_option maxHeartbeats 1600000 in
theorem sched (r o c : Nat) (B : Nat → Nat) (w : World) (hr : r < w.heap.size) (hB : ∀ j, j < 64 → B j < 256 ∧ w.cell? ⟨r, o + j, none⟩ = some (.int .u8 (B j : Nat))) :
    Calls Tryz.prog 160 #[.slice (some ⟨r, o, none⟩) 64 c] w fun e w' => ∃ cs, e = .returned (.agg cs) ∧ cs.size = 64 ∧ (∀ i, i < 64 → cs[i]? = some (.int .u32 (wd B i : Nat))) ∧ Below w.heap.size w w' := by
  have HB := hide hB
  clear hB
  go_enter Tryz.func160, Tryz.ntmps160
  go_wp2_with fail
  go_loopw [9] (fun i wr => ∃ (k : Nat) (f : Nat → Nat), k ≤ 16 ∧ i = .int .i64 k ∧ Hid (∀ j, j < 64 → f j = if j < k then word B j else 0) ∧ wr.rowIs w.heap.size 235 64 (u32V fun _ => 0) ∧ wr.rowIs (w.heap.size + 1) 235 64 (u32V f) ∧ Below w.heap.size w wr) (fun i _ => 16 - (intOf i).toNat)
  case atStart =>
    refine ⟨0, fun _ => 0, by omega, rfl, fun j hj => by simp, (zeros_row w _ _ rfl).alloc _, ?_, ((Below.refl _ _).alloc (Nat.le_refl _) _).alloc (by simp) _⟩
    have h := zeros_row (w.alloc (.cells (List.replicate 64 (Value.int .u32 0)).toArray 235)) (List.replicate 64 (Value.int .u32 0)).toArray 235 rfl
    simp only [alloc_size] at h
    exact h
  case round =>
    obtain ⟨k, f, hk, rfl, hf, hres, hrw, hbl⟩ := hrel
    by_cases hlt : k < 16
    · go_wp2_with fail
      go_loopw [12] (fun i wx => ∃ (m : Nat) (f : Nat → Nat), m ≤ 4 ∧ i = .int .i64 m ∧ Hid (∀ j, j < 64 → f j = if j < k then word B j else if j = k then part B k m else 0) ∧ wx.rowIs w.heap.size 235 64 (u32V fun _ => 0) ∧ wx.rowIs (w.heap.size + 1) 235 64 (u32V f) ∧ Below w.heap.size w wx) (fun i _ => 4 - (intOf i).toNat)
      case atStart => exact ⟨0, f, by omega, rfl, fun j hj => by rw [hf.out j hj]; split; rfl; split <;> rfl, hres, hrw, hbl⟩
      case round =>
        clear hf hres hrw hbl
        obtain ⟨m, f, hm, rfl, hf, hres, hrw, hbl⟩ := hrel
        by_cases hlt4 : m < 4
        · have ck := cell_u32 hrw k (by omega)
          have hfz := hrw.frozen k
          obtain ⟨q, e⟩ : ∃ q, q = 4 * k + m := ⟨_, rfl⟩
          obtain ⟨q0, e0⟩ : ∃ q, q = 4 * k := ⟨_, rfl⟩
          have m0 : IntKind.i64.wrap (4 * (k : Int)) = (q0 : Int) := by simp only [IntKind.wrap_i64]; omega
          have m1 : IntKind.i64.wrap ((q0 : Int) + (m : Int)) = (q : Int) := by simp only [IntKind.wrap_i64]; omega
          have nq : (q : Int) < 64 := by omega
          have hBq := HB.out q (by omega)
          have cb : wr.cell? ⟨r, o + q, none⟩ = some (.int .u8 (B q : Nat)) := (hbl.cell (p := ⟨r, o + q, none⟩) hr).trans hBq.2
          have bq : (B q : Int) ≤ 255 := by have := hBq.1; omega
          have hX := hide (show f k = part B k m by rw [hf.out k (by omega), if_neg (by omega), if_pos rfl])
          have hbq := hide (show B q = B (4 * k + m) by rw [e])
          clear e e0 hBq
          generalize B q = bb at *
          generalize f k = X at *
          go_wp2_with fail
          go_region
          have hp := part_step hX.out hbq.out
          simp only [hp]
          obtain ⟨Y, hY⟩ : ∃ Y, Y = part B k (m + 1) := ⟨_, rfl⟩
          simp only [← hY]
          have HY := hide hY
          clear hp hY m0 m1 bq cb ck hbq hX
          go_wp2_with fail
          go_roundw
          case rel =>
            refine ⟨m + 1, fun j => if j = k then Y else f j, by omega, by go_num, fun j hj => ?_, hres.setOther (by simp) _, set_word' hrw, (hbl.setCell (by simp) _).drew⟩
            show (if j = k then Y else f j) = _
            by_cases e : j = k
            · rw [if_pos e, if_neg (by omega), if_pos e, HY.out]
            · rw [if_neg e, hf.out j hj, if_neg e, if_neg e]
          case measure => simp [intOf]; omega
        · go_wp2_with fail
          go_roundw
          case rel =>
            refine ⟨k + 1, f, by omega, by go_num, fun j hj => ?_, hres, hrw, hbl⟩
            rw [hf.out j hj]
            by_cases e : j < k
            · rw [if_pos e, if_pos (by omega)]
            · by_cases e2 : j = k
              · rw [if_neg e, if_pos e2, if_pos (by omega), show m = 4 by omega, part_four, e2]
              · rw [if_neg e, if_neg e2, if_neg (by omega)]
          case measure => simp [intOf]; omega
    · have hf2 : Hid (∀ j, j < 16 → f j = wd B j) := fun j hj => by rw [hf.out j (by omega), if_pos (by omega), wd_lo _ _ hj]
      go_wp2_with fail
      clear hf
      go_loopw [6] (fun i wx => ∃ (k : Nat) (f : Nat → Nat), 16 ≤ k ∧ k ≤ 64 ∧ i = .int .i64 k ∧ Hid (∀ j, j < k → f j = wd B j) ∧ wx.rowIs w.heap.size 235 64 (u32V fun _ => 0) ∧ wx.rowIs (w.heap.size + 1) 235 64 (u32V f) ∧ Below w.heap.size w wx) (fun i _ => 64 - (intOf i).toNat)
      case atStart => exact ⟨16, f, by omega, by omega, rfl, hf2, hres, hrw, hbl⟩
      case round =>
        clear hf2 hres hrw hbl
        obtain ⟨k, f, hk0, hk, rfl, hf, hres, hrw, hbl⟩ := hrel
        by_cases hlt : k < 64
        · obtain ⟨q2, e2⟩ : ∃ q, q = k - 2 := ⟨_, rfl⟩
          obtain ⟨q7, e7⟩ : ∃ q, q = k - 7 := ⟨_, rfl⟩
          obtain ⟨q15, e15⟩ : ∃ q, q = k - 15 := ⟨_, rfl⟩
          obtain ⟨q16, e16⟩ : ∃ q, q = k - 16 := ⟨_, rfl⟩
          have m2 : IntKind.i64.wrap ((k : Int) - 2) = (q2 : Int) := by simp only [IntKind.wrap_i64]; omega
          have m7 : IntKind.i64.wrap ((k : Int) - 7) = (q7 : Int) := by simp only [IntKind.wrap_i64]; omega
          have m15 : IntKind.i64.wrap ((k : Int) - 15) = (q15 : Int) := by simp only [IntKind.wrap_i64]; omega
          have m16 : IntKind.i64.wrap ((k : Int) - 16) = (q16 : Int) := by simp only [IntKind.wrap_i64]; omega
          have c2 := cell_u32 hrw q2 (by omega)
          have c7 := cell_u32 hrw q7 (by omega)
          have c15 := cell_u32 hrw q15 (by omega)
          have c16 := cell_u32 hrw q16 (by omega)
          have ck := cell_u32 hrw k hlt
          have hfz := hrw.frozen k
          have d7 : q7 ≠ k := by omega
          have d16 : q16 ≠ k := by omega
          have n2 : (q2 : Int) < 64 := by omega
          have n7 : (q7 : Int) < 64 := by omega
          have n15 : (q15 : Int) < 64 := by omega
          have n16 : (q16 : Int) < 64 := by omega
          have v2 := hide (hf.out q2 (by omega))
          have v7 := hide (hf.out q7 (by omega))
          have v15 := hide (hf.out q15 (by omega))
          have v16 := hide (hf.out q16 (by omega))
          have HE := hide (show q2 = k - 2 ∧ q7 = k - 7 ∧ q15 = k - 15 ∧ q16 = k - 16 from ⟨e2, e7, e15, e16⟩)
          clear e2 e7 e15 e16
          generalize f q2 = x2 at *
          generalize f q7 = x7 at *
          generalize f q15 = x15 at *
          generalize f q16 = x16 at *
          go_wp2_with fail
          go_region_held3 (fun w' => w'.cell? ⟨w.heap.size + 1, q15, none⟩ = some (.int .u32 x15)) (go_keep)
            (first | (go_at_call 164; refine (twice _ _ _ _ ?_ ?_ ?_ ?_).mono ?_; decide; decide; decide; decide; rintro e w' ⟨rfl, rfl⟩))
          rename_i _ hH
          clear hH
          have hs0 : bits .xor .u32 (↑(xor32 (turn32 x15 7) (turn32 x15 18))) ((x15 : Int) / 8) = ((sig0 x15 : Nat) : Int) := by
            have h3 : (x15 : Int) / 8 = ((shr32 x15 3 : Nat) : Int) := r_shr x15 3
            rw [h3, r_xor]; rfl
          simp only [hs0]
          clear hs0
          go_wp2_with fail
          go_region_held3 (fun w' => w'.cell? ⟨w.heap.size + 1, q2, none⟩ = some (.int .u32 x2)) (go_keep)
            (first | (go_at_call 164; refine (twice _ _ _ _ ?_ ?_ ?_ ?_).mono ?_; decide; decide; decide; decide; rintro e w' ⟨rfl, rfl⟩))
          rename_i _ hH
          clear hH
          have hs1 : bits .xor .u32 (↑(xor32 (turn32 x2 17) (turn32 x2 19))) ((x2 : Int) / 1024) = ((sig1 x2 : Nat) : Int) := by
            have h3 : (x2 : Int) / 1024 = ((shr32 x2 10 : Nat) : Int) := r_shr x2 10
            rw [h3, r_xor]; rfl
          simp only [hs1]
          clear hs1
          go_wp2_with fail
          go_region
          have hw := sched_val B k q2 q7 q15 q16 x2 x7 x15 x16 (by omega) HE.out v2.out v7.out v15.out v16.out
          simp only [hw]
          obtain ⟨X, hX⟩ : ∃ X, X = wd B k := ⟨_, rfl⟩
          simp only [← hX]
          have HX := hide hX
          clear hw hX m2 m7 m15 m16 c2 c7 c15 c16 v2 v7 v15 v16 d7 d16 n2 n7 n15 n16 HE ck hfz
          go_wp2_with fail
          go_roundw
          case rel => exact ⟨k + 1, fun j => if j = k then X else f j, by omega, by omega, by go_num, ext_word hf.out HX.out, hres.setOther (by simp) _, set_word' hrw, ((hbl.setCell (by simp) _).drew).drew.drew⟩
          case measure => simp [intOf]; omega
        · have hf3 : Hid (∀ j, j < 64 → f j = wd B j) := fun j hj => hf.out j (by omega)
          obtain ⟨cs, hcs, hsz, hval⟩ := hrw
          obtain ⟨ds, hds, hdsz, _⟩ := hres
          have hi : (Tryz.prog.info? 235).map (·.size) = some cs.size := by rw [hsz]; exact Tryz.size64
          have hsd : ds.size = cs.size := by omega
          have hall : cs.all (·.oneCell') = true := by
            rw [Array.all_eq_true]
            intro i hi
            have h := hval i (by omega)
            rw [Array.getElem?_eq_getElem hi] at h
            rw [Option.some.inj h]; rfl
          go_wp2_with (first | (refine wpList_load_row rfl 235 _ rfl (w.heap.size + 1) rfl _ cs _ _ hcs Tryz.underlying235 rfl hi ?_) | (refine wpList_store_row rfl 235 _ _ rfl w.heap.size cs rfl rfl _ ds hds hi hsd hall ?_))
          have hg : (wr.setRow w.heap.size cs).heap[w.heap.size]? = some (.cells cs _ (0, 0)) := setRow_heap wr w.heap.size ds cs _ (0, 0) hds
          refine bodyPost_ret (v := .agg cs) (results_cell_row Tryz.results160 _ _ w.heap.size _ cs _ _ ?_ hg Tryz.underlying235 rfl hi) rfl ⟨cs, rfl, hsz, fun i hi => ?_, below_setRow hbl _ _ (Nat.le_refl _)⟩
          · rfl
          · rw [hval i hi, u32V, hf3.out i hi]
end Go.Proofs.YtconcnndghmdfaaGreatDoor

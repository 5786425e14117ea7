/- Put together: ImpRot, ImpSched, ImpTake. -/
import Derived.Test.YtconcnndghmdfaaGreatDoorSe1
import Derived.Test.YtconcnndghmdfaaGreatDoorSe2
import Derived.Test.YtconcnndghmdfaaGreatDoorSe6
namespace Go.Proofs.YtconcnndghmdfaaGreatDoor
open Go.RowKit
theorem or_comm32 (a b : Nat) : or32 a b = or32 b a := by unfold or32; exact Nat.or_comm _ _
theorem rot_eq (x k S : Nat) (h : S + k = 32) : bits .or .u32 ((x : Int) * 2 ^ S % 4294967296) ((x : Int) / 2 ^ k) = ((turn32 x k : Nat) : Int) := by
  have e : ((x : Int) * 2 ^ S % 4294967296) = ((shl32 x S : Nat) : Int) := by rw [← r_shl, IntKind.wrap_u32]
  have hk : S = 32 - k := by omega
  rw [r_shr, e, r_or, or_comm32, hk]; rfl
theorem and31 : ∀ k : Fin 32, 1 ≤ k.1 → bits .and .u64 (IntKind.u64.wrap (-(k.1 : Int))) 31 = ((32 - k.1 : Nat) : Int) := by decide
set_option maxRecDepth 100000 in
set_option maxHeartbeats 400000 in
theorem rot (x k : Nat) (w : World) (hk0 : 1 ≤ k) (hk : k ≤ 31) :
    Calls Tryz.prog 165 #[.int .u32 x, .int .i64 (-(k : Int))] w fun e w' => e = .returned (.int .u32 (turn32 x k)) ∧ w = w' := by
  have hand : bits .and .u64 (IntKind.u64.wrap (-(k : Int))) 31 = ((32 - k : Nat) : Int) := and31 ⟨k, by omega⟩ hk0
  go_enter Tryz.func165, Tryz.ntmps165
  go_wp2_with fail
  have ht := rot_eq x k (32 - k) (by omega)
  have hk2 : 32 - (32 - k) = k := by omega
  rw [hk2]
  simp only [ht]
  go_ret
  exact ⟨rfl, rfl⟩
theorem rotK (x : Nat) (K : Int) (w : World) (h0 : 1 ≤ K) (h : K ≤ 31) :
    Calls Tryz.prog 165 #[.int .u32 x, .int .i64 (-K)] w fun e w' => e = .returned (.int .u32 (turn32 x K.toNat)) ∧ w = w' := by
  have := rot x K.toNat w (by omega) (by omega)
  rwa [show ((K.toNat : Nat) : Int) = K by omega] at this
set_option maxRecDepth 100000 in
set_option maxHeartbeats 400000 in
theorem twice (x : Nat) (J K : Int) (w : World) (j0 : 1 ≤ J) (j1 : J ≤ 31) (k0 : 1 ≤ K) (k1 : K ≤ 31) :
    Calls Tryz.prog 164 #[.int .u32 x, .int .i64 J, .int .i64 K] w fun e w' => e = .returned (.int .u32 (xor32 (turn32 x J.toNat) (turn32 x K.toNat))) ∧ w = w' := by
  have hx := r_xor (turn32 x J.toNat) (turn32 x K.toNat)
  go_enter Tryz.func164, Tryz.ntmps164
  go_wp2_with fail
  refine (rotK x J w j0 j1).mono ?_
  rintro e w1 ⟨rfl, rfl⟩
  go_wp2_with fail
  refine (rotK x K w k0 k1).mono ?_
  rintro e w2 ⟨rfl, rfl⟩
  go_wp2_with fail
  go_ret
  exact ⟨rfl, rfl⟩
set_option maxRecDepth 100000 in
set_option maxHeartbeats 400000 in
theorem thrice (x : Nat) (I J K : Int) (w : World) (i0 : 1 ≤ I) (i1 : I ≤ 31) (j0 : 1 ≤ J) (j1 : J ≤ 31) (k0 : 1 ≤ K) (k1 : K ≤ 31) :
    Calls Tryz.prog 161 #[.int .u32 x, .int .i64 I, .int .i64 J, .int .i64 K] w fun e w' => e = .returned (.int .u32 (xor32 (xor32 (turn32 x I.toNat) (turn32 x J.toNat)) (turn32 x K.toNat))) ∧ w = w' := by
  have hx := r_xor (xor32 (turn32 x I.toNat) (turn32 x J.toNat)) (turn32 x K.toNat)
  go_enter Tryz.func161, Tryz.ntmps161
  go_wp2_with fail
  refine (twice x I J w i0 i1 j0 j1).mono ?_
  rintro e w1 ⟨rfl, rfl⟩
  go_wp2_with fail
  refine (rotK x K w k0 k1).mono ?_
  rintro e w2 ⟨rfl, rfl⟩
  go_wp2_with fail
  go_ret
  exact ⟨rfl, rfl⟩
end Go.Proofs.YtconcnndghmdfaaGreatDoor
namespace Go.Proofs.YtconcnndghmdfaaGreatDoor
open Go.RowKit
theorem mod_or (a b k : Nat) : (a ||| b) % 2 ^ k = (a % 2 ^ k) ||| (b % 2 ^ k) := Nat.or_mod_two_pow
theorem shl_or (a b k : Nat) : shl32 (or32 a b) k = or32 (shl32 a k) (shl32 b k) := by
  have h (x : Nat) : (x % 4294967296 * 2 ^ k) % 4294967296 = x * 2 ^ k % 4294967296 := Nat.mod_mul_mod _ _ _
  unfold shl32 or32
  rw [← Nat.shiftLeft_eq, Nat.shiftLeft_or_distrib, Nat.shiftLeft_eq, Nat.shiftLeft_eq, show (4294967296 : Nat) = 2 ^ 32 from rfl, mod_or, Nat.mod_mod, Nat.mod_mod]
  rw [show (2 : Nat) ^ 32 = 4294967296 from rfl, h, h]
theorem shl_shl (a j k : Nat) : shl32 (shl32 a j) k = shl32 a (j + k) := by
  unfold shl32; rw [Nat.mod_mul_mod, Nat.pow_add, Nat.mul_assoc]
theorem or_mod (a b : Nat) : or32 a (b % 4294967296) = or32 a b := by unfold or32; rw [Nat.mod_mod]
/-- What a word holds when j of its four bytes are in. -/
def part (B : Nat → Nat) (i : Nat) : Nat → Nat
  | 0 => 0
  | j + 1 => or32 (shl32 (part B i j) 8) (B (4 * i + j))
theorem part_lt (B : Nat → Nat) (i : Nat) : ∀ j, part B i j < 4294967296
  | 0 => Nat.zero_lt_succ _
  | _ + 1 => lt_or _ _
theorem part_four (B : Nat → Nat) (i : Nat) : part B i 4 = word B i := by
  show or32 (shl32 (or32 (shl32 (or32 (shl32 (or32 (shl32 0 8) (B (4 * i + 0))) 8) (B (4 * i + 1))) 8) (B (4 * i + 2))) 8) (B (4 * i + 3)) = _
  have z : shl32 0 8 = 0 := by decide
  have o (x : Nat) : or32 0 x = x % 4294967296 := by unfold or32; simp
  have m (x : Nat) : shl32 (x % 4294967296) 8 = shl32 x 8 := by unfold shl32; rw [Nat.mod_mul_mod]
  rw [z, o, m, shl_or, shl_or, shl_or, shl_shl, shl_shl, shl_shl]
  rfl
theorem alloc_size (w : World) (o : Obj) : (w.alloc o).heap.size = w.heap.size + 1 := by simp
theorem zeros_row (w : World) (c : Array Value) (t : Nat) (hc : c = (List.replicate 64 (Value.int .u32 0)).toArray) : (w.alloc (.cells c t)).rowIs w.heap.size t 64 (u32V fun _ => 0) := by
  subst hc
  refine World.rowIs_alloc w _ _ _ ?_
  intro i hi
  have : i < 64 := by simpa using hi
  rw [List.getElem?_toArray, List.getElem?_replicate, if_pos this]; rfl
theorem set_word' {wr : World} {g E k : Nat} {f : Nat → Nat} {X : Nat} (h : wr.rowIs g E 64 (u32V f)) : (wr.setCell ⟨g, k, none⟩ (.int .u32 (X : Int))).rowIs g E 64 (u32V fun j => if j = k then X else f j) := by
  refine ((h.set k (.int .u32 (X : Int))).congr ?_)
  intro i _
  simp only [u32V]
  split <;> rfl
theorem part_step {B : Nat → Nat} {i j X b : Nat} (hX : X = part B i j) (hb : b = B (4 * i + j)) : bits .or .u32 ((X : Int) * 256 % 4294967296) (b : Int) = ((part B i (j + 1) : Nat) : Int) := by
  have e : ((X : Int) * 256 % 4294967296) = ((shl32 X 8 : Nat) : Int) := by unfold shl32; simp
  rw [e, r_or, hX, hb]; rfl
theorem sched_val (B : Nat → Nat) (k q2 q7 q15 q16 x2 x7 x15 x16 : Nat) (hk : ¬ k < 16) (he : q2 = k - 2 ∧ q7 = k - 7 ∧ q15 = k - 15 ∧ q16 = k - 16) (v2 : x2 = wd B q2) (v7 : x7 = wd B q7) (v15 : x15 = wd B q15) (v16 : x16 = wd B q16) :
    ((x16 : Int) + ((sig0 x15 : Nat) : Int) + (x7 : Int) + ((sig1 x2 : Nat) : Int)) % 4294967296 = ((wd B k : Nat) : Int) := by
  obtain ⟨e2, e7, e15, e16⟩ := he
  rw [wd_hi B k hk, ← e2, ← e7, ← e15, ← e16, ← v2, ← v7, ← v15, ← v16]
  unfold add32
  omega
theorem below_setRow {B : Nat} {a w : World} (h : Below B a w) (g : Nat) (cs : Array Value) (hg : B ≤ g) : Below B a (w.setRow g cs) :=
  h.trans ⟨rfl, rfl, rfl, by simp, fun b hb => setRow_other w g b cs (by omega)⟩
theorem Tryz.size64 : (Tryz.prog.info? 235).map (·.size) = some 64 := by kernel_rfl
set_option maxRecDepth 100000 in
set_option maxHeartbeats 1600000 in
theorem sched (r o c : Nat) (B : Nat → Nat) (w : World) (hr : r < w.heap.size) (hB : ∀ j, j < 64 → B j < 256 ∧ w.cell? ⟨r, o + j, none⟩ = some (.int .u8 (B j : Nat))) :
    Calls Tryz.prog 160 #[.slice (some ⟨r, o, none⟩) 64 c] w fun e w' => ∃ cs, e = .returned (.agg cs) ∧ cs.size = 64 ∧ (∀ i, i < 64 → cs[i]? = some (.int .u32 (wd B i : Nat))) ∧ Below w.heap.size w w' := by
  have HB := hide hB
  clear hB
  go_enter Tryz.func160, Tryz.ntmps160
  go_wp2_with fail
  go_loopw [9] (fun i wr => ∃ (k : Nat) (f : Nat → Nat), k ≤ 16 ∧ i = .int .i64 k ∧ Hid (∀ j, j < 64 → f j = if j < k then word B j else 0) ∧ wr.rowIs w.heap.size 235 64 (u32V fun _ => 0) ∧ wr.rowIs (w.heap.size + 1) 235 64 (u32V f) ∧ Below w.heap.size w wr) (fun i _ => 16 - (intOf i).toNat)
  case atStart =>
    refine ⟨0, fun _ => 0, by omega, rfl, fun j hj => by simp, (zeros_row w _ _ rfl).alloc _, ?_, ((Below.refl _ _).alloc (Nat.le_refl _) _).alloc (by simp) _⟩
    have h := zeros_row (w.alloc (.cells (List.replicate 64 (Value.int .u32 0)).toArray 235)) (List.replicate 64 (Value.int .u32 0)).toArray 235 rfl
    simp only [alloc_size] at h
    exact h
  case round =>
    obtain ⟨k, f, hk, rfl, hf, hres, hrw, hbl⟩ := hrel
    by_cases hlt : k < 16
    · go_wp2_with fail
      go_loopw [12] (fun i wx => ∃ (m : Nat) (f : Nat → Nat), m ≤ 4 ∧ i = .int .i64 m ∧ Hid (∀ j, j < 64 → f j = if j < k then word B j else if j = k then part B k m else 0) ∧ wx.rowIs w.heap.size 235 64 (u32V fun _ => 0) ∧ wx.rowIs (w.heap.size + 1) 235 64 (u32V f) ∧ Below w.heap.size w wx) (fun i _ => 4 - (intOf i).toNat)
      case atStart => exact ⟨0, f, by omega, rfl, fun j hj => by rw [hf.out j hj]; split; rfl; split <;> rfl, hres, hrw, hbl⟩
      case round =>
        clear hf hres hrw hbl
        obtain ⟨m, f, hm, rfl, hf, hres, hrw, hbl⟩ := hrel
        by_cases hlt4 : m < 4
        · have ck := cell_u32 hrw k (by omega)
          have hfz := hrw.frozen k
          obtain ⟨q, e⟩ : ∃ q, q = 4 * k + m := ⟨_, rfl⟩
          obtain ⟨q0, e0⟩ : ∃ q, q = 4 * k := ⟨_, rfl⟩
          have m0 : IntKind.i64.wrap (4 * (k : Int)) = (q0 : Int) := by simp only [IntKind.wrap_i64]; omega
          have m1 : IntKind.i64.wrap ((q0 : Int) + (m : Int)) = (q : Int) := by simp only [IntKind.wrap_i64]; omega
          have nq : (q : Int) < 64 := by omega
          have hBq := HB.out q (by omega)
          have cb : wr.cell? ⟨r, o + q, none⟩ = some (.int .u8 (B q : Nat)) := (hbl.cell (p := ⟨r, o + q, none⟩) hr).trans hBq.2
          have bq : (B q : Int) ≤ 255 := by have := hBq.1; omega
          have hX := hide (show f k = part B k m by rw [hf.out k (by omega), if_neg (by omega), if_pos rfl])
          have hbq := hide (show B q = B (4 * k + m) by rw [e])
          clear e e0 hBq
          generalize B q = bb at *
          generalize f k = X at *
          go_wp2_with fail
          go_region
          have hp := part_step hX.out hbq.out
          simp only [hp]
          obtain ⟨Y, hY⟩ : ∃ Y, Y = part B k (m + 1) := ⟨_, rfl⟩
          simp only [← hY]
          have HY := hide hY
          clear hp hY m0 m1 bq cb ck hbq hX
          go_wp2_with fail
          go_roundw
          case rel =>
            refine ⟨m + 1, fun j => if j = k then Y else f j, by omega, by go_num, fun j hj => ?_, hres.setOther (by simp) _, set_word' hrw, (hbl.setCell (by simp) _).drew⟩
            show (if j = k then Y else f j) = _
            by_cases e : j = k
            · rw [if_pos e, if_neg (by omega), if_pos e, HY.out]
            · rw [if_neg e, hf.out j hj, if_neg e, if_neg e]
          case measure => simp [intOf]; omega
        · go_wp2_with fail
          go_roundw
          case rel =>
            refine ⟨k + 1, f, by omega, by go_num, fun j hj => ?_, hres, hrw, hbl⟩
            rw [hf.out j hj]
            by_cases e : j < k
            · rw [if_pos e, if_pos (by omega)]
            · by_cases e2 : j = k
              · rw [if_neg e, if_pos e2, if_pos (by omega), show m = 4 by omega, part_four, e2]
              · rw [if_neg e, if_neg e2, if_neg (by omega)]
          case measure => simp [intOf]; omega
    · have hf2 : Hid (∀ j, j < 16 → f j = wd B j) := fun j hj => by rw [hf.out j (by omega), if_pos (by omega), wd_lo _ _ hj]
      go_wp2_with fail
      clear hf
      go_loopw [6] (fun i wx => ∃ (k : Nat) (f : Nat → Nat), 16 ≤ k ∧ k ≤ 64 ∧ i = .int .i64 k ∧ Hid (∀ j, j < k → f j = wd B j) ∧ wx.rowIs w.heap.size 235 64 (u32V fun _ => 0) ∧ wx.rowIs (w.heap.size + 1) 235 64 (u32V f) ∧ Below w.heap.size w wx) (fun i _ => 64 - (intOf i).toNat)
      case atStart => exact ⟨16, f, by omega, by omega, rfl, hf2, hres, hrw, hbl⟩
      case round =>
        clear hf2 hres hrw hbl
        obtain ⟨k, f, hk0, hk, rfl, hf, hres, hrw, hbl⟩ := hrel
        by_cases hlt : k < 64
        · obtain ⟨q2, e2⟩ : ∃ q, q = k - 2 := ⟨_, rfl⟩
          obtain ⟨q7, e7⟩ : ∃ q, q = k - 7 := ⟨_, rfl⟩
          obtain ⟨q15, e15⟩ : ∃ q, q = k - 15 := ⟨_, rfl⟩
          obtain ⟨q16, e16⟩ : ∃ q, q = k - 16 := ⟨_, rfl⟩
          have m2 : IntKind.i64.wrap ((k : Int) - 2) = (q2 : Int) := by simp only [IntKind.wrap_i64]; omega
          have m7 : IntKind.i64.wrap ((k : Int) - 7) = (q7 : Int) := by simp only [IntKind.wrap_i64]; omega
          have m15 : IntKind.i64.wrap ((k : Int) - 15) = (q15 : Int) := by simp only [IntKind.wrap_i64]; omega
          have m16 : IntKind.i64.wrap ((k : Int) - 16) = (q16 : Int) := by simp only [IntKind.wrap_i64]; omega
          have c2 := cell_u32 hrw q2 (by omega)
          have c7 := cell_u32 hrw q7 (by omega)
          have c15 := cell_u32 hrw q15 (by omega)
          have c16 := cell_u32 hrw q16 (by omega)
          have ck := cell_u32 hrw k hlt
          have hfz := hrw.frozen k
          have d7 : q7 ≠ k := by omega
          have d16 : q16 ≠ k := by omega
          have n2 : (q2 : Int) < 64 := by omega
          have n7 : (q7 : Int) < 64 := by omega
          have n15 : (q15 : Int) < 64 := by omega
          have n16 : (q16 : Int) < 64 := by omega
          have v2 := hide (hf.out q2 (by omega))
          have v7 := hide (hf.out q7 (by omega))
          have v15 := hide (hf.out q15 (by omega))
          have v16 := hide (hf.out q16 (by omega))
          have HE := hide (show q2 = k - 2 ∧ q7 = k - 7 ∧ q15 = k - 15 ∧ q16 = k - 16 from ⟨e2, e7, e15, e16⟩)
          clear e2 e7 e15 e16
          generalize f q2 = x2 at *
          generalize f q7 = x7 at *
          generalize f q15 = x15 at *
          generalize f q16 = x16 at *
          go_wp2_with fail
          go_region_held3 (fun w' => w'.cell? ⟨w.heap.size + 1, q15, none⟩ = some (.int .u32 x15)) (go_keep)
            (first | (go_at_call 164; refine (twice _ _ _ _ ?_ ?_ ?_ ?_).mono ?_; decide; decide; decide; decide; rintro e w' ⟨rfl, rfl⟩))
          rename_i _ hH
          clear hH
          have hs0 : bits .xor .u32 (↑(xor32 (turn32 x15 7) (turn32 x15 18))) ((x15 : Int) / 8) = ((sig0 x15 : Nat) : Int) := by
            have h3 : (x15 : Int) / 8 = ((shr32 x15 3 : Nat) : Int) := r_shr x15 3
            rw [h3, r_xor]; rfl
          simp only [hs0]
          clear hs0
          go_wp2_with fail
          go_region_held3 (fun w' => w'.cell? ⟨w.heap.size + 1, q2, none⟩ = some (.int .u32 x2)) (go_keep)
            (first | (go_at_call 164; refine (twice _ _ _ _ ?_ ?_ ?_ ?_).mono ?_; decide; decide; decide; decide; rintro e w' ⟨rfl, rfl⟩))
          rename_i _ hH
          clear hH
          have hs1 : bits .xor .u32 (↑(xor32 (turn32 x2 17) (turn32 x2 19))) ((x2 : Int) / 1024) = ((sig1 x2 : Nat) : Int) := by
            have h3 : (x2 : Int) / 1024 = ((shr32 x2 10 : Nat) : Int) := r_shr x2 10
            rw [h3, r_xor]; rfl
          simp only [hs1]
          clear hs1
          go_wp2_with fail
          go_region
          have hw := sched_val B k q2 q7 q15 q16 x2 x7 x15 x16 (by omega) HE.out v2.out v7.out v15.out v16.out
          simp only [hw]
          obtain ⟨X, hX⟩ : ∃ X, X = wd B k := ⟨_, rfl⟩
          simp only [← hX]
          have HX := hide hX
          clear hw hX m2 m7 m15 m16 c2 c7 c15 c16 v2 v7 v15 v16 d7 d16 n2 n7 n15 n16 HE ck hfz
          go_wp2_with fail
          go_roundw
          case rel => exact ⟨k + 1, fun j => if j = k then X else f j, by omega, by omega, by go_num, ext_word hf.out HX.out, hres.setOther (by simp) _, set_word' hrw, ((hbl.setCell (by simp) _).drew).drew.drew⟩
          case measure => simp [intOf]; omega
        · have hf3 : Hid (∀ j, j < 64 → f j = wd B j) := fun j hj => hf.out j (by omega)
          obtain ⟨cs, hcs, hsz, hval⟩ := hrw
          obtain ⟨ds, hds, hdsz, _⟩ := hres
          have hi : (Tryz.prog.info? 235).map (·.size) = some cs.size := by rw [hsz]; exact Tryz.size64
          have hsd : ds.size = cs.size := by omega
          have hall : cs.all (·.oneCell') = true := by
            rw [Array.all_eq_true]
            intro i hi
            have h := hval i (by omega)
            rw [Array.getElem?_eq_getElem hi] at h
            rw [Option.some.inj h]; rfl
          go_wp2_with (first | (refine wpList_load_row rfl 235 _ rfl (w.heap.size + 1) rfl _ cs _ _ hcs Tryz.underlying235 rfl hi ?_) | (refine wpList_store_row rfl 235 _ _ rfl w.heap.size cs rfl rfl _ ds hds hi hsd hall ?_))
          have hg : (wr.setRow w.heap.size cs).heap[w.heap.size]? = some (.cells cs _ (0, 0)) := setRow_heap wr w.heap.size ds cs _ (0, 0) hds
          refine bodyPost_ret (v := .agg cs) (results_cell_row Tryz.results160 _ _ w.heap.size _ cs _ _ ?_ hg Tryz.underlying235 rfl hi) rfl ⟨cs, rfl, hsz, fun i hi => ?_, below_setRow hbl _ _ (Nat.le_refl _)⟩
          · rfl
          · rw [hval i hi, u32V, hf3.out i hi]
end Go.Proofs.YtconcnndghmdfaaGreatDoor
namespace Go.Proofs.YtconcnndghmdfaaGreatDoor
open Go.RowKit
theorem run_index_agg {P : Program} (t e n : Nat) (kd : IntKind) (cs : Array Value) (k : Nat) (v : Value) (ht : P.underlying t = some (.array n e)) (he : P.underlying e = some (.int kd)) (hi : (P.info? e).map (·.size) = some 1) (hk : k < n) (hv : cs[k]? = some v) (w : World) :
    (Instr.index t (.agg cs) (.int .i64 (k : Int))).run P w = .ok v w := by
  obtain ⟨i, hi, hs⟩ := Option.map_eq_some_iff.1 hi
  simp [Instr.index, asIntOf, run_underlying ht, hk, Go.part, isAgg, run_underlying he, sizeOf, typeInfo, hi, hs, hv]
/-- What a hash's block holds. -/
def hashV (st : Nat → Nat) (rv : Value) (mv : Value) (j : Nat) : Value := if j < 8 then .int .u32 (st j : Nat) else if j = 8 then rv else mv
theorem hash_cell {w : World} {g T : Nat} {st : Nat → Nat} {rv mv : Value} (h : w.rowIs g T 10 (hashV st rv mv)) (j : Nat) (hj : j < 8) : w.cell? ⟨g, j, none⟩ = some (.int .u32 (st j : Nat)) := by
  have := h.cell (i := j) (by omega)
  rw [hashV, if_pos hj] at this; exact this
/-- The table of the rounds' numbers, where the program keeps it. -/
def Tab (w : World) : Prop := ∀ j, j < 64 → w.cell? ⟨1, j, none⟩ = some (.int .u32 (shaKey j : Nat))
theorem Tab.lt {w : World} (h : Tab w) : 1 < w.heap.size := by
  have h0 := h 0 (by omega)
  exact World.block_lt_of_cell? w _ h0
theorem Tab.below {w w' : World} {B : Nat} (h : Tab w) (hb : Below B w w') (hB : 1 < B) : Tab w' := fun j hj => (hb.cell (p := ⟨1, j, none⟩) hB).trans (h j hj)
theorem Tryz.sizeU32 : (Tryz.prog.info? 176).map (·.size) = some 1 := by kernel_rfl
theorem Tryz.size8 : (Tryz.prog.info? 187).map (·.size) = some 8 := by kernel_rfl
theorem r8_at (A B C D E F G H k : Nat) (h : k < 8) : (#[.int .u32 A, .int .u32 B, .int .u32 C, .int .u32 D, .int .u32 E, .int .u32 F, .int .u32 G, .int .u32 H] : Array Value)[k]? = some (.int .u32 (R8.get ⟨A, B, C, D, E, F, G, H⟩ k : Nat)) := by
  match k, h with
  | 0, _ => rfl
  | 1, _ => rfl
  | 2, _ => rfl
  | 3, _ => rfl
  | 4, _ => rfl
  | 5, _ => rfl
  | 6, _ => rfl
  | 7, _ => rfl
theorem hash_set {wr : World} {g T k : Nat} {f F : Nat → Nat} {rv mv : Value} {X : Nat} (h : wr.rowIs g T 10 (hashV f rv mv)) (hk : k < 8) (hX : X = F k) : (wr.setCell ⟨g, k, none⟩ (.int .u32 (X : Int))).rowIs g T 10 (hashV (fun j => if j = k then F j else f j) rv mv) := by
  refine (h.set k _).congr ?_
  intro i _
  by_cases e : i = k
  · subst e; rw [if_pos rfl, hashV, if_pos hk, if_pos rfl, hX]
  · rw [if_neg e, hashV, hashV, if_neg e]
theorem tt1_eqI (A B C D E F G H K X : Nat) :
    IntKind.u32.wrap (IntKind.u32.wrap (IntKind.u32.wrap (IntKind.u32.wrap (↑H + ↑(xor32 (xor32 (turn32 E 6) (turn32 E 11)) (turn32 E 25))) + bits .xor .u32 (bits .and .u32 ↑E ↑F) (bits .and .u32 (bits .xor .u32 IntKind.u32.max ↑E) ↑G)) + ↑K) + ↑X) = ((tt1 ⟨A, B, C, D, E, F, G, H⟩ K X : Nat) : Int) := by
  rw [r_not, r_and, r_and, r_xor, r_add, r_add, r_add, r_add]
  rfl
theorem tt2_eqI (A B C D E F G H T1 : Nat) :
    (↑T1 + (↑(xor32 (xor32 (turn32 A 2) (turn32 A 13)) (turn32 A 22)) + bits .xor .u32 (bits .xor .u32 (bits .and .u32 ↑A ↑B) (bits .and .u32 ↑A ↑C)) (bits .and .u32 ↑B ↑C)) % 4294967296) % 4294967296 = ((add32 T1 (tt2 ⟨A, B, C, D, E, F, G, H⟩) : Nat) : Int) := by
  rw [r_and, r_and, r_and, r_xor, r_xor, r_addm, r_addm]
  rfl
set_option maxRecDepth 100000 in
set_option maxHeartbeats 1600000 in
theorem take (g r o c : Nat) (st B : Nat → Nat) (rv mv : Value) (w : World) (hr : r < w.heap.size) (hB : ∀ j, j < 64 → B j < 256 ∧ w.cell? ⟨r, o + j, none⟩ = some (.int .u8 (B j : Nat)))
    (hrow : w.rowIs g 191 10 (hashV st rv mv)) (htab : Tab w) (hg0 : 1 < g) :
    Calls Tryz.prog 153 #[.pointer (some ⟨g, 0, none⟩), .slice (some ⟨r, o, none⟩) 64 c] w fun e w' => e = .returned (.tuple #[]) ∧ w'.rowIs g 191 10 (hashV (blockF B st) rv mv) ∧ w.grownBy w' (some g) := by
  have HB := hide hB
  have HT := hide htab
  have hlt := hrow.lt
  clear hB htab
  go_enter Tryz.func153, Tryz.ntmps153
  go_wp2_with fail
  refine (sched r o c B _ hr HB.out).mono ?_
  rintro e w1 ⟨cs, rfl, hcsz, hcs, hb1⟩
  have hrow1 := hrow.of_block (hb1.block g hlt)
  have ht1 : Tab w1 := HT.out.below hb1 (by omega)
  have hg1 := below_grownBy hb1
  clear hrow
  have hi : (Tryz.prog.info? 235).map (·.size) = some cs.size := by rw [hcsz]; exact Tryz.size64
  have hall : cs.all (·.oneCell') = true := by
    rw [Array.all_eq_true]
    intro i hi
    have h := hcs i (by omega)
    rw [Array.getElem?_eq_getElem hi] at h
    rw [Option.some.inj h]; rfl
  have HCS := hide hcs
  clear hcs
  go_wp2_with (first | (refine wpList_store_row rfl 235 _ _ rfl _ cs rfl rfl _ _ (heap_alloc_new w1 _) hi ?ho hall ?_; case ho => rw [hcsz]; rfl))
  obtain ⟨W2, hW2, hcell2, hgr2, hrow2, htab2⟩ : ∃ x, x = (w1.alloc (.cells (List.replicate 64 (Value.int .u32 0)).toArray 235)).setRow w1.heap.size cs ∧ x.heap[w1.heap.size]? = some (.cells cs 235 (0, 0)) ∧ w.grownBy x (some g) ∧ x.rowIs g 191 10 (hashV st rv mv) ∧ Tab x := by
    have hb : Below w1.heap.size w1 ((w1.alloc (.cells (List.replicate 64 (Value.int .u32 0)).toArray 235)).setRow w1.heap.size cs) := below_setRow ((Below.refl _ _).alloc (Nat.le_refl _) _) _ _ (Nat.le_refl _)
    refine ⟨_, rfl, setRow_heap _ _ _ _ _ _ (heap_alloc_new w1 _), ?_, hrow1.of_block (hb.block g hrow1.lt), ht1.below hb (by have := hrow1.lt; omega)⟩
    have h := grownBy_none hg1 (below_grownBy hb)
    exact ⟨h.os, h.tape, h.output, h.size, fun k hk _ => h.block k hk (by simp)⟩
  obtain ⟨s0, es0⟩ : ∃ s, s = st 0 := ⟨_, rfl⟩
  have c0 : W2.cell? ⟨g, 0, none⟩ = some (.int .u32 (s0 : Nat)) := by rw [es0]; exact hash_cell hrow2 0 (by omega)
  obtain ⟨s1, es1⟩ : ∃ s, s = st 1 := ⟨_, rfl⟩
  have c1 : W2.cell? ⟨g, 1, none⟩ = some (.int .u32 (s1 : Nat)) := by rw [es1]; exact hash_cell hrow2 1 (by omega)
  obtain ⟨s2, es2⟩ : ∃ s, s = st 2 := ⟨_, rfl⟩
  have c2 : W2.cell? ⟨g, 2, none⟩ = some (.int .u32 (s2 : Nat)) := by rw [es2]; exact hash_cell hrow2 2 (by omega)
  obtain ⟨s3, es3⟩ : ∃ s, s = st 3 := ⟨_, rfl⟩
  have c3 : W2.cell? ⟨g, 3, none⟩ = some (.int .u32 (s3 : Nat)) := by rw [es3]; exact hash_cell hrow2 3 (by omega)
  obtain ⟨s4, es4⟩ : ∃ s, s = st 4 := ⟨_, rfl⟩
  have c4 : W2.cell? ⟨g, 4, none⟩ = some (.int .u32 (s4 : Nat)) := by rw [es4]; exact hash_cell hrow2 4 (by omega)
  obtain ⟨s5, es5⟩ : ∃ s, s = st 5 := ⟨_, rfl⟩
  have c5 : W2.cell? ⟨g, 5, none⟩ = some (.int .u32 (s5 : Nat)) := by rw [es5]; exact hash_cell hrow2 5 (by omega)
  obtain ⟨s6, es6⟩ : ∃ s, s = st 6 := ⟨_, rfl⟩
  have c6 : W2.cell? ⟨g, 6, none⟩ = some (.int .u32 (s6 : Nat)) := by rw [es6]; exact hash_cell hrow2 6 (by omega)
  obtain ⟨s7, es7⟩ : ∃ s, s = st 7 := ⟨_, rfl⟩
  have c7 : W2.cell? ⟨g, 7, none⟩ = some (.int .u32 (s7 : Nat)) := by rw [es7]; exact hash_cell hrow2 7 (by omega)
  have HS := hide (show R8.of st = ⟨s0, s1, s2, s3, s4, s5, s6, s7⟩ by rw [es0, es1, es2, es3, es4, es5, es6, es7]; rfl)
  clear es0 es1 es2 es3 es4 es5 es6 es7
  have hW3 : (w1.alloc (.cells (List.replicate 64 (Value.int .u32 0)).toArray 235)).setRow w1.heap.size cs = W2 := hW2.symm
  change Code.wp _ _ _ _ ((w1.alloc (.cells (List.replicate 64 (Value.int .u32 0)).toArray 235)).setRow w1.heap.size cs)
  rw [hW3]
  clear hW2 hW3 hg1 hrow1 ht1 hb1 hall
  go_wp2_with fail
  go_quiet (fail)
  go_wp2_with (first | (refine wpList_load_row rfl 235 _ rfl _ rfl _ cs _ _ hcell2 Tryz.underlying235 rfl hi ?_))
  have hgr3 : w.grownBy (W2.drewN nq) (some g) := ⟨hgr2.os, hgr2.tape, hgr2.output, hgr2.size, hgr2.block⟩
  have hrow3 : (W2.drewN nq).rowIs g 191 10 (hashV st rv mv) := hrow2
  have htab3 : Tab (W2.drewN nq) := htab2
  generalize W2.drewN nq = W3 at *
  clear c0 c1 c2 c3 c4 c5 c6 c7 hcell2 hgr2 hrow2 htab2 hi W2 HT HB
  go_loopw [5, 6, 7, 8, 9, 10, 11, 12, 54] (fun a b1 c d e f1 g1 h i wx => ∃ (k A B1 C D E F G H : Nat), k ≤ 64 ∧ i = .int .i64 k ∧ a = .int .u32 A ∧ b1 = .int .u32 B1 ∧ c = .int .u32 C ∧ d = .int .u32 D ∧ e = .int .u32 E ∧ f1 = .int .u32 F ∧ g1 = .int .u32 G ∧ h = .int .u32 H ∧ Hid (rounds B ⟨s0, s1, s2, s3, s4, s5, s6, s7⟩ k = ⟨A, B1, C, D, E, F, G, H⟩) ∧ Hid (w.grownBy wx (some g)) ∧ Hid (wx.rowIs g 191 10 (hashV st rv mv)) ∧ Hid (Tab wx)) (fun _ _ _ _ _ _ _ _ i _ => 64 - (intOf i).toNat)
  case atStart => exact ⟨0, s0, s1, s2, s3, s4, s5, s6, s7, by omega, rfl, rfl, rfl, rfl, rfl, rfl, rfl, rfl, rfl, rfl, hgr3, hrow3, htab3⟩
  case round =>
    clear hgr3 hrow3 htab3
    obtain ⟨k, A, B1, C, D, E, F, G, H, hk, rfl, rfl, rfl, rfl, rfl, rfl, rfl, rfl, rfl, hR, hgr, hrow, htab⟩ := hrel
    by_cases hlt : k < 64
    · have ck : wr.cell? ⟨1, k, none⟩ = some (.int .u32 (shaKey k : Nat)) := htab.out k hlt
      obtain ⟨K, hK⟩ : ∃ K, K = shaKey k := ⟨_, rfl⟩
      rw [← hK] at ck
      have HK := hide hK
      clear hK
      obtain ⟨X, hX⟩ : ∃ X, X = wd B k := ⟨_, rfl⟩
      have hidx : ∀ w, (Instr.index 235 (.agg cs) (.int .i64 (k : Int))).run Tryz.prog w = .ok (.int .u32 (X : Nat)) w := run_index_agg 235 176 64 .u32 cs k _ Tryz.underlying235 Tryz.underlying176 Tryz.sizeU32 hlt (by rw [hX]; exact HCS.out k hlt)
      have HX := hide hX
      clear hX
      go_wp2_with fail
      go_region_held3 (fun w' => w'.cell? ⟨1, k, none⟩ = some (.int .u32 K)) (go_keep)
        (first | (go_at_call 161; refine (thrice _ _ _ _ _ ?_ ?_ ?_ ?_ ?_ ?_).mono ?_; decide; decide; decide; decide; decide; decide; rintro e w' ⟨rfl, rfl⟩))
      rename_i _ hH
      clear hH
      have ht := tt1_eqI A B1 C D E F G H K X
      simp only [ht]
      obtain ⟨T1, hT1⟩ : ∃ T, T = tt1 ⟨A, B1, C, D, E, F, G, H⟩ K X := ⟨_, rfl⟩
      simp only [← hT1]
      have HT1 := hide hT1
      clear ht hT1 hidx ck
      go_wp2_with (first | (go_at_call 161; refine (thrice _ _ _ _ _ ?_ ?_ ?_ ?_ ?_ ?_).mono ?_; decide; decide; decide; decide; decide; decide; rintro e w' ⟨rfl, rfl⟩))
      refine ⟨?rel, ?measure⟩
      case rel => exact ⟨k + 1, add32 T1 (tt2 ⟨A, B1, C, D, E, F, G, H⟩), A, B1, C, add32 D T1, E, F, G, by omega, by go_num, int_eq (tt2_eqI A B1 C D E F G H T1), rfl, rfl, rfl, int_eq (r_addm D T1), rfl, rfl, rfl, rounds_step hR.out HK.out HX.out HT1.out, grownBy_drew hgr.out, hrow.out.drew, htab.out⟩
      case measure => simp [intOf]; omega
    · have hR64 := hide (show R8.mk A B1 C D E F G H = rounds B (R8.of st) 64 by
        rw [HS.out, ← hR.out]; congr 1; omega)
      have hrow1 := hrow.out
      have hgr1 := hgr.out
      clear hR HS htab hrow hgr HCS
      go_wp2_with fail
      go_loopw [113] (fun i wx => ∃ (k : Nat) (f : Nat → Nat), k ≤ 8 ∧ i = .int .i64 k ∧ Hid (∀ j, j < 8 → f j = if j < k then blockF B st j else st j) ∧ wx.rowIs g 191 10 (hashV f rv mv) ∧ Hid (w.grownBy wx (some g))) (fun i _ => 8 - (intOf i).toNat)
      case atStart => exact ⟨0, st, by omega, rfl, fun j _ => by simp, hrow1, hgr1⟩
      case round =>
        clear hrow1 hgr1
        obtain ⟨m, f, hm, rfl, hf, hrow, hgr⟩ := hrel
        by_cases hlt8 : m < 8
        · have cm := hash_cell hrow m hlt8
          have hfz := hrow.frozen m
          obtain ⟨S, hS⟩ : ∃ S, S = f m := ⟨_, rfl⟩
          obtain ⟨V, hV⟩ : ∃ V, V = R8.get ⟨A, B1, C, D, E, F, G, H⟩ m := ⟨_, rfl⟩
          rw [← hS] at cm
          have hidx : ∀ w, (Instr.index 187 (.agg #[.int .u32 A, .int .u32 B1, .int .u32 C, .int .u32 D, .int .u32 E, .int .u32 F, .int .u32 G, .int .u32 H]) (.int .i64 (m : Int))).run Tryz.prog w = .ok (.int .u32 (V : Nat)) w := run_index_agg 187 176 8 .u32 _ m _ Tryz.underlying187 Tryz.underlying176 Tryz.sizeU32 hlt8 (by rw [hV]; exact r8_at A B1 C D E F G H m hlt8)
          have HY := hide (show add32 S V = blockF B st m by rw [hS, hV, hf.out m hlt8, if_neg (by omega), hR64.out]; rfl)
          have he := r_addm S V
          clear hS hV
          go_wp2_with fail
          go_region
          simp only [he]
          obtain ⟨Y, hY⟩ : ∃ Y, Y = add32 S V := ⟨_, rfl⟩
          simp only [← hY]
          rw [← hY] at HY
          clear hY he hidx cm hfz
          go_wp2_with fail
          go_roundw
          case rel =>
            refine ⟨m + 1, fun j => if j = m then blockF B st j else f j, by omega, by go_num, fun j hj => ?_, (hash_set hrow hlt8 HY.out).drew, grownBy_drew (grownBy_set hgr.out _)⟩
            show (if j = m then blockF B st j else f j) = _
            by_cases e : j = m
            · rw [if_pos e, if_pos (by omega)]
            · rw [if_neg e, hf.out j hj]
              by_cases e2 : j < m
              · rw [if_pos e2, if_pos (by omega)]
              · rw [if_neg e2, if_neg (by omega)]
          case measure => simp [intOf]; omega
        · have hrow2 : wr.rowIs g 191 10 (hashV (blockF B st) rv mv) := hrow.congr fun i _ => by
            rw [hashV, hashV]
            by_cases e : i < 8
            · rw [if_pos e, if_pos e, hf.out i e, if_pos (by omega)]
            · rw [if_neg e, if_neg e]
          go_wp2_with fail
          go_end0
          exact ⟨rfl, hrow2, hgr.out⟩
end Go.Proofs.YtconcnndghmdfaaGreatDoor

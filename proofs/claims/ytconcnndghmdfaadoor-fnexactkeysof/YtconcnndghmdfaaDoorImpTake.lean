/- The walk over the program's takeBlock. -/
import Derived.Test.YtconcnndghmdfaaDoorImpSched
import Derived.Test.YtconcnndghmdfaaDoorSrc
namespace Go.Proofs.YtconcnndghmdfaaDoor
open Go.RowKit
theorem run_index_agg {P : Program} (t e n : Nat) (kd : IntKind) (cs : Array Value) (k : Nat) (v : Value) (ht : P.underlying t = some (.array n e)) (he : P.underlying e = some (.int kd)) (hi : (P.info? e).map (·.size) = some 1) (hk : k < n) (hv : cs[k]? = some v) (w : World) :
    (Instr.index t (.agg cs) (.int .i64 (k : Int))).run P w = .ok v w := by
  obtain ⟨i, hi, hs⟩ := Option.map_eq_some_iff.1 hi
  simp [Instr.index, asIntOf, run_underlying ht, hk, Go.part, isAgg, run_underlying he, sizeOf, typeInfo, hi, hs, hv]
/-- What a hash's block holds. -/
def hashV (st : Nat → Nat) (rv : Value) (mv : Value) (j : Nat) : Value := if j < 8 then .int .u32 (st j : Nat) else if j = 8 then rv else mv
theorem hash_cell {w : World} {g T : Nat} {st : Nat → Nat} {rv mv : Value} (h : w.rowIs g T 10 (hashV st rv mv)) (j : Nat) (hj : j < 8) : w.cell? ⟨g, j, none⟩ = some (.int .u32 (st j : Nat)) := by
  have := h.cell (i := j) (by omega)
  rw [hashV, if_pos hj] at this; exact this
/-- The table of the rounds' numbers, where the program keeps it. -/
def Tab (w : World) : Prop := ∀ j, j < 64 → w.cell? ⟨0, j, none⟩ = some (.int .u32 (shaKey j : Nat))
theorem Tab.lt {w : World} (h : Tab w) : 0 < w.heap.size := by
  have h0 := h 0 (by omega)
  exact World.block_lt_of_cell? w _ h0
theorem Tab.below {w w' : World} {B : Nat} (h : Tab w) (hb : Below B w w') (hB : 0 < B) : Tab w' := fun j hj => (hb.cell (p := ⟨0, j, none⟩) hB).trans (h j hj)
theorem Tryd.sizeU32 : (Tryd.prog.info? 33).map (·.size) = some 1 := by kernel_rfl
theorem Tryd.size8 : (Tryd.prog.info? 34).map (·.size) = some 8 := by kernel_rfl
theorem r8_at (A B C D E F G H k : Nat) (h : k < 8) : (#[.int .u32 A, .int .u32 B, .int .u32 C, .int .u32 D, .int .u32 E, .int .u32 F, .int .u32 G, .int .u32 H] : Array Value)[k]? = some (.int .u32 (R8.get ⟨A, B, C, D, E, F, G, H⟩ k : Nat)) := by
  match k, h with
  | 0, _ => rfl
  | 1, _ => rfl
  | 2, _ => rfl
  | 3, _ => rfl
  | 4, _ => rfl
  | 5, _ => rfl
  | 6, _ => rfl
  | 7, _ => rfl
theorem hash_set {wr : World} {g T k : Nat} {f F : Nat → Nat} {rv mv : Value} {X : Nat} (h : wr.rowIs g T 10 (hashV f rv mv)) (hk : k < 8) (hX : X = F k) : (wr.setCell ⟨g, k, none⟩ (.int .u32 (X : Int))).rowIs g T 10 (hashV (fun j => if j = k then F j else f j) rv mv) := by
  refine (h.set k _).congr ?_
  intro i _
  by_cases e : i = k
  · subst e; rw [if_pos rfl, hashV, if_pos hk, if_pos rfl, hX]
  · rw [if_neg e, hashV, hashV, if_neg e]
theorem tt1_eqI (A B C D E F G H K X : Nat) :
    IntKind.u32.wrap (IntKind.u32.wrap (IntKind.u32.wrap (IntKind.u32.wrap (↑H + ↑(xor32 (xor32 (turn32 E 6) (turn32 E 11)) (turn32 E 25))) + bits .xor .u32 (bits .and .u32 ↑E ↑F) (bits .and .u32 (bits .xor .u32 IntKind.u32.max ↑E) ↑G)) + ↑K) + ↑X) = ((tt1 ⟨A, B, C, D, E, F, G, H⟩ K X : Nat) : Int) := by
  rw [r_not, r_and, r_and, r_xor, r_add, r_add, r_add, r_add]
  rfl
theorem tt2_eqI (A B C D E F G H T1 : Nat) :
    (↑T1 + (↑(xor32 (xor32 (turn32 A 2) (turn32 A 13)) (turn32 A 22)) + bits .xor .u32 (bits .xor .u32 (bits .and .u32 ↑A ↑B) (bits .and .u32 ↑A ↑C)) (bits .and .u32 ↑B ↑C)) % 4294967296) % 4294967296 = ((add32 T1 (tt2 ⟨A, B, C, D, E, F, G, H⟩) : Nat) : Int) := by
  rw [r_and, r_and, r_and, r_xor, r_xor, r_addm, r_addm]
  rfl
set_option maxRecDepth 100000 in
set_option maxHeartbeats 1600000 in
theorem take (g r o c : Nat) (st B : Nat → Nat) (rv mv : Value) (w : World) (hr : r < w.heap.size) (hB : ∀ j, j < 64 → B j < 256 ∧ w.cell? ⟨r, o + j, none⟩ = some (.int .u8 (B j : Nat)))
    (hrow : w.rowIs g 40 10 (hashV st rv mv)) (htab : Tab w) (hg0 : 0 < g) :
    Calls Tryd.prog 21 #[.pointer (some ⟨g, 0, none⟩), .slice (some ⟨r, o, none⟩) 64 c] w fun e w' => e = .returned (.tuple #[]) ∧ w'.rowIs g 40 10 (hashV (blockF B st) rv mv) ∧ w.grownBy w' (some g) := by
  have HB := hide hB
  have HT := hide htab
  have hlt := hrow.lt
  clear hB htab
  go_enter Tryd.func21, Tryd.ntmps21
  go_wp2_with fail
  refine (sched r o c B _ hr HB.out).mono ?_
  rintro e w1 ⟨cs, rfl, hcsz, hcs, hb1⟩
  have hrow1 := hrow.of_block (hb1.block g hlt)
  have ht1 : Tab w1 := HT.out.below hb1 (by omega)
  have hg1 := below_grownBy hb1
  clear hrow
  have hi : (Tryd.prog.info? 56).map (·.size) = some cs.size := by rw [hcsz]; exact Tryd.size64
  have hall : cs.all (·.oneCell') = true := by
    rw [Array.all_eq_true]
    intro i hi
    have h := hcs i (by omega)
    rw [Array.getElem?_eq_getElem hi] at h
    rw [Option.some.inj h]; rfl
  have HCS := hide hcs
  clear hcs
  go_wp2_with (first | (refine wpList_store_row rfl 56 _ _ rfl _ cs rfl rfl _ _ (heap_alloc_new w1 _) hi ?ho hall ?_; case ho => rw [hcsz]; rfl))
  obtain ⟨W2, hW2, hcell2, hgr2, hrow2, htab2⟩ : ∃ x, x = (w1.alloc (.cells (List.replicate 64 (Value.int .u32 0)).toArray 56)).setRow w1.heap.size cs ∧ x.heap[w1.heap.size]? = some (.cells cs 56 (0, 0)) ∧ w.grownBy x (some g) ∧ x.rowIs g 40 10 (hashV st rv mv) ∧ Tab x := by
    have hb : Below w1.heap.size w1 ((w1.alloc (.cells (List.replicate 64 (Value.int .u32 0)).toArray 56)).setRow w1.heap.size cs) := below_setRow ((Below.refl _ _).alloc (Nat.le_refl _) _) _ _ (Nat.le_refl _)
    refine ⟨_, rfl, setRow_heap _ _ _ _ _ _ (heap_alloc_new w1 _), ?_, hrow1.of_block (hb.block g hrow1.lt), ht1.below hb (by have := hrow1.lt; omega)⟩
    have h := grownBy_none hg1 (below_grownBy hb)
    exact ⟨h.os, h.tape, h.output, h.size, fun k hk _ => h.block k hk (by simp)⟩
  obtain ⟨s0, es0⟩ : ∃ s, s = st 0 := ⟨_, rfl⟩
  have c0 : W2.cell? ⟨g, 0, none⟩ = some (.int .u32 (s0 : Nat)) := by rw [es0]; exact hash_cell hrow2 0 (by omega)
  obtain ⟨s1, es1⟩ : ∃ s, s = st 1 := ⟨_, rfl⟩
  have c1 : W2.cell? ⟨g, 1, none⟩ = some (.int .u32 (s1 : Nat)) := by rw [es1]; exact hash_cell hrow2 1 (by omega)
  obtain ⟨s2, es2⟩ : ∃ s, s = st 2 := ⟨_, rfl⟩
  have c2 : W2.cell? ⟨g, 2, none⟩ = some (.int .u32 (s2 : Nat)) := by rw [es2]; exact hash_cell hrow2 2 (by omega)
  obtain ⟨s3, es3⟩ : ∃ s, s = st 3 := ⟨_, rfl⟩
  have c3 : W2.cell? ⟨g, 3, none⟩ = some (.int .u32 (s3 : Nat)) := by rw [es3]; exact hash_cell hrow2 3 (by omega)
  obtain ⟨s4, es4⟩ : ∃ s, s = st 4 := ⟨_, rfl⟩
  have c4 : W2.cell? ⟨g, 4, none⟩ = some (.int .u32 (s4 : Nat)) := by rw [es4]; exact hash_cell hrow2 4 (by omega)
  obtain ⟨s5, es5⟩ : ∃ s, s = st 5 := ⟨_, rfl⟩
  have c5 : W2.cell? ⟨g, 5, none⟩ = some (.int .u32 (s5 : Nat)) := by rw [es5]; exact hash_cell hrow2 5 (by omega)
  obtain ⟨s6, es6⟩ : ∃ s, s = st 6 := ⟨_, rfl⟩
  have c6 : W2.cell? ⟨g, 6, none⟩ = some (.int .u32 (s6 : Nat)) := by rw [es6]; exact hash_cell hrow2 6 (by omega)
  obtain ⟨s7, es7⟩ : ∃ s, s = st 7 := ⟨_, rfl⟩
  have c7 : W2.cell? ⟨g, 7, none⟩ = some (.int .u32 (s7 : Nat)) := by rw [es7]; exact hash_cell hrow2 7 (by omega)
  have HS := hide (show R8.of st = ⟨s0, s1, s2, s3, s4, s5, s6, s7⟩ by rw [es0, es1, es2, es3, es4, es5, es6, es7]; rfl)
  clear es0 es1 es2 es3 es4 es5 es6 es7
  have hW3 : (w1.alloc (.cells (List.replicate 64 (Value.int .u32 0)).toArray 56)).setRow w1.heap.size cs = W2 := hW2.symm
  change Code.wp _ _ _ _ ((w1.alloc (.cells (List.replicate 64 (Value.int .u32 0)).toArray 56)).setRow w1.heap.size cs)
  rw [hW3]
  clear hW2 hW3 hg1 hrow1 ht1 hb1 hall
  go_wp2_with fail
  go_quiet (fail)
  go_wp2_with (first | (refine wpList_load_row rfl 56 _ rfl _ rfl _ cs _ _ hcell2 Tryd.underlying56 rfl hi ?_))
  have hgr3 : w.grownBy (W2.drewN nq) (some g) := ⟨hgr2.os, hgr2.tape, hgr2.output, hgr2.size, hgr2.block⟩
  have hrow3 : (W2.drewN nq).rowIs g 40 10 (hashV st rv mv) := hrow2
  have htab3 : Tab (W2.drewN nq) := htab2
  generalize W2.drewN nq = W3 at *
  clear c0 c1 c2 c3 c4 c5 c6 c7 hcell2 hgr2 hrow2 htab2 hi W2 HT HB
  go_loopw [5, 6, 7, 8, 9, 10, 11, 12, 54] (fun a b1 c d e f1 g1 h i wx => ∃ (k A B1 C D E F G H : Nat), k ≤ 64 ∧ i = .int .i64 k ∧ a = .int .u32 A ∧ b1 = .int .u32 B1 ∧ c = .int .u32 C ∧ d = .int .u32 D ∧ e = .int .u32 E ∧ f1 = .int .u32 F ∧ g1 = .int .u32 G ∧ h = .int .u32 H ∧ Hid (rounds B ⟨s0, s1, s2, s3, s4, s5, s6, s7⟩ k = ⟨A, B1, C, D, E, F, G, H⟩) ∧ Hid (w.grownBy wx (some g)) ∧ Hid (wx.rowIs g 40 10 (hashV st rv mv)) ∧ Hid (Tab wx)) (fun _ _ _ _ _ _ _ _ i _ => 64 - (intOf i).toNat)
  case atStart => exact ⟨0, s0, s1, s2, s3, s4, s5, s6, s7, by omega, rfl, rfl, rfl, rfl, rfl, rfl, rfl, rfl, rfl, rfl, hgr3, hrow3, htab3⟩
  case round =>
    clear hgr3 hrow3 htab3
    obtain ⟨k, A, B1, C, D, E, F, G, H, hk, rfl, rfl, rfl, rfl, rfl, rfl, rfl, rfl, rfl, hR, hgr, hrow, htab⟩ := hrel
    by_cases hlt : k < 64
    · have ck : wr.cell? ⟨0, k, none⟩ = some (.int .u32 (shaKey k : Nat)) := htab.out k hlt
      obtain ⟨K, hK⟩ : ∃ K, K = shaKey k := ⟨_, rfl⟩
      rw [← hK] at ck
      have HK := hide hK
      clear hK
      obtain ⟨X, hX⟩ : ∃ X, X = wd B k := ⟨_, rfl⟩
      have hidx : ∀ w, (Instr.index 56 (.agg cs) (.int .i64 (k : Int))).run Tryd.prog w = .ok (.int .u32 (X : Nat)) w := run_index_agg 56 33 64 .u32 cs k _ Tryd.underlying56 Tryd.underlying33 Tryd.sizeU32 hlt (by rw [hX]; exact HCS.out k hlt)
      have HX := hide hX
      clear hX
      go_wp2_with fail
      go_region_held3 (fun w' => w'.cell? ⟨0, k, none⟩ = some (.int .u32 K)) (go_keep)
        (first | (go_at_call 27; refine (thrice _ _ _ _ _ ?_ ?_ ?_ ?_ ?_ ?_).mono ?_; decide; decide; decide; decide; decide; decide; rintro e w' ⟨rfl, rfl⟩))
      rename_i _ hH
      clear hH
      have ht := tt1_eqI A B1 C D E F G H K X
      simp only [ht]
      obtain ⟨T1, hT1⟩ : ∃ T, T = tt1 ⟨A, B1, C, D, E, F, G, H⟩ K X := ⟨_, rfl⟩
      simp only [← hT1]
      have HT1 := hide hT1
      clear ht hT1 hidx ck
      go_wp2_with (first | (go_at_call 27; refine (thrice _ _ _ _ _ ?_ ?_ ?_ ?_ ?_ ?_).mono ?_; decide; decide; decide; decide; decide; decide; rintro e w' ⟨rfl, rfl⟩))
      refine ⟨?rel, ?measure⟩
      case rel => exact ⟨k + 1, add32 T1 (tt2 ⟨A, B1, C, D, E, F, G, H⟩), A, B1, C, add32 D T1, E, F, G, by omega, by go_num, int_eq (tt2_eqI A B1 C D E F G H T1), rfl, rfl, rfl, int_eq (r_addm D T1), rfl, rfl, rfl, rounds_step hR.out HK.out HX.out HT1.out, grownBy_drew hgr.out, hrow.out.drew, htab.out⟩
      case measure => simp [intOf]; omega
    · have hR64 := hide (show R8.mk A B1 C D E F G H = rounds B (R8.of st) 64 by
        rw [HS.out, ← hR.out]; congr 1; omega)
      have hrow1 := hrow.out
      have hgr1 := hgr.out
      clear hR HS htab hrow hgr HCS
      go_wp2_with fail
      go_loopw [113] (fun i wx => ∃ (k : Nat) (f : Nat → Nat), k ≤ 8 ∧ i = .int .i64 k ∧ Hid (∀ j, j < 8 → f j = if j < k then blockF B st j else st j) ∧ wx.rowIs g 40 10 (hashV f rv mv) ∧ Hid (w.grownBy wx (some g))) (fun i _ => 8 - (intOf i).toNat)
      case atStart => exact ⟨0, st, by omega, rfl, fun j _ => by simp, hrow1, hgr1⟩
      case round =>
        clear hrow1 hgr1
        obtain ⟨m, f, hm, rfl, hf, hrow, hgr⟩ := hrel
        by_cases hlt8 : m < 8
        · have cm := hash_cell hrow m hlt8
          have hfz := hrow.frozen m
          obtain ⟨S, hS⟩ : ∃ S, S = f m := ⟨_, rfl⟩
          obtain ⟨V, hV⟩ : ∃ V, V = R8.get ⟨A, B1, C, D, E, F, G, H⟩ m := ⟨_, rfl⟩
          rw [← hS] at cm
          have hidx : ∀ w, (Instr.index 34 (.agg #[.int .u32 A, .int .u32 B1, .int .u32 C, .int .u32 D, .int .u32 E, .int .u32 F, .int .u32 G, .int .u32 H]) (.int .i64 (m : Int))).run Tryd.prog w = .ok (.int .u32 (V : Nat)) w := run_index_agg 34 33 8 .u32 _ m _ Tryd.underlying34 Tryd.underlying33 Tryd.sizeU32 hlt8 (by rw [hV]; exact r8_at A B1 C D E F G H m hlt8)
          have HY := hide (show add32 S V = blockF B st m by rw [hS, hV, hf.out m hlt8, if_neg (by omega), hR64.out]; rfl)
          have he := r_addm S V
          clear hS hV
          go_wp2_with fail
          go_region
          simp only [he]
          obtain ⟨Y, hY⟩ : ∃ Y, Y = add32 S V := ⟨_, rfl⟩
          simp only [← hY]
          rw [← hY] at HY
          clear hY he hidx cm hfz
          go_wp2_with fail
          go_roundw
          case rel =>
            refine ⟨m + 1, fun j => if j = m then blockF B st j else f j, by omega, by go_num, fun j hj => ?_, (hash_set hrow hlt8 HY.out).drew, grownBy_drew (grownBy_set hgr.out _)⟩
            show (if j = m then blockF B st j else f j) = _
            by_cases e : j = m
            · rw [if_pos e, if_pos (by omega)]
            · rw [if_neg e, hf.out j hj]
              by_cases e2 : j < m
              · rw [if_pos e2, if_pos (by omega)]
              · rw [if_neg e2, if_neg (by omega)]
          case measure => simp [intOf]; omega
        · have hrow2 : wr.rowIs g 40 10 (hashV (blockF B st) rv mv) := hrow.congr fun i _ => by
            rw [hashV, hashV]
            by_cases e : i < 8
            · rw [if_pos e, if_pos e, hf.out i e, if_pos (by omega)]
            · rw [if_neg e, if_neg e]
          go_wp2_with fail
          go_end0
          exact ⟨rfl, hrow2, hgr.out⟩
end Go.Proofs.YtconcnndghmdfaaDoor

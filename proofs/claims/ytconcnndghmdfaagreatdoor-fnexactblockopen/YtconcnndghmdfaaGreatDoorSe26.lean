/- Put together: ImpTake, ImpRow. -/
import Derived.Test.YtconcnndghmdfaaGreatDoorSe25
import Derived.Test.YtconcnndghmdfaaGreatDoorSe6
import Derived.ArgAppend
import Derived.Below
import Derived.Lib.AppendStr
import Derived.Test.YtconcnndghmdfaaGreatDoorSe1
import Derived.Test.YtconcnndghmdfaaGreatDoorSe3
namespace Go.Proofs.YtconcnndghmdfaaGreatDoor
open Go.RowKit
theorem run_index_agg {P : Program} (t e n : Nat) (kd : IntKind) (cs : Array Value) (k : Nat) (v : Value) (ht : P.underlying t = some (.array n e)) (he : P.underlying e = some (.int kd)) (hi : (P.info? e).map (·.size) = some 1) (hk : k < n) (hv : cs[k]? = some v) (w : World) :
    (Instr.index t (.agg cs) (.int .i64 (k : Int))).run P w = .ok v w := by
  obtain ⟨i, hi, hs⟩ := Option.map_eq_some_iff.1 hi
  simp [Instr.index, asIntOf, run_underlying ht, hk, Go.part, isAgg, run_underlying he, sizeOf, typeInfo, hi, hs, hv]
/-- What a hash's block holds. -/
def hashV (st : Nat → Nat) (rv : Value) (mv : Value) (j : Nat) : Value := if j < 8 then .int .u32 (st j : Nat) else if j = 8 then rv else mv
theorem hash_cell {w : World} {g T : Nat} {st : Nat → Nat} {rv mv : Value} (h : w.rowIs g T 10 (hashV st rv mv)) (j : Nat) (hj : j < 8) : w.cell? ⟨g, j, none⟩ = some (.int .u32 (st j : Nat)) := by
  have := h.cell (i := j) (by omega)
  rw [hashV, if_pos hj] at this; exact this
/-- The table of the rounds' numbers, where the program keeps it. -/
def Tab (w : World) : Prop := ∀ j, j < 64 → w.cell? ⟨1, j, none⟩ = some (.int .u32 (shaKey j : Nat))
theorem Tab.lt {w : World} (h : Tab w) : 1 < w.heap.size := by
  have h0 := h 0 (by omega)
  exact World.block_lt_of_cell? w _ h0
theorem Tab.below {w w' : World} {B : Nat} (h : Tab w) (hb : Below B w w') (hB : 1 < B) : Tab w' := fun j hj => (hb.cell (p := ⟨1, j, none⟩) hB).trans (h j hj)
theorem Tryz.sizeU32 : (Tryz.prog.info? 176).map (·.size) = some 1 := by kernel_rfl
theorem Tryz.size8 : (Tryz.prog.info? 187).map (·.size) = some 8 := by kernel_rfl
theorem r8_at (A B C D E F G H k : Nat) (h : k < 8) : (#[.int .u32 A, .int .u32 B, .int .u32 C, .int .u32 D, .int .u32 E, .int .u32 F, .int .u32 G, .int .u32 H] : Array Value)[k]? = some (.int .u32 (R8.get ⟨A, B, C, D, E, F, G, H⟩ k : Nat)) := by
  match k, h with
  | 0, _ => rfl
  | 1, _ => rfl
  | 2, _ => rfl
  | 3, _ => rfl
  | 4, _ => rfl
  | 5, _ => rfl
  | 6, _ => rfl
  | 7, _ => rfl
theorem hash_set {wr : World} {g T k : Nat} {f F : Nat → Nat} {rv mv : Value} {X : Nat} (h : wr.rowIs g T 10 (hashV f rv mv)) (hk : k < 8) (hX : X = F k) : (wr.setCell ⟨g, k, none⟩ (.int .u32 (X : Int))).rowIs g T 10 (hashV (fun j => if j = k then F j else f j) rv mv) := by
  refine (h.set k _).congr ?_
  intro i _
  by_cases e : i = k
  · subst e; rw [if_pos rfl, hashV, if_pos hk, if_pos rfl, hX]
  · rw [if_neg e, hashV, hashV, if_neg e]
theorem tt1_eqI (A B C D E F G H K X : Nat) :
    IntKind.u32.wrap (IntKind.u32.wrap (IntKind.u32.wrap (IntKind.u32.wrap (↑H + ↑(xor32 (xor32 (turn32 E 6) (turn32 E 11)) (turn32 E 25))) + bits .xor .u32 (bits .and .u32 ↑E ↑F) (bits .and .u32 (bits .xor .u32 IntKind.u32.max ↑E) ↑G)) + ↑K) + ↑X) = ((tt1 ⟨A, B, C, D, E, F, G, H⟩ K X : Nat) : Int) := by
  rw [r_not, r_and, r_and, r_xor, r_add, r_add, r_add, r_add]
  rfl
theorem tt2_eqI (A B C D E F G H T1 : Nat) :
    (↑T1 + (↑(xor32 (xor32 (turn32 A 2) (turn32 A 13)) (turn32 A 22)) + bits .xor .u32 (bits .xor .u32 (bits .and .u32 ↑A ↑B) (bits .and .u32 ↑A ↑C)) (bits .and .u32 ↑B ↑C)) % 4294967296) % 4294967296 = ((add32 T1 (tt2 ⟨A, B, C, D, E, F, G, H⟩) : Nat) : Int) := by
  rw [r_and, r_and, r_and, r_xor, r_xor, r_addm, r_addm]
  rfl
set_option maxRecDepth 100000 in
set_option maxHeartbeats 1600000 in
theorem take (g r o c : Nat) (st B : Nat → Nat) (rv mv : Value) (w : World) (hr : r < w.heap.size) (hB : ∀ j, j < 64 → B j < 256 ∧ w.cell? ⟨r, o + j, none⟩ = some (.int .u8 (B j : Nat)))
    (hrow : w.rowIs g 191 10 (hashV st rv mv)) (htab : Tab w) (hg0 : 1 < g) :
    Calls Tryz.prog 153 #[.pointer (some ⟨g, 0, none⟩), .slice (some ⟨r, o, none⟩) 64 c] w fun e w' => e = .returned (.tuple #[]) ∧ w'.rowIs g 191 10 (hashV (blockF B st) rv mv) ∧ w.grownBy w' (some g) := by
  have HB := hide hB
  have HT := hide htab
  have hlt := hrow.lt
  clear hB htab
  go_enter Tryz.func153, Tryz.ntmps153
  go_wp2_with fail
  refine (sched r o c B _ hr HB.out).mono ?_
  rintro e w1 ⟨cs, rfl, hcsz, hcs, hb1⟩
  have hrow1 := hrow.of_block (hb1.block g hlt)
  have ht1 : Tab w1 := HT.out.below hb1 (by omega)
  have hg1 := below_grownBy hb1
  clear hrow
  have hi : (Tryz.prog.info? 235).map (·.size) = some cs.size := by rw [hcsz]; exact Tryz.size64
  have hall : cs.all (·.oneCell') = true := by
    rw [Array.all_eq_true]
    intro i hi
    have h := hcs i (by omega)
    rw [Array.getElem?_eq_getElem hi] at h
    rw [Option.some.inj h]; rfl
  have HCS := hide hcs
  clear hcs
  go_wp2_with (first | (refine wpList_store_row rfl 235 _ _ rfl _ cs rfl rfl _ _ (heap_alloc_new w1 _) hi ?ho hall ?_; case ho => rw [hcsz]; rfl))
  obtain ⟨W2, hW2, hcell2, hgr2, hrow2, htab2⟩ : ∃ x, x = (w1.alloc (.cells (List.replicate 64 (Value.int .u32 0)).toArray 235)).setRow w1.heap.size cs ∧ x.heap[w1.heap.size]? = some (.cells cs 235 (0, 0)) ∧ w.grownBy x (some g) ∧ x.rowIs g 191 10 (hashV st rv mv) ∧ Tab x := by
    have hb : Below w1.heap.size w1 ((w1.alloc (.cells (List.replicate 64 (Value.int .u32 0)).toArray 235)).setRow w1.heap.size cs) := below_setRow ((Below.refl _ _).alloc (Nat.le_refl _) _) _ _ (Nat.le_refl _)
    refine ⟨_, rfl, setRow_heap _ _ _ _ _ _ (heap_alloc_new w1 _), ?_, hrow1.of_block (hb.block g hrow1.lt), ht1.below hb (by have := hrow1.lt; omega)⟩
    have h := grownBy_none hg1 (below_grownBy hb)
    exact ⟨h.os, h.tape, h.output, h.size, fun k hk _ => h.block k hk (by simp)⟩
  obtain ⟨s0, es0⟩ : ∃ s, s = st 0 := ⟨_, rfl⟩
  have c0 : W2.cell? ⟨g, 0, none⟩ = some (.int .u32 (s0 : Nat)) := by rw [es0]; exact hash_cell hrow2 0 (by omega)
  obtain ⟨s1, es1⟩ : ∃ s, s = st 1 := ⟨_, rfl⟩
  have c1 : W2.cell? ⟨g, 1, none⟩ = some (.int .u32 (s1 : Nat)) := by rw [es1]; exact hash_cell hrow2 1 (by omega)
  obtain ⟨s2, es2⟩ : ∃ s, s = st 2 := ⟨_, rfl⟩
  have c2 : W2.cell? ⟨g, 2, none⟩ = some (.int .u32 (s2 : Nat)) := by rw [es2]; exact hash_cell hrow2 2 (by omega)
  obtain ⟨s3, es3⟩ : ∃ s, s = st 3 := ⟨_, rfl⟩
  have c3 : W2.cell? ⟨g, 3, none⟩ = some (.int .u32 (s3 : Nat)) := by rw [es3]; exact hash_cell hrow2 3 (by omega)
  obtain ⟨s4, es4⟩ : ∃ s, s = st 4 := ⟨_, rfl⟩
  have c4 : W2.cell? ⟨g, 4, none⟩ = some (.int .u32 (s4 : Nat)) := by rw [es4]; exact hash_cell hrow2 4 (by omega)
  obtain ⟨s5, es5⟩ : ∃ s, s = st 5 := ⟨_, rfl⟩
  have c5 : W2.cell? ⟨g, 5, none⟩ = some (.int .u32 (s5 : Nat)) := by rw [es5]; exact hash_cell hrow2 5 (by omega)
  obtain ⟨s6, es6⟩ : ∃ s, s = st 6 := ⟨_, rfl⟩
  have c6 : W2.cell? ⟨g, 6, none⟩ = some (.int .u32 (s6 : Nat)) := by rw [es6]; exact hash_cell hrow2 6 (by omega)
  obtain ⟨s7, es7⟩ : ∃ s, s = st 7 := ⟨_, rfl⟩
  have c7 : W2.cell? ⟨g, 7, none⟩ = some (.int .u32 (s7 : Nat)) := by rw [es7]; exact hash_cell hrow2 7 (by omega)
  have HS := hide (show R8.of st = ⟨s0, s1, s2, s3, s4, s5, s6, s7⟩ by rw [es0, es1, es2, es3, es4, es5, es6, es7]; rfl)
  clear es0 es1 es2 es3 es4 es5 es6 es7
  have hW3 : (w1.alloc (.cells (List.replicate 64 (Value.int .u32 0)).toArray 235)).setRow w1.heap.size cs = W2 := hW2.symm
  change Code.wp _ _ _ _ ((w1.alloc (.cells (List.replicate 64 (Value.int .u32 0)).toArray 235)).setRow w1.heap.size cs)
  rw [hW3]
  clear hW2 hW3 hg1 hrow1 ht1 hb1 hall
  go_wp2_with fail
  go_quiet (fail)
  go_wp2_with (first | (refine wpList_load_row rfl 235 _ rfl _ rfl _ cs _ _ hcell2 Tryz.underlying235 rfl hi ?_))
  have hgr3 : w.grownBy (W2.drewN nq) (some g) := ⟨hgr2.os, hgr2.tape, hgr2.output, hgr2.size, hgr2.block⟩
  have hrow3 : (W2.drewN nq).rowIs g 191 10 (hashV st rv mv) := hrow2
  have htab3 : Tab (W2.drewN nq) := htab2
  generalize W2.drewN nq = W3 at *
  clear c0 c1 c2 c3 c4 c5 c6 c7 hcell2 hgr2 hrow2 htab2 hi W2 HT HB
  go_loopw [5, 6, 7, 8, 9, 10, 11, 12, 54] (fun a b1 c d e f1 g1 h i wx => ∃ (k A B1 C D E F G H : Nat), k ≤ 64 ∧ i = .int .i64 k ∧ a = .int .u32 A ∧ b1 = .int .u32 B1 ∧ c = .int .u32 C ∧ d = .int .u32 D ∧ e = .int .u32 E ∧ f1 = .int .u32 F ∧ g1 = .int .u32 G ∧ h = .int .u32 H ∧ Hid (rounds B ⟨s0, s1, s2, s3, s4, s5, s6, s7⟩ k = ⟨A, B1, C, D, E, F, G, H⟩) ∧ Hid (w.grownBy wx (some g)) ∧ Hid (wx.rowIs g 191 10 (hashV st rv mv)) ∧ Hid (Tab wx)) (fun _ _ _ _ _ _ _ _ i _ => 64 - (intOf i).toNat)
  case atStart => exact ⟨0, s0, s1, s2, s3, s4, s5, s6, s7, by omega, rfl, rfl, rfl, rfl, rfl, rfl, rfl, rfl, rfl, rfl, hgr3, hrow3, htab3⟩
  case round =>
    clear hgr3 hrow3 htab3
    obtain ⟨k, A, B1, C, D, E, F, G, H, hk, rfl, rfl, rfl, rfl, rfl, rfl, rfl, rfl, rfl, hR, hgr, hrow, htab⟩ := hrel
    by_cases hlt : k < 64
    · have ck : wr.cell? ⟨1, k, none⟩ = some (.int .u32 (shaKey k : Nat)) := htab.out k hlt
      obtain ⟨K, hK⟩ : ∃ K, K = shaKey k := ⟨_, rfl⟩
      rw [← hK] at ck
      have HK := hide hK
      clear hK
      obtain ⟨X, hX⟩ : ∃ X, X = wd B k := ⟨_, rfl⟩
      have hidx : ∀ w, (Instr.index 235 (.agg cs) (.int .i64 (k : Int))).run Tryz.prog w = .ok (.int .u32 (X : Nat)) w := run_index_agg 235 176 64 .u32 cs k _ Tryz.underlying235 Tryz.underlying176 Tryz.sizeU32 hlt (by rw [hX]; exact HCS.out k hlt)
      have HX := hide hX
      clear hX
      go_wp2_with fail
      go_region_held3 (fun w' => w'.cell? ⟨1, k, none⟩ = some (.int .u32 K)) (go_keep)
        (first | (go_at_call 161; refine (thrice _ _ _ _ _ ?_ ?_ ?_ ?_ ?_ ?_).mono ?_; decide; decide; decide; decide; decide; decide; rintro e w' ⟨rfl, rfl⟩))
      rename_i _ hH
      clear hH
      have ht := tt1_eqI A B1 C D E F G H K X
      simp only [ht]
      obtain ⟨T1, hT1⟩ : ∃ T, T = tt1 ⟨A, B1, C, D, E, F, G, H⟩ K X := ⟨_, rfl⟩
      simp only [← hT1]
      have HT1 := hide hT1
      clear ht hT1 hidx ck
      go_wp2_with (first | (go_at_call 161; refine (thrice _ _ _ _ _ ?_ ?_ ?_ ?_ ?_ ?_).mono ?_; decide; decide; decide; decide; decide; decide; rintro e w' ⟨rfl, rfl⟩))
      refine ⟨?rel, ?measure⟩
      case rel => exact ⟨k + 1, add32 T1 (tt2 ⟨A, B1, C, D, E, F, G, H⟩), A, B1, C, add32 D T1, E, F, G, by omega, by go_num, int_eq (tt2_eqI A B1 C D E F G H T1), rfl, rfl, rfl, int_eq (r_addm D T1), rfl, rfl, rfl, rounds_step hR.out HK.out HX.out HT1.out, grownBy_drew hgr.out, hrow.out.drew, htab.out⟩
      case measure => simp [intOf]; omega
    · have hR64 := hide (show R8.mk A B1 C D E F G H = rounds B (R8.of st) 64 by
        rw [HS.out, ← hR.out]; congr 1; omega)
      have hrow1 := hrow.out
      have hgr1 := hgr.out
      clear hR HS htab hrow hgr HCS
      go_wp2_with fail
      go_loopw [113] (fun i wx => ∃ (k : Nat) (f : Nat → Nat), k ≤ 8 ∧ i = .int .i64 k ∧ Hid (∀ j, j < 8 → f j = if j < k then blockF B st j else st j) ∧ wx.rowIs g 191 10 (hashV f rv mv) ∧ Hid (w.grownBy wx (some g))) (fun i _ => 8 - (intOf i).toNat)
      case atStart => exact ⟨0, st, by omega, rfl, fun j _ => by simp, hrow1, hgr1⟩
      case round =>
        clear hrow1 hgr1
        obtain ⟨m, f, hm, rfl, hf, hrow, hgr⟩ := hrel
        by_cases hlt8 : m < 8
        · have cm := hash_cell hrow m hlt8
          have hfz := hrow.frozen m
          obtain ⟨S, hS⟩ : ∃ S, S = f m := ⟨_, rfl⟩
          obtain ⟨V, hV⟩ : ∃ V, V = R8.get ⟨A, B1, C, D, E, F, G, H⟩ m := ⟨_, rfl⟩
          rw [← hS] at cm
          have hidx : ∀ w, (Instr.index 187 (.agg #[.int .u32 A, .int .u32 B1, .int .u32 C, .int .u32 D, .int .u32 E, .int .u32 F, .int .u32 G, .int .u32 H]) (.int .i64 (m : Int))).run Tryz.prog w = .ok (.int .u32 (V : Nat)) w := run_index_agg 187 176 8 .u32 _ m _ Tryz.underlying187 Tryz.underlying176 Tryz.sizeU32 hlt8 (by rw [hV]; exact r8_at A B1 C D E F G H m hlt8)
          have HY := hide (show add32 S V = blockF B st m by rw [hS, hV, hf.out m hlt8, if_neg (by omega), hR64.out]; rfl)
          have he := r_addm S V
          clear hS hV
          go_wp2_with fail
          go_region
          simp only [he]
          obtain ⟨Y, hY⟩ : ∃ Y, Y = add32 S V := ⟨_, rfl⟩
          simp only [← hY]
          rw [← hY] at HY
          clear hY he hidx cm hfz
          go_wp2_with fail
          go_roundw
          case rel =>
            refine ⟨m + 1, fun j => if j = m then blockF B st j else f j, by omega, by go_num, fun j hj => ?_, (hash_set hrow hlt8 HY.out).drew, grownBy_drew (grownBy_set hgr.out _)⟩
            show (if j = m then blockF B st j else f j) = _
            by_cases e : j = m
            · rw [if_pos e, if_pos (by omega)]
            · rw [if_neg e, hf.out j hj]
              by_cases e2 : j < m
              · rw [if_pos e2, if_pos (by omega)]
              · rw [if_neg e2, if_neg (by omega)]
          case measure => simp [intOf]; omega
        · have hrow2 : wr.rowIs g 191 10 (hashV (blockF B st) rv mv) := hrow.congr fun i _ => by
            rw [hashV, hashV]
            by_cases e : i < 8
            · rw [if_pos e, if_pos e, hf.out i e, if_pos (by omega)]
            · rw [if_neg e, if_neg e]
          go_wp2_with fail
          go_end0
          exact ⟨rfl, hrow2, hgr.out⟩
end Go.Proofs.YtconcnndghmdfaaGreatDoor
namespace Go.Proofs.YtconcnndghmdfaaGreatDoor
open Go.RowKit Go

/-- Block g is as it was. -/
def sameBlk (w w' : World) (g : Nat) : Prop := w'.heap[g]? = w.heap[g]?
/-- The value v is nil, or a row of bytes l, in a block from base on that is not hb. -/
def oRow (w : World) (base hb : Nat) (v : Value) (l : List UInt8) : Prop :=
  (v = .slice none 0 0 ∧ l = []) ∨
  ∃ g o cap, v = .slice (some ⟨g, o, none⟩) l.length cap ∧ base ≤ g ∧ g ≠ hb ∧ g < w.heap.size ∧ l.length ≤ cap ∧ (∀ j, j < cap → (w.cell? ⟨g, o + j, none⟩).isSome = true ∧ w.frozen? ⟨g, o + j, none⟩ = false) ∧ ∀ j u, l[j]? = some u → w.cell? ⟨g, o + j, none⟩ = some (byteV u)

theorem oRow.kept {w w' : World} {base hb : Nat} {v : Value} {l : List UInt8} (h : oRow w base hb v l) (hg : w.grownBy w' (some hb)) : oRow w' base hb v l := by
  rcases h with h | ⟨g, o, cap, rfl, h1, h2, h3, h4, h5, h6⟩
  · exact .inl h
  · have hbk := hg.block g h3 (by simpa using h2)
    refine .inr ⟨g, o, cap, rfl, h1, h2, Nat.lt_of_lt_of_le h3 hg.size, h4, fun j hj => ?_, fun j u hu => ?_⟩
    · rw [World.cell?_of_block (w := w) hbk, World.frozen?_of_block (w := w) hbk]; exact h5 j hj
    · rw [World.cell?_of_block (w := w) hbk]; exact h6 j u hu
theorem oRow.form {w : World} {base hb : Nat} {v : Value} {l : List UInt8} (h : oRow w base hb v l) : ∃ a cap, v = .slice a l.length cap := by
  rcases h with ⟨rfl, rfl⟩ | ⟨g, o, cap, rfl, _⟩
  · exact ⟨_, _, rfl⟩
  · exact ⟨_, _, rfl⟩
theorem setCells_other : ∀ (vs : List Value) (o : Nat) (w : World) (b k : Nat), k ≠ b → (w.setCells b o vs).heap[k]? = w.heap[k]?
  | [], _, _, _, _, _ => rfl
  | _ :: vs, o, w, b, k, h => by
    show ((w.setCell _ _).setCells b (o + 1) vs).heap[k]? = _
    rw [setCells_other vs (o + 1) _ b k h, Below.heap_setCell _ _ _ _ h]
theorem strCells_byteV (s : ByteArray) : Lib.strCells s = s.data.toList.map byteV := rfl
theorem strCells_get (s : ByteArray) (j : Nat) (u : UInt8) (h : s.data.toList[j]? = some u) : (Lib.strCells s)[j]? = some (byteV u) := by rw [strCells_byteV, List.getElem?_map, h]; rfl

theorem run_append_room_str {P : Program} (w : World) (t u ty e : TypeId) (i : TypeInfo) (ht : P.underlying t = some (.slice e)) (hu : P.underlying u = some .string) (hi : P.info? e = some i) (hs1 : i.size = 1)
    (b off sLen sCap : Nat) (s : ByteArray) (hroom : sLen + s.size ≤ sCap) (hc : ∀ j, j < s.size → (w.cell? ⟨b, off + sLen + j, none⟩).isSome = true) (hf : ∀ j, j < s.size → w.frozen? ⟨b, off + sLen + j, none⟩ = false) :
    (Builtin.append_ #[t, u] ty #[.slice (some ⟨b, off, none⟩) sLen sCap, .string s]).run P w = .ok (.slice (some ⟨b, off, none⟩) (sLen + s.size) sCap) (w.setCells b (off + sLen) (Lib.strCells s)) := by
  have hfc := Lib.run_firstCells_string (P := P) w 1 s
  have hst := run_storeCells_cells (P := P) b (off + sLen) (Lib.strCells s) 0 w (by simpa [Lib.strCells_length] using hc) (by simpa [Lib.strCells_length] using hf) (Lib.strCells_oneCell s)
  simp only [Nat.add_zero] at hst
  simp [Builtin.append_, run_underlying ht, run_underlying hu, sizeOf, typeInfo, hi, hs1, Builtin.lenOf, hroom, hfc, Addr.add_lit, hst]

theorem oRow.of_own {w : World} {base hb e : Nat} {v : Value} {l : List UInt8} (h : w.ownsRow base e 1 v l.length (l.map byteV)) (hb' : hb < base) : oRow w base hb v l := by
  have h0 := h
  obtain ⟨_, ⟨rfl, hn⟩ | ⟨g, cap, cur, rfl, hg, hbk, hcap, _, hsz, _⟩⟩ := h
  · exact .inl ⟨rfl, List.length_eq_zero_iff.1 hn⟩
  · refine .inr ⟨g, 0, cap, rfl, hg, by omega, (h0.lt g rfl).2, hcap, fun j hj => ⟨?_, ?_⟩, fun j u hj => ?_⟩
    · rw [Nat.zero_add]
      simp only [World.cell?, hbk]
      rw [Array.getElem?_eq_getElem (by omega)]; rfl
    · simp [World.frozen?, hbk]
    · have hlt : j < l.length := by
        rcases Nat.lt_or_ge j l.length with h | h
        · exact h
        · rw [List.getElem?_eq_none h] at hj; cases hj
      have := h0.cellAt j (by omega)
      rw [Nat.zero_add, this, List.getElem?_map, hj]; rfl

/-- The run of 'append(v, s...)'. -/
theorem run_append_orow {P : Program} (w : World) (t u ty e : TypeId) (i : TypeInfo) (ht : P.underlying t = some (.slice e)) (hu : P.underlying u = some .string) (hi : P.info? e = some i) (hz : i.zero = some (.int .u8 0)) (hsize : i.size = 1) (hby : i.bytes = 1)
    (base hb : Nat) (v : Value) (l : List UInt8) (hrow : oRow w base hb v l) (s : ByteArray) (hlen : l.length + s.size ≤ 140737488355328) (hbase : base ≤ w.heap.size) (hhb : hb < w.heap.size) :
    ∃ v' w', (Builtin.append_ #[t, u] ty #[v, .string s]).run P w = .ok v' w' ∧ oRow w' base hb v' (l ++ s.data.toList) ∧ Below base w w' ∧ w'.heap[hb]? = w.heap[hb]? := by
  have hm : l.length + s.size ≤ maxLen := by unfold maxLen; omega
  have hll : (l ++ s.data.toList).length = l.length + s.size := by rw [List.length_append]; rfl
  have hmap : (l ++ s.data.toList).map byteV = l.map byteV ++ Lib.strCells s := by rw [List.map_append]; rfl
  rcases hrow with ⟨rfl, rfl⟩ | ⟨g, o, cap, rfl, h1, h2, h3, h4, h5, h6⟩
  · obtain ⟨v', w', hr, hown, hgr, _⟩ := Lib.run_append_own_string (P := P) w w.heap.size t u ty e i ht hu hi hz hsize hby (.slice none 0 0) 0 [] (World.ownsRow_nil w _ e 1) s (by simpa using hm) (by simpa using hlen) (Nat.le_refl _)
    refine ⟨v', w', hr, ?_, (Below.refl _ _).grown hgr hbase (fun k hk => by cases hk), hgr.block hb hhb (by simp [Value.ownBlock])⟩
    have hown' : w'.ownsRow w.heap.size e 1 v' ([] ++ s.data.toList).length (([] ++ s.data.toList).map byteV) := by rw [hll, hmap]; simpa using hown
    have h := oRow.of_own hown' hhb
    rcases h with h | ⟨g, o, cap, a1, a2, a3⟩
    · exact .inl h
    · exact .inr ⟨g, o, cap, a1, by omega, a3⟩
  · by_cases hroom : l.length + s.size ≤ cap
    · have hc : ∀ j, j < s.size → (w.cell? ⟨g, o + l.length + j, none⟩).isSome = true := fun j hj => by rw [Nat.add_assoc]; exact (h5 (l.length + j) (by omega)).1
      have hf : ∀ j, j < s.size → w.frozen? ⟨g, o + l.length + j, none⟩ = false := fun j hj => by rw [Nat.add_assoc]; exact (h5 (l.length + j) (by omega)).2
      have hr := run_append_room_str (P := P) w t u ty e i ht hu hi hsize g o l.length cap s hroom hc hf
      have hB := below_setCells (Lib.strCells s) (o + l.length) w g (Below.refl base w) h1
      have hcs : ∀ j, j < (Lib.strCells s).length → (w.cell? ⟨g, o + l.length + j, none⟩).isSome = true := fun j hj => hc j (by rwa [Lib.strCells_length] at hj)
      refine ⟨_, _, hr, .inr ⟨g, o, cap, by rw [hll], h1, h2, Nat.lt_of_lt_of_le h3 hB.size, by rw [hll]; exact hroom, fun j hj => ⟨?_, ?_⟩, fun j u hj => ?_⟩, hB, ?_⟩
      · by_cases hin : l.length ≤ j ∧ j < l.length + s.size
        · have := World.cell?_setCells_in g (Lib.strCells s) (o + l.length) w hcs (j - l.length) (by rw [Lib.strCells_length]; omega)
          rw [show o + l.length + (j - l.length) = o + j by omega] at this
          rw [this]; rfl
        · rw [World.cell?_setCells_out g _ _ w ⟨g, o + j, none⟩ (fun _ _ => by rw [Lib.strCells_length]; show o + j < _ ∨ _ ≤ o + j; omega)]
          exact (h5 j hj).1
      · rw [World.frozen?_setCells]; exact (h5 j hj).2
      · by_cases hin : j < l.length
        · rw [World.cell?_setCells_out g _ _ w ⟨g, o + j, none⟩ (fun _ _ => by show o + j < _ ∨ _ ≤ o + j; omega)]
          rw [List.getElem?_append_left hin] at hj
          exact h6 j u hj
        · rw [List.getElem?_append_right (by omega)] at hj
          have hjk : j - l.length < (Lib.strCells s).length := by
            rw [Lib.strCells_length]
            rcases Nat.lt_or_ge (j - l.length) s.size with h | h
            · exact h
            · rw [List.getElem?_eq_none (by simpa using h)] at hj; cases hj
          have := World.cell?_setCells_in g (Lib.strCells s) (o + l.length) w hcs (j - l.length) hjk
          rw [show o + l.length + (j - l.length) = o + j by omega] at this
          rw [this]
          have e2 := strCells_get s _ _ hj
          rw [List.getElem?_eq_getElem hjk] at e2
          rw [Option.some.inj e2]
      · exact setCells_other (Lib.strCells s) (o + l.length) w g hb (fun e => h2 e.symm)
    · have holds : ∀ j x, (l.map byteV)[j]? = some x → w.cell? ((⟨g, o, none⟩ : Addr).add j) = some x := fun j x hx => by
        rw [List.getElem?_map] at hx
        obtain ⟨y, hy, rfl⟩ := Option.map_eq_some_iff.1 hx
        rw [Addr.add_lit]; exact h6 j y hy
      have hr := Lib.run_append_grow_string (P := P) w t u ty e i (.int .u8 0) ht hu hi hz ⟨g, o, none⟩ l.length cap (l.map byteV) (by rw [hsize]; simp) holds s (by omega) (by omega) (by rw [hby]; exact growslice_fits (by omega) (by omega))
      have hge := grownCap_ge w (l.length + s.size) cap e
      have hcm : grownCap w (l.length + s.size) cap e ≤ maxLen := grownCap_le_maxLen w (l.length + s.size) cap e hm
      have hgrow : w.grownBy (w.drew.alloc (.cells ((l.map byteV).toArray ++ (Lib.strCells s).toArray ++ Builtin.zeroCells (Value.int .u8 0).cells (grownCap w (l.length + s.size) cap e - (l.length + s.size))) e)) none := ⟨rfl, rfl, rfl, by simp, fun k hk _ => Below.heap_alloc w.drew _ k hk⟩
      refine ⟨_, _, hr, ?_, (Below.refl _ _).grown hgrow hbase (fun k hk => by cases hk), hgrow.block hb hhb (by simp)⟩
      have hown : (w.drew.alloc (.cells ((l.map byteV).toArray ++ (Lib.strCells s).toArray ++ Builtin.zeroCells (Value.int .u8 0).cells (grownCap w (l.length + s.size) cap e - (l.length + s.size))) e)).ownsRow w.heap.size e 1 (.slice (some ⟨w.heap.size, 0, none⟩) (l.length + s.size) (grownCap w (l.length + s.size) cap e)) (l.length + s.size) (l.map byteV ++ Lib.strCells s) := by
        have hlen2 : (l.map byteV ++ Lib.strCells s).length = (l.length + s.size) * 1 := by rw [List.length_append, List.length_map, Lib.strCells_length, Nat.mul_one]
        refine ⟨hlen2, .inr ⟨w.heap.size, _, _, rfl, Nat.le_refl _, heap_alloc_new w.drew _, hge, hcm, ?_, ?_⟩⟩
        · have hz1 : (Value.int IntKind.u8 0).cells.size = 1 := rfl
          simp only [Array.size_append, List.size_toArray, size_zeroCells, hz1, List.length_map, Lib.strCells_length]
          omega
        · simp only [Array.toList_append, List.append_assoc]
          rw [← List.append_assoc, ← hlen2]
          exact List.take_left
      rw [← hmap, ← hll] at hown
      have h := oRow.of_own hown hhb
      rw [hll] at h
      rcases h with h | ⟨g', o', cap', a1, a2, a3⟩
      · exact .inl h
      · exact .inr ⟨g', o', cap', a1, by omega, a3⟩
theorem wpList_append_orow {P : Program} {w : World} {ops : Array Oper} {rest : List Oper} {o : Oper} {a : Act} {Q : Exit → Act → World → Prop}
    (hgd : o.guard = none) (sl x : Operand) (t u : TypeId) (hop : o.op = Op.call { callee := Callee.builtin Builtin.append, args := #[sl, x], argTypes := #[t, u] })
    (e : TypeId) (i : TypeInfo) (ht : P.underlying t = some (.slice e)) (hu : P.underlying u = some .string) (hi : P.info? e = some i) (hz : i.zero = some (.int .u8 0)) (hsize : i.size = 1) (hby : i.bytes = 1)
    (base hb : Nat) (v : Value) (l : List UInt8) (hs : a.eval sl = v) (hrow : oRow w base hb v l) (s : ByteArray) (hx : a.eval x = .string s) (hlen : l.length + s.size ≤ 140737488355328) (hbase : base ≤ w.heap.size) (hhb : hb < w.heap.size)
    (h : ∀ v' w', oRow w' base hb v' (l ++ s.data.toList) → Below base w w' → sameBlk w w' hb → wpList P ops Q rest (a.put o.dst v') w') :
    wpList P ops Q (o :: rest) a w := by
  refine wpList_plain hgd fun K hK => ?_
  obtain ⟨v', w', hr, h2, h3, h4⟩ := run_append_orow (P := P) w t u o.type e i ht hu hi hz hsize hby base hb v l hrow s hlen hbase hhb
  unfold Oper.wp execOp
  simp only [hop, resolve, invoke, builtin, Sem.run_bind, Sem.run_pure, Result.andThen_ok, List.map_toArray, List.map_cons, List.map_nil, hs, hx, hr]
  exact hK _ _ (h v' w' h2 h3 h4)
end Go.Proofs.YtconcnndghmdfaaGreatDoor

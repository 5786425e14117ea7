/- The walks over the laws' szBitS, toBit, toBitS, eqBit, eqBitS. -/
import Derived.Test.YtdoodkabmeojmaaRows
import Derived.Test.YtdoodkabmeojmaaLwV
import Derived.Test.YtdoodkabmeojmaaRangeE
import Derived.Test.YtdoodkabmeojmaaVal
import Derived.BigRegion
import Derived.BigQuiet
import Derived.Deep.QuietTactic
import Derived.Deep.RegionWith
namespace Go.Proofs.Ytdoodkabmeojmaa
open Go.RowKit
set_option maxRecDepth 100000 in
set_option maxHeartbeats 400000 in
theorem law_szBit (a : Option Addr) (len cap : Nat) (w : World) (hlen : len ≤ 9223372036854775807) :
    Calls Try.prog 22 #[.slice a len cap, .int .i64 1048576] w fun e w' => e = .returned (.int .i64 (if 1048576 < len then -1 else 1048576 - (len : Int))) ∧ w = w' := by
  by_cases h : 1048576 < len
  · have h' : (1048576 : Int) - (len : Int) < 0 := by omega
    rw [if_pos h]
    go_enter Try.func22, Try.ntmps22
    go_wp2_with fail
    go_ret
    exact ⟨rfl, rfl⟩
  · have h' : ¬ (1048576 : Int) - (len : Int) < 0 := by omega
    rw [if_neg h]
    go_enter Try.func22, Try.ntmps22
    go_wp2_with fail
    go_ret
    exact ⟨rfl, rfl⟩
set_option maxRecDepth 100000 in
set_option maxHeartbeats 400000 in
theorem law_toBit (c : Int) (b : Bool) (w : World) :
    Calls Try.prog 56 #[.agg #[.int .i64 c, .bool b]] w fun e w' => e = .returned (.agg #[.int .i64 c, .bool b]) ∧ Below w.heap.size w w' := by
  go_enter Try.func56, Try.ntmps56
  go_wp2_with fail
  exact bodyPost_ret (results_cell_row Try.results56 _ _ (w.heap.size + 1) 28 #[.int .i64 c, .bool b] (0, 0) _ rfl (by
    have h1 := heap_alloc_new (w.alloc (.cells #[.int .i64 c, .bool b] 77)) (.cells #[.int .i64 c, .bool b] 28)
    rw [World.size_alloc] at h1
    rw [Below.heap_alloc _ _ _ (by simp)]; exact h1) Try.underlying28 rfl (by kernel_rfl)) rfl ⟨rfl, (((Below.refl _ _).alloc (Nat.le_refl _) _).alloc (by simp) _).alloc (by simp; omega) _⟩
set_option maxRecDepth 100000 in
set_option maxHeartbeats 400000 in
theorem law_eqBit (c : Int) (b : Bool) (w : World) :
    Calls Try.prog 57 #[.agg #[.int .i64 c, .bool b], .agg #[.int .i64 c, .bool b]] w fun e w' => e = .returned (.bool true) ∧ Below w.heap.size w w' := by
  go_enter Try.func57, Try.ntmps57
  go_wp2_with fail
  go_ret
  exact ⟨rfl, ((Below.refl _ _).alloc (Nat.le_refl _) _).alloc (by simp) _⟩
theorem Try.infoBitL : (Try.prog.info? 28).map (fun i => (i.zero, i.size, i.bytes)) = some (some (.agg #[.int .i64 0, .bool false]), 2, 16) := by kernel_rfl
/-- 'make' of a list of bits. -/
theorem make_bits (n : Nat) (hn : n ≤ 1048576) (w : World) : (Instr.makeSlice 23 (.int .i64 (n : Int)) (.int .i64 (n : Int))).run Try.prog w = .ok (.slice (some ⟨w.heap.size, 0, none⟩) n n) (w.alloc (.cells (madeCells #[.int .i64 0, .bool false] (n * 2)) 28)) := by
  obtain ⟨i, hi, hz, hs, hb⟩ := info_parts Try.infoBitL
  have h := run_make (P := Try.prog) w 23 28 i _ Try.underlying23 hi hz .i64 .i64 n n (by omega) (by omega) (by rw [hb]; omega) (by omega)
  rw [hs] at h
  exact h
theorem row_made2 (w : World) (a b : Value) (n t : Nat) : (w.alloc (.cells (madeCells #[a, b] n) t)).rowIs w.heap.size t n (fun j => if j % 2 = 0 then a else b) :=
  ⟨_, heap_alloc_new _ _, size_madeCells _ _, fun i hi => by
    rcases Nat.mod_two_eq_zero_or_one i with h | h <;> simp [madeCells, hi, h]⟩
theorem set_bit {w : World} {g t n k : Nat} {f : Nat → Value} {u v : Value} (h : w.rowIs g t n f) : ((w.setCell ⟨g, k, none⟩ u).setCell ⟨g, k + 1, none⟩ v).rowIs g t n (fun j => if j = k then u else if j = k + 1 then v else f j) :=
  ((h.set k u).set (k + 1) v).congr fun i _ => by
    show (if i = k + 1 then v else if i = k then u else f i) = _
    by_cases e : i = k
    · rw [if_neg (by omega), if_pos e, if_pos e]
    · by_cases e2 : i = k + 1
      · rw [if_pos e2, if_neg e, if_pos e2]
      · rw [if_neg e2, if_neg e, if_neg e, if_neg e2]
set_option maxRecDepth 100000 in
set_option maxHeartbeats 800000 in
theorem law_toBitS (v : Value) (l : List (Int × Bool)) (w : World) (hlen : l.length ≤ 1048576) (hb : BitsI w w.heap.size v l) :
    Calls Try.prog 23 #[v] w fun e w' => ∃ o, e = .returned o ∧ BitsI w' w'.heap.size o l ∧ Below w.heap.size w w' := by
  obtain ⟨a, cap, rfl, hcap, hbits⟩ := hb
  have HB := hide hbits
  clear hbits
  obtain ⟨n, hn⟩ : ∃ n, n = l.length := ⟨_, rfl⟩
  rw [← hn] at hlen hcap ⊢
  have HN := hide hn
  have hcap' : (n : Int) ≤ (cap : Int) := by omega
  have hmk := make_bits n hlen
  clear hn
  go_enter Try.func23, Try.ntmps23
  go_wp2_with fail
  clear hmk
  go_loopw [4] (fun i wx => ∃ (k : Nat) (f : Nat → Value), k ≤ n ∧ i = .int .i64 k ∧ Hid (∀ j x, j < k → l[j]? = some x → f (2 * j) = .int .i64 x.1 ∧ f (2 * j + 1) = .bool x.2) ∧ Hid (wx.rowIs w.heap.size 28 (n * 2) f) ∧ Hid (Below w.heap.size w wx)) (fun i _ => n - (intOf i).toNat)
  case atStart => exact ⟨0, _, by omega, rfl, fun j x hj => by omega, row_made2 _ _ _ _ _, (Below.refl _ _).alloc (Nat.le_refl _) _⟩
  case round =>
    obtain ⟨k, f, hk, rfl, hf, hrw, hbl⟩ := hrel
    by_cases hlt : k < n
    · have hlt' : (k : Int) < (n : Int) := by omega
      obtain ⟨x, hx⟩ : ∃ x, l[k]? = some x := ⟨_, List.getElem?_eq_getElem (by rw [← HN.out]; exact hlt)⟩
      obtain h0 | ⟨r, o, rfl, hr, hcells⟩ := HB.out
      · rw [h0] at hx; simp at hx
      obtain ⟨x1, x2⟩ := hcells k x hx
      obtain ⟨q, hq⟩ : ∃ q, q = o + 2 * k := ⟨_, rfl⟩
      rw [← hq] at x1 x2
      have y1 := (hbl.out.cell (p := ⟨r, q, none⟩) hr).trans x1
      have y2 := (hbl.out.cell (p := ⟨r, q + 1, none⟩) hr).trans x2
      have n1 : o + 2 * k = q := hq.symm
      have n2 : o + k * 2 = q := by omega
      obtain ⟨p, hp⟩ : ∃ p, p = 2 * k := ⟨_, rfl⟩
      have n3 : 2 * k = p := hp.symm
      have n4 : k * 2 = p := by omega
      have n5 : o + p = q := by omega
      have HX := hide hx
      have HP := hide hp
      obtain ⟨c, b⟩ := x
      simp only at y1 y2
      have hbs := hbl.out.size
      have hgl := hrw.out.lt
      clear hcells hx x1 x2 hq hp HB
      go_wp2_with fail
      refine (law_toBit c b _).mono ?_
      rintro e w1 ⟨rfl, hb1⟩
      have r1 := hrw.out.of_block (hb1.block _ hgl)
      have b2 := hbl.out.trans (hb1.mono hbs)
      have k1 := r1.cell (i := p) (by have := HP.out; omega)
      have k2 := r1.cell (i := p + 1) (by have := HP.out; omega)
      have f1 := r1.frozen p
      have f2 := r1.frozen (p + 1)
      have R2 := hide (set_bit (k := p) (u := .int .i64 c) (v := .bool b) r1)
      have B2 := hide ((b2.setCell (p := ⟨w.heap.size, p, none⟩) (Nat.le_refl _) (.int .i64 c)).setCell (p := ⟨w.heap.size, p + 1, none⟩) (Nat.le_refl _) (.bool b))
      have hf2 := hide (show ∀ j x, j < k + 1 → l[j]? = some x → (fun j => if j = p then Value.int .i64 c else if j = p + 1 then .bool b else f j) (2 * j) = .int .i64 x.1 ∧ (fun j => if j = p then Value.int .i64 c else if j = p + 1 then .bool b else f j) (2 * j + 1) = .bool x.2 from fun j x hj hx => by
        have hP := HP.out
        show (if 2 * j = p then Value.int .i64 c else if 2 * j = p + 1 then .bool b else f (2 * j)) = .int .i64 x.1 ∧ (if 2 * j + 1 = p then Value.int .i64 c else if 2 * j + 1 = p + 1 then .bool b else f (2 * j + 1)) = .bool x.2
        by_cases e : j = k
        · subst e
          rw [HX.out] at hx
          rw [← Option.some.inj hx, if_pos (by omega), if_neg (by omega), if_pos (by omega)]
          exact ⟨rfl, rfl⟩
        · rw [if_neg (by omega), if_neg (by omega), if_neg (by omega), if_neg (by omega)]
          exact hf.out j x (by omega) hx)
      clear hb1 b2 r1 hrw hbl hf y1 y2 n1 n2
      go_wp2_with fail
      go_roundw
      case rel => exact ⟨k + 1, _, by omega, by go_num, hf2, R2, B2⟩
      case measure => simp [intOf]; omega
    · have hlt' : ¬ (k : Int) < (n : Int) := by omega
      have hfin := hide (show BitsI wr wr.heap.size (.slice (some ⟨w.heap.size, 0, none⟩) n n) l from
        ⟨_, n, by rw [HN.out], by rw [HN.out]; exact Nat.le_refl _, .inr ⟨w.heap.size, 0, rfl, hrw.out.lt, fun j x hx => by
          have hj := (List.getElem?_eq_some_iff.1 hx).1
          rw [← HN.out] at hj
          have h := hf.out j x (by omega) hx
          rw [Nat.zero_add, hrw.out.cell (i := 2 * j) (by omega), hrw.out.cell (i := 2 * j + 1) (by omega), h.1, h.2]
          exact ⟨rfl, rfl⟩⟩⟩)
      clear hf hrw
      go_wp2_with fail
      go_ret
      exact ⟨_, rfl, hfin.out, hbl.out⟩
set_option maxRecDepth 100000 in
set_option maxHeartbeats 800000 in
theorem law_eqBitS (va vb : Value) (l : List (Int × Bool)) (w : World) (hlen : l.length ≤ 1048576) (ha : BitsI w w.heap.size va l) (hb : BitsI w w.heap.size vb l) :
    Calls Try.prog 24 #[va, vb] w fun e w' => e = .returned (.bool true) ∧ Below w.heap.size w w' := by
  obtain ⟨aa, ca, rfl, hca, hA⟩ := ha
  obtain ⟨ab, cb, rfl, hcb, hB⟩ := hb
  have HA := hide hA
  have HB := hide hB
  clear hA hB
  obtain ⟨n, hn⟩ : ∃ n, n = l.length := ⟨_, rfl⟩
  rw [← hn] at hlen hca hcb ⊢
  have HN := hide hn
  have hca' : (n : Int) ≤ (ca : Int) := by omega
  have hcb' : (n : Int) ≤ (cb : Int) := by omega
  clear hn
  go_enter Try.func24, Try.ntmps24
  go_wp2_with fail
  go_loopw [5] (fun i wx => ∃ k : Nat, k ≤ n ∧ i = .int .i64 k ∧ Hid (Below w.heap.size w wx)) (fun i _ => n - (intOf i).toNat)
  case atStart => exact ⟨0, Nat.zero_le _, rfl, Below.refl _ _⟩
  case round =>
    obtain ⟨k, hk, rfl, hbl⟩ := hrel
    by_cases hlt : k < n
    · have hlt' : decide ((k : Int) < (n : Int)) = true := decide_eq_true (by omega)
      have hlt2 : (k : Int) < (n : Int) := by omega
      obtain ⟨x, hx⟩ : ∃ x, l[k]? = some x := ⟨_, List.getElem?_eq_getElem (by rw [← HN.out]; exact hlt)⟩
      obtain h0 | ⟨ra, oa, rfl, hra, hcsa⟩ := HA.out
      · rw [h0] at hx; simp at hx
      obtain h0 | ⟨rb, ob, rfl, hrb, hcsb⟩ := HB.out
      · rw [h0] at hx; simp at hx
      obtain ⟨x1, x2⟩ := hcsa k x hx
      obtain ⟨x3, x4⟩ := hcsb k x hx
      obtain ⟨p, hp⟩ : ∃ q, q = oa + 2 * k := ⟨_, rfl⟩
      obtain ⟨q, hq⟩ : ∃ q, q = ob + 2 * k := ⟨_, rfl⟩
      rw [← hp] at x1 x2
      rw [← hq] at x3 x4
      have y1 := (hbl.out.cell (p := ⟨ra, p, none⟩) hra).trans x1
      have y2 := (hbl.out.cell (p := ⟨ra, p + 1, none⟩) hra).trans x2
      have y3 := (hbl.out.cell (p := ⟨rb, q, none⟩) hrb).trans x3
      have y4 := (hbl.out.cell (p := ⟨rb, q + 1, none⟩) hrb).trans x4
      have n1 : oa + 2 * k = p := hp.symm
      have n2 : oa + k * 2 = p := by omega
      have n3 : ob + 2 * k = q := hq.symm
      have n4 : ob + k * 2 = q := by omega
      obtain ⟨c, b⟩ := x
      simp only at y1 y2 y3 y4
      have hbs := hbl.out.size
      clear hcsa hcsb HA HB hx x1 x2 x3 x4 hp hq
      go_wp2_with fail
      go_region_with ((go_at_call 57; refine (law_eqBit c b _).mono ?_; rintro e w9 ⟨rfl, hb9⟩))
      all_goals
        have B9 := hide (hbl.out.trans ((show Below wr.heap.size wr w9 from ⟨hb9.os, hb9.tape, hb9.output, hb9.size, hb9.block⟩).mono hbs))
        clear hb9 hbl y1 y2 y3 y4 n1 n2 n3 n4
        go_wp2_with fail
        go_roundw
        case rel => exact ⟨k + 1, by omega, by go_num, B9⟩
        case measure => simp [intOf]; omega
    · have hlt' : decide ((k : Int) < (n : Int)) = false := decide_eq_false (by omega)
      go_wp2_with fail
      go_ret
      exact ⟨rfl, hbl.out⟩
end Go.Proofs.Ytdoodkabmeojmaa

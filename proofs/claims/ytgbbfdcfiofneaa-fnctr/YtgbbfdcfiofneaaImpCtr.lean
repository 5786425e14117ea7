/- The walk over the program's Ctr. -/
import Derived.Test.YtgbbfdcfiofneaaImpHi
namespace Go.Proofs.Ytgbbfdcfiofneaa
open Go.RowKit
attribute [local irreducible] times sbox dbl dU encF ctrB
set_option maxRecDepth 100000 in
set_option maxHeartbeats 3200000 in
theorem imp_ctrA (key text : ByteArray) (N : Nat) (w : World) (h16 : key.size = 16) (ht : text.size ≤ 20000) (hN : N ≤ 9223372036854775807) :
    Calls Try.prog 9 #[.string key, .int .i64 (N : Int), .string text] w fun e w' => e = .returned (.string ⟨(ctrL (kB (keyF key)) N (bF text) text.size).toArray⟩) ∧ Below w.heap.size w w' := by
  have h16' : (key.size : Int) = 16 := by omega
  have hN0 : ¬ (N : Int) < 0 := by omega
  have ht' : ¬ (20000 : Int) < (text.size : Int) := by omega
  have htl : (text.size : Int) ≤ 20000 := by omega
  have hmk : ∀ w : World, (Instr.makeSlice 22 (.int .i64 (text.size : Int)) (.int .i64 (text.size : Int))).run Try.prog w = .ok (.slice (some ⟨w.heap.size, 0, none⟩) text.size text.size) (w.alloc (.cells (madeCells #[.int .u8 0] text.size) 5)) := run_make_row' (P := Try.prog) 22 5 (.int .u8 0) 1 (by kernel_rfl) Try.infoB8 rfl .i64 .i64 text.size (by omega) (by omega)
  have hat := hide (fun (p j : Nat) (hj : p + j < text.size) => ext_at text p text.size rfl j hj)
  have hex := hide (fun (p : Nat) (hp : p ≤ text.size) => ext_size text p text.size rfl hp)
  go_enter Try.func9, Try.ntmps9
  go_wp2_with fail
  refine (imp_cipher key _ h16).mono ?_
  rintro e w1 ⟨g, rfl, hgg, rc, hb1⟩
  go_wp2_with fail
  clear hmk
  have r0 := World.rowIs_made w1 (.int .u8 0) text.size 5
  have rc1 := rc.alloc (.cells (madeCells #[.int .u8 0] text.size) 5)
  have rb := hb1.alloc hb1.size (.cells (madeCells #[.int .u8 0] text.size) 5)
  have hgo : g < w1.heap.size := rc.lt
  have hbs := hb1.size
  generalize w1.alloc (.cells (madeCells #[.int .u8 0] text.size) 5) = W1 at *
  generalize w1.heap.size = ob at *
  obtain ⟨K, hK⟩ : ∃ K, K = kB (bF key) := ⟨_, rfl⟩
  rw [← hK] at rc1
  have HK := hide (show kB (keyF key) = K from hK.symm)
  obtain ⟨T, hT⟩ : ∃ T, T = bF text := ⟨_, rfl⟩
  rw [← hT] at hat
  have HT := hide hT
  clear rc hb1 hK hT
  go_loopw [9] (fun i wx => ∃ (m p : Nat) (f : Nat → UInt8), p = 16 * m ∧ p ≤ text.size + 15 ∧ i = .int .i64 p ∧ Hid (∀ j, j < text.size → f j = if j < p then ctrF K N T j else 0) ∧ wx.rowIs ob 5 text.size (u8V f) ∧ wx.rowIs g 59 432 (u8V (cipF K)) ∧ Below w.heap.size w wx) (fun i _ => text.size + 16 - (intOf i).toNat)
  case atStart => exact ⟨0, 0, fun _ => 0, rfl, by omega, rfl, fun j _ => by simp, r0, rc1, rb⟩
  case round =>
    clear r0 rc1 rb
    obtain ⟨m, p, f, hpm, hp, rfl, hf, r0, rc, rb⟩ := hrel
    by_cases hlt : p < text.size
    · have hlt' : (p : Int) < (text.size : Int) := by omega
      have hlt2 : (p : Int) ≤ (text.size : Int) := by omega
      have q1 : (p : Int) / 16 = (m : Int) := by omega
      have HP := hide hpm
      have hp2 : p ≤ 20000 := by omega
      have hm2 : m ≤ 20000 := by omega
      clear hpm
      go_wp2_with fail
      refine (imp_counted N m wr hN (by omega)).mono ?_
      rintro e w2 ⟨rfl, hb2⟩
      have r0a := r0.of_block (hb2.block _ r0.lt)
      have rca := rc.of_block (hb2.block _ rc.lt)
      have rba := rb.trans (hb2.mono rb.size)
      clear hb2 r0 rc rb
      go_wp2_with fail
      refine (imp_hidden g K (ctrB N m) w2 rca).mono ?_
      rintro e w3 ⟨rfl, hb3⟩
      have r0b := r0a.of_block (hb3.block _ r0a.lt)
      have rcb := rca.of_block (hb3.block _ rca.lt)
      have rbb := rba.trans (hb3.mono rba.size)
      obtain ⟨E, hE⟩ : ∃ E, E = encF K (ctrB N m) 10 := ⟨_, rfl⟩
      rw [← hE]
      have HE := hide hE
      clear hb3 r0a rca rba hE
      have z0 : (w3.alloc (.cells #[Value.int .u8 0, Value.int .u8 0, Value.int .u8 0, Value.int .u8 0, Value.int .u8 0, Value.int .u8 0, Value.int .u8 0, Value.int .u8 0, Value.int .u8 0, Value.int .u8 0, Value.int .u8 0, Value.int .u8 0, Value.int .u8 0, Value.int .u8 0, Value.int .u8 0, Value.int .u8 0] 48)).rowIs w3.heap.size 48 16 (u8V fun _ => 0) := zeros8_row 16 w3 _ _ rfl
      have hst := run_stB (P := Try.prog) (k := E) (row_there (o := 0) (n := 16) z0 (by omega))
      have lE : (bL 16 E).length = 16 := bL_len 16 E
      have hob3 := r0b.lt
      have s0 := row_setCells_other (b := w3.heap.size) (o := 0) (vs := bL 16 E) (r0b.alloc (.cells #[Value.int .u8 0, Value.int .u8 0, Value.int .u8 0, Value.int .u8 0, Value.int .u8 0, Value.int .u8 0, Value.int .u8 0, Value.int .u8 0, Value.int .u8 0, Value.int .u8 0, Value.int .u8 0, Value.int .u8 0, Value.int .u8 0, Value.int .u8 0, Value.int .u8 0, Value.int .u8 0] 48)) (by omega)
      have sc := row_setCells_other (b := w3.heap.size) (o := 0) (vs := bL 16 E) (rcb.alloc (.cells #[Value.int .u8 0, Value.int .u8 0, Value.int .u8 0, Value.int .u8 0, Value.int .u8 0, Value.int .u8 0, Value.int .u8 0, Value.int .u8 0, Value.int .u8 0, Value.int .u8 0, Value.int .u8 0, Value.int .u8 0, Value.int .u8 0, Value.int .u8 0, Value.int .u8 0, Value.int .u8 0] 48)) (by omega)
      have se := row_setCells0 (k := E) z0
      have sb := below_setCells' (b := w3.heap.size) (o := 0) (vs := bL 16 E) (rbb.alloc rbb.size (.cells #[Value.int .u8 0, Value.int .u8 0, Value.int .u8 0, Value.int .u8 0, Value.int .u8 0, Value.int .u8 0, Value.int .u8 0, Value.int .u8 0, Value.int .u8 0, Value.int .u8 0, Value.int .u8 0, Value.int .u8 0, Value.int .u8 0, Value.int .u8 0, Value.int .u8 0, Value.int .u8 0] 48)) rbb.size
      have sz := hide (show ((w3.alloc (.cells #[Value.int .u8 0, Value.int .u8 0, Value.int .u8 0, Value.int .u8 0, Value.int .u8 0, Value.int .u8 0, Value.int .u8 0, Value.int .u8 0, Value.int .u8 0, Value.int .u8 0, Value.int .u8 0, Value.int .u8 0, Value.int .u8 0, Value.int .u8 0, Value.int .u8 0, Value.int .u8 0] 48)).setCells w3.heap.size 0 (bL 16 E)).heap.size = w3.heap.size + 1 by rw [size_setCells, World.size_alloc])
      have R := hide (And.intro s0 (And.intro sc (And.intro se sb)))
      clear z0 s0 sc se sb r0b rcb rbb
      go_wp2_with fail
      clear hst lE
      obtain ⟨s0, sc, se, sb⟩ := R.out
      generalize (w3.alloc (.cells #[Value.int .u8 0, Value.int .u8 0, Value.int .u8 0, Value.int .u8 0, Value.int .u8 0, Value.int .u8 0, Value.int .u8 0, Value.int .u8 0, Value.int .u8 0, Value.int .u8 0, Value.int .u8 0, Value.int .u8 0, Value.int .u8 0, Value.int .u8 0, Value.int .u8 0, Value.int .u8 0] 48)).setCells w3.heap.size 0 (bL 16 E) = W4 at *
      generalize w3.heap.size = z at *
      obtain ⟨W5, hW5⟩ : ∃ x, x = W4.alloc (.cells #[Value.int .u8 0, Value.int .u8 0, Value.int .u8 0, Value.int .u8 0, Value.int .u8 0, Value.int .u8 0, Value.int .u8 0, Value.int .u8 0, Value.int .u8 0, Value.int .u8 0, Value.int .u8 0, Value.int .u8 0, Value.int .u8 0, Value.int .u8 0, Value.int .u8 0, Value.int .u8 0] 48) := ⟨_, rfl⟩
      have hz4 := sz.out
      have t0 : W5.rowIs ob 5 text.size (u8V f) := by rw [hW5]; exact s0.alloc _
      have tc : W5.rowIs g 59 432 (u8V (cipF K)) := by rw [hW5]; exact sc.alloc _
      have te : W5.rowIs z 48 16 (u8V E) := by rw [hW5]; exact se.alloc _
      have tp : W5.rowIs W4.heap.size 48 16 (u8V fun _ => 0) := by rw [hW5]; exact zeros8_row 16 W4 _ _ rfl
      have tb : Below w.heap.size w W5 := by rw [hW5]; exact sb.alloc sb.size _
      rw [← hW5]
      generalize hz1 : W4.heap.size = y at *
      have hzy : z < y := by omega
      clear hW5 s0 sc se sb R hz1 hz4 sz
      obtain ⟨c, hc⟩ : ∃ c, c = min (text.size - p) 16 := ⟨_, rfl⟩
      have hc1 : c ≤ 16 := by omega
      have hc2 : p + c ≤ text.size := by omega
      have HC := hide (show c = min (text.size - p) 16 from hc)
      clear hc
      obtain ⟨k, hk⟩ : ∃ k : Nat → UInt8, k = fun j => T (p + j) := ⟨_, rfl⟩
      have HKp := hide (show ∀ j, k j = T (p + j) from fun j => by rw [hk])
      clear hk
      have hmin := hide (show c = Nat.min (text.extract p text.size).size 16 by rw [hex.out p (by omega)]; exact HC.out)
      have hsrc := hide (show ∀ j, j < c → (text.extract p text.size).data.toList[j]? = some (k j) from fun j hj => by rw [HKp.out]; exact hat.out p j (by omega))
      have hth := row_there (w := W5.drew) (o := 0) (n := c) tp (by omega)
      go_region_held_law (fun _ => True) (trivial) (refine step_copy_SD (some 45) rfl rfl (.tmp 41) (.tmp 44) 22 9 rfl 5 Try.underlying22 (by kernel_rfl) y 0 16 16 (text.extract p text.size) rfl rfl c k hmin.out hsrc.out hth ?_)
      have v0 := row_setCells_other (b := y) (o := 0) (vs := bL c k) t0.drew (by omega)
      have vc := row_setCells_other (b := y) (o := 0) (vs := bL c k) tc.drew (by omega)
      have ve := row_setCells_other (b := y) (o := 0) (vs := bL c k) te.drew (by omega)
      have vp := row_setCells (o := 0) (n := c) (k := k) tp.drew (by omega)
      have vb := below_setCells' (b := y) (o := 0) (vs := bL c k) tb.drew (by have := tb.size; have := t0.lt; omega)
      generalize W5.drew.setCells y 0 (bL c k) = W6 at *
      obtain ⟨Pc, hPc⟩ : ∃ q : Nat → UInt8, q = fun j => if 0 ≤ j ∧ j < 0 + c then k (j - 0) else 0 := ⟨_, rfl⟩
      rw [← hPc] at vp
      have HPc := hide (show ∀ j, j < c → Pc j = k j from fun j hj => by rw [hPc]; show (if 0 ≤ j ∧ j < 0 + c then k (j - 0) else 0) = k j; rw [if_pos ⟨by omega, by omega⟩, Nat.sub_zero])
      clear hPc t0 tc te tp tb hth hmin hsrc
      go_wp2_with (first | (with_reducible (show wpList _ _ _ ({ dst := _, op := .load _ (.tmp 11), type := _, pos := _, after := _, guard := _ } :: _) _ _); refine wpList_load_B rfl 48 (.tmp 11) rfl y 0 rfl _ _ 16 _ Pc _ vp (Nat.le_refl _) (fun j _ => by rw [Nat.zero_add]) Try.underlying48 rfl Try.size16 ?_) | (with_reducible (show wpList _ _ _ ({ dst := _, op := .load _ (.tmp 10), type := _, pos := _, after := _, guard := _ } :: _) _ _); refine wpList_load_B rfl 48 (.tmp 10) rfl z 0 rfl _ _ 16 _ E _ ve (Nat.le_refl _) (fun j _ => by rw [Nat.zero_add]) Try.underlying48 rfl Try.size16 ?_))
      refine (imp_added Pc E W6).mono ?_
      rintro e w7 ⟨rfl, hb7⟩
      have u0 := v0.of_block (hb7.block _ v0.lt)
      have uc := vc.of_block (hb7.block _ vc.lt)
      have up := vp.of_block (hb7.block _ vp.lt)
      have ub := vb.trans (hb7.mono vb.size)
      obtain ⟨X, hX⟩ : ∃ X, X = fun j => Pc j ^^^ E j := ⟨_, rfl⟩
      rw [← hX]
      have HX := hide hX
      have hst := run_stB (P := Try.prog) (k := X) (row_there (o := 0) (n := 16) up (by omega))
      have lX : (bL 16 X).length = 16 := bL_len 16 X
      have R := hide (And.intro (row_setCells_other (b := y) (o := 0) (vs := bL 16 X) u0 (by omega)) (And.intro (row_setCells_other (b := y) (o := 0) (vs := bL 16 X) uc (by omega)) (And.intro (row_setCells0 (k := X) up) (below_setCells' (b := y) (o := 0) (vs := bL 16 X) ub (by omega)))))
      clear v0 vc ve vp vb hb7 hX u0 uc up ub
      go_wp2_with fail
      clear hst lX
      obtain ⟨x0, xc, xp, xb⟩ := R.out
      generalize w7.setCells y 0 (bL 16 X) = W8 at *
      clear R
      have hnc : ¬ text.size = p := by omega
      have hmin := hide (show c = Nat.min 16 (text.size - p) by have := HC.out; show c = min 16 (text.size - p); omega)
      have hrg := row_range (w := W8.drew) (o := 0) (n := c) (k := X) xp (by omega) (fun j _ => by rw [Nat.zero_add])
      have hth := row_there (w := W8.drew) (o := p) (n := c) x0 (by omega)
      go_region_held_law (fun _ => True) (trivial) (refine step_copy_BD (some 53) rfl rfl (.tmp 51) (.tmp 52) 22 22 rfl 5 Try.underlying22 (by kernel_rfl) ob p (text.size - p) (text.size - p) y 0 16 16 rfl rfl c X hmin.out hrg hth ?_)
      have y0 := row_setCells (o := p) (n := c) (k := X) x0.drew hc2
      have yc := row_setCells_other (b := ob) (o := p) (vs := bL c X) xc.drew (by omega)
      have yb := below_setCells' (b := ob) (o := p) (vs := bL c X) xb.drew hbs
      generalize W8.drew.setCells ob p (bL c X) = W9 at *
      have hf' := hide (show ∀ j, j < text.size → (if p ≤ j ∧ j < p + c then X (j - p) else f j) = if j < p + 16 then ctrF K N T j else 0 from fun j hj => by
        have hP := HP.out
        have hCC := HC.out
        by_cases e : p ≤ j ∧ j < p + c
        · rw [if_pos e, if_pos (by omega), HX.out]
          show Pc (j - p) ^^^ E (j - p) = _
          rw [HPc.out _ (by omega), HKp.out, HE.out, ctrF, show p + (j - p) = j by omega, show j / 16 = m by omega, show j % 16 = j - p by omega]
        · rw [if_neg e, hf.out j hj]
          by_cases e2 : j < p
          · rw [if_pos e2, if_pos (by omega)]
          · rw [if_neg e2, if_neg (by omega)])
      have hp16 := hide (show p + 16 = 16 * (m + 1) by have := HP.out; omega)
      clear x0 xc xp xb hrg hth hmin hf HX HPc HKp HE HC hat hex
      go_wp2_with fail
      go_roundw
      case rel => exact ⟨m + 1, p + 16, _, hp16.out, by omega, by go_num, hf', y0, yc, yb⟩
      case measure => simp [intOf]; omega
    · have hlt' : ¬ (p : Int) < (text.size : Int) := by omega
      have hcv := conv_row (P := Try.prog) (cap := text.size) (l := ctrL K N T text.size) r0 (fun j hj => by rw [ctrL, List.getElem?_map, List.getElem?_range hj, hf.out j hj, if_pos (by omega)]; rfl) (by simp [ctrL]) Try.underlying22 Try.underlying5 Try.underlying9
      have HR := hide (show (⟨(ctrL (kB (keyF key)) N (bF text) text.size).toArray⟩ : ByteArray) = ⟨(ctrL K N T text.size).toArray⟩ by rw [HK.out, HT.out])
      obtain ⟨X, hX⟩ : ∃ x : ByteArray, x = ⟨(ctrL K N T text.size).toArray⟩ := ⟨_, rfl⟩
      rw [← hX] at hcv HR
      clear hX hf
      go_wp2_with fail
      go_ret
      exact ⟨by rw [HR.out]; rfl, rb⟩
end Go.Proofs.Ytgbbfdcfiofneaa

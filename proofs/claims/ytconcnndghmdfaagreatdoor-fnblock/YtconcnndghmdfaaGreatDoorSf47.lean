/- Put together: LwV, DrawMat, DrawPk, SrcE, LwAt, TextRow. -/
import Derived.Test.YtconcnndghmdfaaGreatDoorSf46
namespace Go.Proofs.YtconcnndghmdfaaGreatDoor
open Go.RowKit
def valV (w : World) (v : Value) (n : Nat) (f : Nat → Value) : Prop :=
 ∃ ao cap, v = .slice ao n cap ∧ n ≤ cap ∧ (n = 0 ∨ ∃ g, ao = some ⟨g, 0, none⟩ ∧ g < w.heap.size ∧ ∀ j, j < n → w.cell? ⟨g, j, none⟩ = some (f j) ∧ w.frozen? ⟨g, j, none⟩ = false)
theorem valV.below {w w' : World} {v : Value} {n : Nat} {f : Nat → Value} (h : valV w v n f) (hb : Below w.heap.size w w') : valV w' v n f := by
 obtain ⟨ao, cap, rfl, hcap, h | ⟨g, rfl, hg, hc⟩⟩ := h
 · exact ⟨ao, cap, rfl, hcap, .inl h⟩
 · exact ⟨_, cap, rfl, hcap, .inr ⟨g, rfl, Nat.lt_of_lt_of_le hg hb.size, fun j hj => by rw [hb.cell (p := ⟨g, j, none⟩) hg, hb.frozen (p := ⟨g, j, none⟩) hg]; exact hc j hj⟩⟩
theorem valV.of_own {w : World} {base e n : Nat} {v : Value} {xs : List Value} {f : Nat → Value} (h : w.ownsRow base e 1 v n xs) (hf : ∀ j, j < n → xs[j]? = some (f j)) : valV w v n f := by
 have h0 := h
 obtain ⟨_, ⟨rfl, hn⟩ | ⟨g, cap, cur, rfl, hg, hb, hc, _⟩⟩ := h
 · exact ⟨none, 0, by rw [hn], by omega, .inl hn⟩
 · refine ⟨_, cap, rfl, hc, .inr ⟨g, rfl, (h0.lt g rfl).2, fun j hj => ⟨?_, h0.frozenAt j⟩⟩⟩
   rw [h0.cellAt j (by omega), hf j hj]
theorem valV.kept {w w' : World} {v : Value} {n : Nat} {f : Nat → Value} {r : Option Nat} (h : valV w v n f) (hg : w.grownBy w' r) (hr : ∀ k, v.ownBlock = some k → some k ≠ r) : valV w' v n f := by
 obtain ⟨ao, cap, rfl, hcap, h | ⟨g, rfl, hl, hc⟩⟩ := h
 · exact ⟨ao, cap, rfl, hcap, .inl h⟩
 · have hne := hr g rfl
   exact ⟨_, cap, rfl, hcap, .inr ⟨g, rfl, Nat.lt_of_lt_of_le hl hg.size, fun j hj => by rw [hg.cell_far ⟨g, j, none⟩ hl hne, hg.frozen_far ⟨g, j, none⟩ hl hne]; exact hc j hj⟩⟩
theorem valV.congr {w : World} {v : Value} {n : Nat} {f k : Nat → Value} (h : valV w v n f) (e : ∀ j, j < n → f j = k j) : valV w v n k := by
 obtain ⟨ao, cap, rfl, hcap, h | ⟨g, rfl, hl, hc⟩⟩ := h
 · exact ⟨ao, cap, rfl, hcap, .inl h⟩
 · exact ⟨_, cap, rfl, hcap, .inr ⟨g, rfl, hl, fun j hj => by rw [← e j hj]; exact hc j hj⟩⟩
def within (v : Value) (B C : Nat) : Prop := ∀ k, v.ownBlock = some k → B ≤ k ∧ k < C
theorem within.apart {v u : Value} {A B C D : Nat} (h : within v A B) (h2 : within u C D) (hb : B ≤ C ∨ D ≤ A) : ∀ k, v.ownBlock = some k → some k ≠ u.ownBlock := by
 intro k hk e
 have h3 := h k hk
 have h4 := h2 k e.symm
 omega
def valM (m : Nat) (w : World) (v : Value) (n : Nat) (f : Nat → Value) : Prop :=
 ∃ ao cap, v = .slice ao n cap ∧ n ≤ cap ∧ (n = 0 ∨ ∃ g, ao = some ⟨g, 0, none⟩ ∧ g < w.heap.size ∧ ∀ j, j < n * m → w.cell? ⟨g, j, none⟩ = some (f j) ∧ w.frozen? ⟨g, j, none⟩ = false)
theorem valM.below {m : Nat} {w w' : World} {v : Value} {n : Nat} {f : Nat → Value} (h : valM m w v n f) (hb : Below w.heap.size w w') : valM m w' v n f := by
 obtain ⟨ao, cap, rfl, hcap, h | ⟨g, rfl, hg, hc⟩⟩ := h
 · exact ⟨ao, cap, rfl, hcap, .inl h⟩
 · exact ⟨_, cap, rfl, hcap, .inr ⟨g, rfl, Nat.lt_of_lt_of_le hg hb.size, fun j hj => by rw [hb.cell (p := ⟨g, j, none⟩) hg, hb.frozen (p := ⟨g, j, none⟩) hg]; exact hc j hj⟩⟩
theorem valM.kept {m : Nat} {w w' : World} {v : Value} {n : Nat} {f : Nat → Value} {r : Option Nat} (h : valM m w v n f) (hg : w.grownBy w' r) (hr : ∀ k, v.ownBlock = some k → some k ≠ r) : valM m w' v n f := by
 obtain ⟨ao, cap, rfl, hcap, h | ⟨g, rfl, hl, hc⟩⟩ := h
 · exact ⟨ao, cap, rfl, hcap, .inl h⟩
 · have hne := hr g rfl
   exact ⟨_, cap, rfl, hcap, .inr ⟨g, rfl, Nat.lt_of_lt_of_le hl hg.size, fun j hj => by rw [hg.cell_far ⟨g, j, none⟩ hl hne, hg.frozen_far ⟨g, j, none⟩ hl hne]; exact hc j hj⟩⟩
theorem valM.of_own {m : Nat} {w : World} {base e n : Nat} {v : Value} {xs : List Value} {f : Nat → Value} (h : w.ownsRow base e m v n xs) (hf : ∀ j, j < n * m → xs[j]? = some (f j)) : valM m w v n f := by
 have h0 := h
 obtain ⟨_, ⟨rfl, hn⟩ | ⟨g, cap, cur, rfl, hg, hb, hc, _⟩⟩ := h
 · exact ⟨none, 0, by rw [hn], by omega, .inl hn⟩
 · refine ⟨_, cap, rfl, hc, .inr ⟨g, rfl, (h0.lt g rfl).2, fun j hj => ⟨?_, h0.frozenAt j⟩⟩⟩
   rw [h0.cellAt j hj, hf j hj]
set_option maxRecDepth 100000 in
set_option maxHeartbeats 400000 in
theorem src_pick (B : Nat) (w : World) (g : Nat) (a : Option Addr) (len cap : Nat) (z n : Nat) (f : Nat → ByteArray) (hn0 : 0 < n) (hn : n ≤ 1000) (hzg : z ≠ g) (hc : ∀ j, j < n → w.cell? ⟨z, j, none⟩ = some (.string (f j))) (hs : Src 60 B w g a len cap) :
 Calls Tryz.prog 43 #[.pointer (some ⟨g, 0, none⟩), .slice (some ⟨z, 0, none⟩) n n] w fun e w' => ∃ j, j < n ∧ e = .returned (.string (f j)) ∧ Src 60 B w' g a len cap ∧ w.grownBy w' (some g) := by
 have HC := hide hc
 have HS := hide hs
 clear hc hs
 go_enter Tryz.func43, Tryz.ntmps43
 go_wp2_with fail
 refine (src_n _ _ _ a len cap (n : Int) (by omega) HS.out).mono ?_
 rintro e w1 ⟨v, rfl, v0, v1, hs1, hg1⟩
 obtain ⟨j, rfl⟩ := Int.eq_ofNat_of_zero_le v0
 have hj : j < n := by omega
 have hj' : (j : Int) < (n : Int) := by omega
 have c1 : w1.cell? ⟨z, j, none⟩ = some (.string (f j)) := hg1.cell (a := ⟨z, j, none⟩) (HC.out j hj) (fun e => hzg (Option.some.inj e))
 have HS1 := hide hs1
 have HG1 := hide hg1
 clear hs1 hg1 HS HC v1
 obtain ⟨X, hX⟩ : ∃ X, X = f j := ⟨_, rfl⟩
 rw [← hX] at c1
 have HX := hide hX
 clear hX
 go_wp2_with fail
 go_ret
 exact ⟨j, hj, by rw [← HX.out]; rfl, HS1.out, HG1.out⟩
def four (j : Nat) : ByteArray := if j = 0 then ⟨#[97, 98, 99]⟩ else if j = 1 then ⟨#[97, 97, 97, 97]⟩ else if j = 2 then ⟨#[97, 98, 99, 97, 98, 99]⟩ else ⟨#[120]⟩
theorem four_size (j : Nat) : (four j).size ≤ 6 := by
 unfold four
 split
 · decide
 · split
   · decide
   · split <;> decide
theorem cut_size (t : ByteArray) : (t.extract 0 300).size ≤ 300 := by rw [ByteArray.size_extract]; omega
set_option maxRecDepth 100000 in
set_option maxHeartbeats 1600000 in
theorem src_text2 (B : Nat) (w : World) (g : Nat) (a : Option Addr) (len cap : Nat) (hs : Src 60 B w g a len cap) (hB : B ≤ w.heap.size) :
 Calls Tryz.prog 22 #[.pointer (some ⟨g, 0, none⟩)] w fun e w' => ∃ t : ByteArray, e = .returned (.string t) ∧ (t.size ≤ 300 ∨ ∃ n, n ≤ 4001 ∧ t = ⟨(List.replicate n (0 : UInt8)).toArray⟩) ∧ Src 60 B w' g a len cap ∧ w.grownBy w' (some g) := by
 have hgl := hs.lt
 have HS := hide hs
 clear hs
 go_enter Tryz.func22, Tryz.ntmps22
 go_wp2_with fail
 refine (src_n _ _ _ a len cap 12 (by omega) HS.out).mono ?_
 rintro e w1 ⟨x, rfl, x0, x1, hs1, hg1⟩
 have HS1 := hide hs1
 have HG1 := hide hg1
 obtain ⟨k1, rfl⟩ := Int.eq_ofNat_of_zero_le x0
 have hk1 : k1 < 12 := by omega
 clear hs1 hg1 HS x1
 go_wp2_with fail
 refine (src_bytes _ _ _ a len cap k1 (by omega) HS1.out).mono ?_
 rintro e w2 ⟨t0, rfl, ht0, hs2, hg2⟩
 have HS2 := hide hs2
 have HG2 := hide (grownBy_trans HG1.out hg2)
 have ht0' : t0.size ≤ 300 := by omega
 clear hs2 hg2 HS1 HG1 ht0
 go_wp2_with fail
 refine (src_n _ _ _ a len cap 5 (by omega) HS2.out).mono ?_
 rintro e w3 ⟨y, rfl, y0, y1, hs3, hg3⟩
 have HS3 := hide hs3
 have HG3 := hide (grownBy_trans HG2.out hg3)
 obtain ⟨k2, rfl⟩ := Int.eq_ofNat_of_zero_le y0
 have hk2 : k2 < 5 := by omega
 clear hs3 hg3 HS2 HG2 y1
 go_wp2_with fail
 go_loopw [3, 4] (fun tv i wx => ∃ (t : ByteArray) (k : Nat), k ≤ 5 ∧ tv = .string t ∧ i = .int .i64 k ∧ t.size ≤ 300 ∧ Hid (Src 60 B wx g a len cap) ∧ Hid (w.grownBy wx (some g))) (fun _ i _ => (intOf i).toNat)
 case atStart => exact ⟨t0, k2, by omega, rfl, rfl, ht0', HS3, HG3⟩
 case round =>
  clear HS3 HG3
  obtain ⟨t, k, hk, rfl, rfl, ht, hs, hg⟩ := hrel
  by_cases hk0 : 0 < k
  · have hk0' : (0 : Int) < (k : Int) := by omega
    go_wp2_with fail
    refine (src_n _ _ _ a len cap 3 (by omega) hs.out).mono ?_
    rintro e w4 ⟨c, rfl, c0, c1, hs4, hg4⟩
    have HS4 := hide hs4
    have HG4 := hide (grownBy_trans hg.out hg4)
    have hkb : (k : Int) ≤ 5 := by omega
    clear hs4 hg4 hs hg
    have ht300 : (t.size : Int) ≤ 300 := by omega
    by_cases hc0 : c = 0
    · have d0 : (c == 0) = true := by rw [hc0]; rfl
      clear hc0
      go_wp2_with fail
      all_goals
       exact ⟨⟨_, k - 1, by omega, rfl, congrArg _ (by omega), by first | exact cut_size _ | (simp only [ByteArray.size_append]; omega), HS4, HG4⟩, by simp [intOf]; omega⟩
    · have d0 : (c == 0) = false := by rw [beq_eq_false_iff_ne]; exact hc0
      by_cases hc1 : c = 1
      · have d1 : (c == 1) = true := by rw [hc1]; rfl
        clear hc0 hc1
        have S5 := hide (HS4.out.kept (grownBy_alloc (World.grownBy.refl w4 none) (.cells #[.string ⟨#[97, 98, 99]⟩, .string ⟨#[97, 97, 97, 97]⟩, .string ⟨#[97, 98, 99, 97, 98, 99]⟩, .string ⟨#[120]⟩] 9)) (fun k hk => by cases hk) (Nat.le_trans hB HG4.out.size))
        have G5 := hide (grownBy_alloc HG4.out (.cells #[.string ⟨#[97, 98, 99]⟩, .string ⟨#[97, 97, 97, 97]⟩, .string ⟨#[97, 98, 99, 97, 98, 99]⟩, .string ⟨#[120]⟩] 9))
        have hh := heap_alloc_new w4 (.cells #[.string ⟨#[97, 98, 99]⟩, .string ⟨#[97, 97, 97, 97]⟩, .string ⟨#[97, 98, 99, 97, 98, 99]⟩, .string ⟨#[120]⟩] 9)
        have hgz : w4.heap.size ≠ g := by have := HG4.out.size; omega
        go_wp2_with fail
        refine (src_pick B _ g a len cap w4.heap.size 4 four (by omega) (by omega) hgz (fun j hj => by
         rw [cell_of_row _ _ _ _ _ _ hh]
         match j, hj with
         | 0, _ => rfl
         | 1, _ => rfl
         | 2, _ => rfl
         | 3, _ => rfl) S5.out).mono ?_
        rintro e w6 ⟨j, hj, rfl, hs6, hg6⟩
        have HSX := hide hs6
        have HGX := hide (grownBy_trans G5.out hg6)
        have h4 := four_size j
        generalize four j = X at *
        have h4' : (X.size : Int) ≤ 6 := by omega
        clear hs6 hg6 S5 G5 hh HS4 HG4
        go_wp2_with fail
        all_goals
         exact ⟨⟨_, k - 1, by omega, rfl, congrArg _ (by omega), by first | exact cut_size _ | (simp only [ByteArray.size_append]; omega), HSX, HGX⟩, by simp [intOf]; omega⟩
      · have d1 : (c == 1) = false := by rw [beq_eq_false_iff_ne]; exact hc1
        clear hc0 hc1
        go_wp2_with fail
        refine (src_n _ _ _ a len cap 5 (by omega) HS4.out).mono ?_
        rintro e w5 ⟨y, rfl, y0, y1, hs5, hg5⟩
        have HS5 := hide hs5
        have HG5 := hide (grownBy_trans HG4.out hg5)
        obtain ⟨k5, rfl⟩ := Int.eq_ofNat_of_zero_le y0
        have hk5 : k5 < 5 := by omega
        clear hs5 hg5 HS4 HG4 y1
        go_wp2_with fail
        refine (src_bytes _ _ _ a len cap k5 (by omega) HS5.out).mono ?_
        rintro e w6 ⟨X, rfl, hX, hs6, hg6⟩
        have HSX := hide hs6
        have HGX := hide (grownBy_trans HG5.out hg6)
        have h4' : (X.size : Int) ≤ 6 := by omega
        clear hs6 hg6 HS5 HG5 hX
        go_wp2_with fail
        all_goals
         exact ⟨⟨_, k - 1, by omega, rfl, congrArg _ (by omega), by first | exact cut_size _ | (simp only [ByteArray.size_append]; omega), HSX, HGX⟩, by simp [intOf]; omega⟩
  · have hk0' : ¬ (0 : Int) < (k : Int) := by omega
    go_wp2_with fail
    refine (src_one _ _ _ a len cap 25 (by omega) hs.out).mono ?_
    rintro e w4 ⟨r, rfl, hs4, hg4⟩
    have HS4 := hide hs4
    have HG4 := hide (grownBy_trans hg.out hg4)
    clear hs4 hg4 hs hg
    cases r with
    | false =>
      go_wp2_with fail
      go_ret
      exact ⟨t, rfl, .inl ht, HS4.out, HG4.out⟩
    | true =>
      go_wp2_with fail
      refine (src_n _ _ _ a len cap 3 (by omega) HS4.out).mono ?_
      rintro e w5 ⟨y, rfl, y0, y1, hs5, hg5⟩
      have HS5 := hide hs5
      have HG5 := hide (grownBy_trans HG4.out hg5)
      obtain ⟨k5, rfl⟩ := Int.eq_ofNat_of_zero_le y0
      have hk5 : k5 < 3 := by omega
      obtain ⟨n, hn⟩ : ∃ n, n = 3999 + k5 := ⟨_, rfl⟩
      have s1 : (3999 : Int) + (k5 : Int) = (n : Int) := by omega
      have hn4 : n ≤ 4001 := by omega
      have hmk : ∀ w : World, (Instr.makeSlice 22 (.int .i64 (n : Int)) (.int .i64 (n : Int))).run Tryz.prog w = .ok (.slice (some ⟨w.heap.size, 0, none⟩) n n) (w.alloc (.cells (madeCells #[.int .u8 0] n) 5)) := run_make_row' (P := Tryz.prog) 22 5 (.int .u8 0) 1 Tryz.underlying22 (by kernel_rfl) rfl .i64 .i64 n (by omega) (by omega)
      have hcv := own_conv (P := Tryz.prog) (w := w5.alloc (.cells (madeCells #[.int .u8 0] n) 5)) (base := w5.heap.size) (e := 5) (v := .slice (some ⟨w5.heap.size, 0, none⟩) n n) (l := List.replicate n (0 : UInt8)) (by
       have h := World.ownsRow_lit (e := 5) (size := 1) (base := w5.heap.size) w5 (madeCells #[.int .u8 0] n) n (Nat.le_refl _) (by unfold maxLen; omega) (by rw [size_madeCells, Nat.mul_one])
       rw [made_bytes] at h
       rw [List.length_replicate]; exact h) Tryz.underlying22 Tryz.underlying5 Tryz.underlying9
      obtain ⟨X, hX⟩ : ∃ X : ByteArray, X = ⟨(List.replicate n (0 : UInt8)).toArray⟩ := ⟨_, rfl⟩
      rw [← hX] at hcv
      have hXs := hide (show X.size ≤ 300 ∨ ∃ n, n ≤ 4001 ∧ X = ⟨(List.replicate n (0 : UInt8)).toArray⟩ from .inr ⟨n, hn4, hX⟩)
      have SX := hide (HS5.out.kept (grownBy_alloc (World.grownBy.refl w5 none) (.cells (madeCells #[.int .u8 0] n) 5)) (fun k hk => by cases hk) (Nat.le_trans hB HG5.out.size))
      have GX := hide (grownBy_alloc HG5.out (.cells (madeCells #[.int .u8 0] n) 5))
      clear hs5 hg5 HS4 HG4 y1 hX hn HS5 HG5
      go_wp2_with fail
      go_ret
      exact ⟨X, rfl, hXs.out, SX.out, GX.out⟩
theorem src_text (B : Nat) (w : World) (g : Nat) (a : Option Addr) (len cap : Nat) (hs : Src 60 B w g a len cap) (hB : B ≤ w.heap.size) :
 Calls Tryz.prog 22 #[.pointer (some ⟨g, 0, none⟩)] w fun e w' => ∃ t : ByteArray, e = .returned (.string t) ∧ t.size ≤ 4001 ∧ Src 60 B w' g a len cap ∧ w.grownBy w' (some g) := by
 refine (src_text2 B w g a len cap hs hB).mono ?_
 rintro e w' ⟨t, rfl, ht, h1, h2⟩
 refine ⟨t, rfl, ?_, h1, h2⟩
 rcases ht with h | ⟨n, hn, rfl⟩
 · omega
 · rw [size_mk, List.length_replicate]; exact hn
theorem src_drewN {B : Nat} {w w2 : World} {g n : Nat} {a : Option Addr} {len cap : Nat} (hs : Src 60 B w2 g a len cap) (hg : w.grownBy w2 (some g)) (hB : B ≤ w2.heap.size) : Src 60 B (w2.drewN n) g a len cap ∧ w.grownBy (w2.drewN n) (some g) :=
 ⟨hs.kept (r := none) (show w2.grownBy (w2.drewN n) none from ⟨rfl, rfl, rfl, Nat.le_refl _, fun _ _ _ => rfl⟩) (fun k hk => by cases hk) hB, ⟨hg.os, hg.tape, hg.output, hg.size, hg.block⟩⟩
set_option maxRecDepth 100000 in
set_option maxHeartbeats 1600000 in
theorem src_spoil (B : Nat) (w : World) (g : Nat) (a : Option Addr) (len cap : Nat) (t : ByteArray) (ht : t.size ≤ 100000) (hs : Src 60 B w g a len cap) (hB : B ≤ w.heap.size) :
 Calls Tryz.prog 38 #[.pointer (some ⟨g, 0, none⟩), .string t] w fun e w' => ∃ u : ByteArray, e = .returned (.string u) ∧ u.size ≤ 100001 ∧ Src 60 B w' g a len cap ∧ w.grownBy w' (some g) := by
 have hgl := hs.lt
 have ht' : (t.size : Int) ≤ 100000 := by omega
 have HS := hide hs
 clear hs
 go_enter Tryz.func38, Tryz.ntmps38
 go_wp2_with fail
 refine (src_n _ _ _ a len cap _ (by omega) HS.out).mono ?_
 rintro e w1 ⟨x, rfl, x0, x1, hs1, hg1⟩
 have HS1 := hide hs1
 have HG1 := hide hg1
 obtain ⟨k, rfl⟩ := Int.eq_ofNat_of_zero_le x0
 have hk : k ≤ t.size := by omega
 have hk' : (k : Int) ≤ (t.size : Int) := by omega
 clear hs1 hg1 HS x1
 go_wp2_with fail
 refine (src_n _ _ _ a len cap 17 (by omega) HS1.out).mono ?_
 rintro e w2 ⟨y, rfl, y0, y1, hs2, hg2⟩
 have HS2 := hide hs2
 have HG2 := hide (grownBy_trans HG1.out hg2)
 obtain ⟨j, rfl⟩ := Int.eq_ofNat_of_zero_le y0
 have hj : j < 17 := by omega
 have hj' : (j : Int) < 17 := by omega
 clear hs2 hg2 HS1 HG1 y1
 obtain ⟨z, hz⟩ : ∃ z : UInt8, z = (⟨#[32, 10, 48, 97, 45, 110, 44, 58, 93, 255, 40, 120, 126, 49, 128, 225, 59]⟩ : ByteArray)[j]'hj := ⟨_, rfl⟩
 have hz2 := hz.symm
 have hcv := own_conv (P := Tryz.prog) (w := w2.alloc (.cells #[.int .u8 (z.toNat : Int)] 5)) (base := w2.heap.size) (e := 5) (v := .slice (some ⟨w2.heap.size, 0, none⟩) 1 1) (l := [z]) (by
  have h := World.ownsRow_lit (e := 5) (size := 1) (base := w2.heap.size) w2 #[.int .u8 (z.toNat : Int)] 1 (Nat.le_refl _) (by unfold maxLen; omega) rfl
  exact h) Tryz.underlying22 Tryz.underlying5 Tryz.underlying9
 obtain ⟨C, hC⟩ : ∃ C : ByteArray, C = ⟨[z].toArray⟩ := ⟨_, rfl⟩
 have hCs : C.size = 1 := by rw [hC]; rfl
 rw [← hC] at hcv
 have S3 := hide (HS2.out.kept (grownBy_alloc (World.grownBy.refl w2 none) (.cells #[.int .u8 (z.toNat : Int)] 5)) (fun k hk => by cases hk) (Nat.le_trans hB HG2.out.size))
 have G3 := hide (grownBy_alloc HG2.out (.cells #[.int .u8 (z.toNat : Int)] 5))
 clear hz hC HS2 HG2
 have s1 := fun W => (show (Instr.slice 9 (.string t) none (some (.int .i64 (k : Int))) none).run Tryz.prog W = .ok (.string (t.extract 0 k)) W by
  rw [run_slice_string_h W 9 t Tryz.underlying9 .i64 (k : Int) (by omega) (by omega), Int.toNat_natCast])
 have s2 := fun W => run_rest (P := Tryz.prog) W 9 t k Tryz.underlying9 hk
 obtain ⟨A, hA⟩ : ∃ A : ByteArray, A = t.extract 0 k := ⟨_, rfl⟩
 obtain ⟨D, hD⟩ : ∃ D : ByteArray, D = t.extract k t.size := ⟨_, rfl⟩
 have hAs : A.size = k := by rw [hA, ByteArray.size_extract]; omega
 have hDs : D.size = t.size - k := by rw [hD, ByteArray.size_extract]; omega
 rw [← hA] at s1
 rw [← hD] at s2
 clear hD
 by_cases hkt : k = t.size
 · have hkt' : (k : Int) = (t.size : Int) := by omega
   have d1 : ((k : Int) == (t.size : Int)) = true := by rw [hkt]; exact beq_self_eq_true _
   clear hA hkt
   go_wp2_with fail
   go_quiet (fail)
   have R := hide (src_drewN (n := nq) S3.out G3.out (Nat.le_trans hB G3.out.size))
   go_wp2_with fail
   go_ret
   exact ⟨_, rfl, by simp only [ByteArray.size_append]; omega, R.out.1, R.out.2⟩
 · have hkt' : ¬ (k : Int) = (t.size : Int) := by omega
   have d1 : ((k : Int) == (t.size : Int)) = false := by rw [beq_eq_false_iff_ne]; omega
   have s3 := fun W => run_rest (P := Tryz.prog) W 9 t (k + 1) Tryz.underlying9 (by omega)
   obtain ⟨F, hF⟩ : ∃ F : ByteArray, F = t.extract (k + 1) t.size := ⟨_, rfl⟩
   have hFs : F.size = t.size - (k + 1) := by rw [hF, ByteArray.size_extract]; omega
   rw [← hF] at s3
   obtain ⟨k1, hk1⟩ : ∃ k1, k1 = k + 1 := ⟨_, rfl⟩
   rw [← hk1] at s3
   have a1 : (k : Int) + 1 = (k1 : Int) := by omega
   have a2 : IntKind.i64.wrap ((k : Int) + 1) = (k1 : Int) := by rw [IntKind.wrap_i64]; omega
   clear hF hA hk1
   go_wp2_with fail
   refine (src_one _ _ _ a len cap 3 (by omega) S3.out).mono ?_
   rintro e w4 ⟨r, rfl, hs4, hg4⟩
   have S4 := hide hs4
   have G4 := hide (grownBy_trans G3.out hg4)
   clear hs4 hg4 S3 G3
   cases r with
   | true =>
     go_wp2_with fail
     go_quiet (fail)
     have R := hide (src_drewN (n := nq) S4.out G4.out (Nat.le_trans hB G4.out.size))
     go_wp2_with fail
     go_ret
     exact ⟨_, rfl, by simp only [ByteArray.size_append]; omega, R.out.1, R.out.2⟩
   | false =>
     go_wp2_with fail
     refine (src_one _ _ _ a len cap 2 (by omega) S4.out).mono ?_
     rintro e w5 ⟨r, rfl, hs5, hg5⟩
     have S5 := hide hs5
     have G5 := hide (grownBy_trans G4.out hg5)
     clear hs5 hg5 S4 G4
     cases r with
     | true =>
       go_wp2_with fail
       go_quiet (fail)
       have R := hide (src_drewN (n := nq) S5.out G5.out (Nat.le_trans hB G5.out.size))
       go_wp2_with fail
       go_ret
       exact ⟨_, rfl, by simp only [ByteArray.size_append]; omega, R.out.1, R.out.2⟩
     | false =>
       go_wp2_with fail
       go_quiet (fail)
       have R := hide (src_drewN (n := nq) S5.out G5.out (Nat.le_trans hB G5.out.size))
       go_wp2_with fail
       go_ret
       exact ⟨_, rfl, by simp only [ByteArray.size_append]; omega, R.out.1, R.out.2⟩
def edges : Array Value := #[.int .i64 0, .int .i64 1, .int .i64 (-1), .int .i64 2, .int .i64 1000, .int .i64 1001, .int .i64 2147483648, .int .i64 2147483647, .int .i64 (-2147483648), .int .i64 4611686018427387904, .int .i64 9223372036854775807, .int .i64 (-9223372036854775808), .int .i64 1000000, .int .i64 1000001]
theorem edges_at (k : Nat) (hk : k < 14) : ∃ x : Int, -9223372036854775808 ≤ x ∧ x ≤ 9223372036854775807 ∧ edges[k]? = some (.int .i64 x) := by
 have h : k = 0 ∨ k = 1 ∨ k = 2 ∨ k = 3 ∨ k = 4 ∨ k = 5 ∨ k = 6 ∨ k = 7 ∨ k = 8 ∨ k = 9 ∨ k = 10 ∨ k = 11 ∨ k = 12 ∨ k = 13 := by omega
 rcases h with rfl | rfl | rfl | rfl | rfl | rfl | rfl | rfl | rfl | rfl | rfl | rfl | rfl | rfl
 all_goals exact ⟨_, by decide, by decide, rfl⟩
set_option maxRecDepth 100000 in
set_option maxHeartbeats 800000 in
theorem src_edge (B : Nat) (w : World) (g : Nat) (a : Option Addr) (len cap : Nat) (hs : Src 60 B w g a len cap) :
 Calls Tryz.prog 44 #[.pointer (some ⟨g, 0, none⟩)] w fun e w' => ∃ x : Int, e = .returned (.int .i64 x) ∧ -9223372036854775808 ≤ x ∧ x ≤ 9223372036854775807 ∧ Src 60 B w' g a len cap ∧ w.grownBy w' (some g) := by
 have hlt := hs.lt
 have hBg := hs.1
 have HS := hide (hs.kept (grownBy_alloc (World.grownBy.refl w none) (.cells #[.int .i64 0, .int .i64 1, .int .i64 (-1), .int .i64 2, .int .i64 1000, .int .i64 1001, .int .i64 2147483648, .int .i64 2147483647, .int .i64 (-2147483648), .int .i64 4611686018427387904, .int .i64 9223372036854775807, .int .i64 (-9223372036854775808), .int .i64 1000000, .int .i64 1000001] 2)) (fun k hk => by cases hk) (by omega))
 clear hs
 go_enter Tryz.func44, Tryz.ntmps44
 go_wp2_with fail
 refine (src_n B _ g a len cap 14 (by omega) HS.out).mono ?_
 rintro e w1 ⟨v, rfl, v0, v1, hs1, hg1⟩
 obtain ⟨k, rfl⟩ := Int.eq_ofNat_of_zero_le v0
 have hk : k < 14 := by omega
 have hk' : (k : Int) < 14 := by omega
 obtain ⟨x, x0, x1, hx⟩ := edges_at k hk
 have hc : w1.cell? ⟨w.heap.size, k, none⟩ = some (.int .i64 x) := by
  have hb := hg1.block w.heap.size (by simp) (by simp; omega)
  rw [heap_alloc_new] at hb
  unfold World.cell?
  rw [hb]
  exact hx
 have HS1 := hide hs1
 have hg2 := grownBy_trans (grownBy_alloc (World.grownBy.refl w (some g)) _) hg1
 clear hs1 hg1 hx HS v1
 go_wp2_with fail
 go_ret
 exact ⟨x, rfl, x0, x1, HS1.out, hg2⟩
set_option maxRecDepth 100000 in
set_option maxHeartbeats 800000 in
theorem lwAt_any (w : World) (B : Nat) (a : Option Addr) (len cap : Nat) (p most : Int) (hl : len ≤ 1048576) (hp0 : 0 ≤ p) (hp1 : p ≤ 1000) (hm : most ≤ 4611686018427387904) (hby : BytesIn w B a len) :
 Calls Tryz.prog 9 #[.slice a len cap, .int .i64 p, .int .i64 most] w fun e w' => ∃ v : Int, e = .returned (.int .i64 v) ∧ 0 ≤ v ∧ (v < most ∨ v = 0) ∧ w = w' := by
 by_cases h1 : most ≤ 1
 · clear hby
   go_enter Tryz.func9, Tryz.ntmps9
   go_wp2_with fail
   go_ret
   exact ⟨0, rfl, by omega, .inr rfl, rfl⟩
 by_cases h2 : len = 0
 · subst h2
   clear hby
   go_enter Tryz.func9, Tryz.ntmps9
   go_wp2_with fail
   go_ret
   exact ⟨0, rfl, by omega, .inr rfl, rfl⟩
 rcases hby with h0 | ⟨b, off, rfl, hb, hc⟩
 · omega
 have hlp : (0 : Int) < (len : Int) := by omega
 have hne : ((len : Int) == 0) = false := by simp; omega
 obtain ⟨q, rfl⟩ := Int.eq_ofNat_of_zero_le hp0
 have hq : q % len < len := Nat.mod_lt _ (by omega)
 obtain ⟨z, z0, z1, hz⟩ := hc (q % len) hq
 have hq1 : (q : Int) % (len : Int) < (len : Int) := by omega
 have hq0 : 0 ≤ (q : Int) % (len : Int) := by omega
 have hqn : ((q : Int) % (len : Int)).toNat = q % len := by omega
 have m0 := Int.emod_nonneg z (show most ≠ 0 by omega)
 have m1 := Int.emod_lt_of_pos z (show 0 < most by omega)
 clear hc
 go_enter Tryz.func9, Tryz.ntmps9
 go_wp2_with fail
 go_ret
 exact ⟨_, rfl, m0, .inl m1, rfl⟩
end Go.Proofs.YtconcnndghmdfaaGreatDoor
namespace Go.Proofs.YtconcnndghmdfaaGreatDoor
open Go Go.RowKit
theorem text_row {P : Program} (w : World) (src dst e : TypeId) (t : ByteArray) (n : Nat) (hn : t.size = n) (hb : n ≤ 1048576) (hs : P.underlying src = some .string) (hd : P.underlying dst = some (.slice e)) (he : P.underlying e = some (.int .u8)) :
 ∃ cap w', (convert src dst (.string t)).run P w = .ok (.slice (some ⟨w.heap.size, 0, none⟩) n cap) w' ∧ n ≤ cap ∧ cap ≤ maxLen ∧ w'.heap.size = w.heap.size + 1 ∧ Below w.heap.size w w' ∧ rowC w' w.heap.size n (bF t) := by
 subst hn
 have hcap := grownCap_ge w t.size 0 e
 have hrow := hasRow.of_text w.drew w.heap.size e (grownCap w t.size 0 e) t hcap (Nat.le_refl _)
 exact ⟨_, _, run_bytes_of_string w src dst e t hs hd he, hcap, grownCap_le_maxLen w t.size 0 e (by unfold maxLen; omega), World.size_alloc _ _, (Below.refl w.heap.size w).drew.alloc (Nat.le_refl _) _, rowC.of_text hrow (bF_at t t.size rfl)⟩
theorem rowC.range {w : World} {g n : Nat} {f : Nat → UInt8} (h : rowC w g n f) : w.rangeAt g 0 (bL n f) := fun j v hj => by
 obtain ⟨hj2, rfl⟩ := bL_get hj
 rw [Nat.zero_add]
 exact (h.2 j hj2).1
theorem rowC.there {w : World} {g n o m : Nat} {f : Nat → UInt8} (h : rowC w g n f) (hm : o + m ≤ n) : w.there g o m := fun j hj => ⟨by rw [(h.2 (o + j) (by omega)).1]; rfl, (h.2 (o + j) (by omega)).2⟩
theorem rowC.copied {w : World} {g n o m : Nat} {f k : Nat → UInt8} (h : rowC w g n f) (hm : o + m ≤ n) (j : Nat) (hj : j < n) :
 (w.setCells g o (bL m k)).cell? ⟨g, j, none⟩ = some (.int .u8 (((if o ≤ j ∧ j < o + m then k (j - o) else f j).toNat : Nat) : Int)) := by
 by_cases c : o ≤ j ∧ j < o + m
 · rw [if_pos c]
   have h1 := World.rangeAt_setCells_same w g o (bL m k) (by rw [bL_len]; exact h.there hm) (j - o) (u8V k (j - o)) (bL_at m k (j - o) (by omega))
   rwa [show o + (j - o) = j by omega] at h1
 · rw [if_neg c]
   have h1 := World.rangeAt_setCells_apart (w := w) (b' := g) (o' := j) (cs := [.int .u8 ((f j).toNat : Int)]) (fun i v hi => by
    match i, hi with
    | 0, hi => simp at hi; subst hi; exact (h.2 j hj).1) g o (bL m k) (.inr (by rw [bL_len]; simp; omega)) 0 _ rfl
   exact h1
end Go.Proofs.YtconcnndghmdfaaGreatDoor

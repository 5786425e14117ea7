/- The walks over the model's Unpack. -/
import Derived.Test.YtdoodkabmeojmaaDoorPackU
import Derived.Test.YtdoodkabmeojmaaDoorPackP
import Derived.Test.YtdoodkabmeojmaaDoorGetNumS
import Derived.Deep.RegionWith
import Derived.BigRegion
namespace Go.Proofs.YtdoodkabmeojmaaDoor
open Go.RowKit
/-- A TextOut. -/
def textO (t : ByteArray) (c : Int) : Value := .agg #[.string t, .int .i64 0, .int .i64 c]
/-- What Unpack answers behind a good number. -/
def unpN (s : ByteArray) (m N : Nat) : ByteArray × Int :=
  if (unpO (s.extract m s.size) N).2 = true then (if packB (unpO (s.extract m s.size) N).1 = s then ((unpO (s.extract m s.size) N).1, 0) else (⟨#[]⟩, 3)) else (⟨#[]⟩, 5)
/-- Unpack. -/
def unpackS (s : ByteArray) : ByteArray × Int :=
  if 20000 < s.size then (⟨#[]⟩, 2) else
  if (decAt s 0).1 = 0 then (if unfold (decAt s 0).2.1 < 0 ∨ 4000 < unfold (decAt s 0).2.1 then (⟨#[]⟩, 3) else unpN s (decAt s 0).2.2 (unfold (decAt s 0).2.1).toNat) else (⟨#[]⟩, 3)
theorem unpO_size (t : ByteArray) (many : Nat) (h : (unpO t many).2 = true) : (unpO t many).1.size = many := by
  unfold unpO at *
  cases e : unpackG (tbN t) many many (rc0, pv (tbN t) 4) [] with
  | none => rw [e] at h; cases h
  | some b => rw [e] at h; exact (size_mk b).trans (of_decide_eq_true h)
set_option maxRecDepth 100000 in
set_option maxHeartbeats 800000 in
theorem spec_unpack_long (s : ByteArray) (w : World) (hs : s.size ≤ 9223372036854775807) (h : 20000 < s.size) :
    Calls Tryd.prog 9 #[.string s] w fun e w' => e = .returned (textO ⟨#[]⟩ 2) ∧ Below w.heap.size w w' := by
  have h' : (20000 : Int) < (s.size : Int) := by omega
  go_enter Tryd.func9, Tryd.ntmps9
  go_wp2_with fail
  go_returns
  exact ⟨rfl, by go_grown⟩
set_option maxRecDepth 100000 in
set_option maxHeartbeats 800000 in
theorem spec_unpack_bad (s : ByteArray) (c : Nat) (w : World) (hs : s.size ≤ 20000) (hc : c ≠ 0) (hd : decAt s 0 = (c, 0, 0)) :
    Calls Tryd.prog 9 #[.string s] w fun e w' => e = .returned (textO ⟨#[]⟩ 3) ∧ Below w.heap.size w w' := by
  have h' : ¬ (20000 : Int) < (s.size : Int) := by omega
  have hc0 : ((c : Int) != 0) = true := by simp; omega
  have hc1 : ((c : Int) == 0) = false := by simp; omega
  have Hc := hide hc
  have Hd := hide hd
  clear hc hd
  go_enter Tryd.func9, Tryd.ntmps9
  go_wp2_with fail
  refine (spec_getNum s 0 _ hs (by omega)).mono ?_
  rintro e w1 ⟨rfl, hb⟩
  rw [unhide Hd, numAns_bad 0 c Hc.out]
  unfold numOut
  simp at hb
  have hs1 := hb.size
  simp at hs1
  obtain ⟨⟨c0, c1, c2⟩, hf⟩ := out_cells (hb.alloc hs1 (.cells #[.int .i64 0, .int .i64 0, .int .i64 c] 49)) (Nat.lt_succ_self _) (heap_alloc_new w _)
  obtain ⟨r0, r1, r2⟩ := out_read (.string ⟨#[]⟩) (.int .i64 0) (.int .i64 3) c0 c1 c2
  go_wp2_with fail
  exact bodyPost_ret (v := textO ⟨#[]⟩ 3) (by simp [results, Tryd.results9, go_sem, r0, r1, r2, textO]) rfl ⟨rfl, below_out' (hb.alloc hs1 _)⟩
set_option maxRecDepth 100000 in
set_option maxHeartbeats 800000 in
theorem spec_unpack_low (s : ByteArray) (U m : Nat) (n : Int) (w : World) (hs : s.size ≤ 20000) (hd : decAt s 0 = (0, U, m)) (hN : unfold U = n) (hn0 : n < 0) :
    Calls Tryd.prog 9 #[.string s] w fun e w' => e = .returned (textO ⟨#[]⟩ 3) ∧ Below w.heap.size w w' := by
  have h' : ¬ (20000 : Int) < (s.size : Int) := by omega
  have Hd := hide hd
  have HN := hide hN
  clear hd hN
  go_enter Tryd.func9, Tryd.ntmps9
  go_wp2_with fail
  refine (spec_getNum s 0 _ hs (by omega)).mono ?_
  rintro e w1 ⟨rfl, hb⟩
  rw [unhide Hd, numAns_good, unhide HN, show ((0 : Nat) : Int) + (m : Int) = (m : Int) by omega]
  unfold numOut
  simp at hb
  have hs1 := hb.size
  simp at hs1
  obtain ⟨⟨c0, c1, c2⟩, hf⟩ := out_cells (hb.alloc hs1 (.cells #[.int .i64 n, .int .i64 m, .int .i64 0] 49)) (Nat.lt_succ_self _) (heap_alloc_new w _)
  obtain ⟨r0, r1, r2⟩ := out_read (.string ⟨#[]⟩) (.int .i64 0) (.int .i64 3) c0 c1 c2
  go_wp2_with fail
  exact bodyPost_ret (v := textO ⟨#[]⟩ 3) (by simp [results, Tryd.results9, go_sem, r0, r1, r2, textO]) rfl ⟨rfl, below_out' (hb.alloc hs1 _)⟩
set_option maxRecDepth 100000 in
set_option maxHeartbeats 800000 in
theorem spec_unpack_high (s : ByteArray) (U m : Nat) (n : Int) (w : World) (hs : s.size ≤ 20000) (hd : decAt s 0 = (0, U, m)) (hN : unfold U = n) (hn0 : 4000 < n) :
    Calls Tryd.prog 9 #[.string s] w fun e w' => e = .returned (textO ⟨#[]⟩ 3) ∧ Below w.heap.size w w' := by
  have h' : ¬ (20000 : Int) < (s.size : Int) := by omega
  have Hd := hide hd
  have HN := hide hN
  clear hd hN
  go_enter Tryd.func9, Tryd.ntmps9
  go_wp2_with fail
  refine (spec_getNum s 0 _ hs (by omega)).mono ?_
  rintro e w1 ⟨rfl, hb⟩
  rw [unhide Hd, numAns_good, unhide HN, show ((0 : Nat) : Int) + (m : Int) = (m : Int) by omega]
  unfold numOut
  simp at hb
  have hs1 := hb.size
  simp at hs1
  obtain ⟨⟨c0, c1, c2⟩, hf⟩ := out_cells (hb.alloc hs1 (.cells #[.int .i64 n, .int .i64 m, .int .i64 0] 49)) (Nat.lt_succ_self _) (heap_alloc_new w _)
  obtain ⟨r0, r1, r2⟩ := out_read (.string ⟨#[]⟩) (.int .i64 0) (.int .i64 3) c0 c1 c2
  go_wp2_with fail
  exact bodyPost_ret (v := textO ⟨#[]⟩ 3) (by simp [results, Tryd.results9, go_sem, r0, r1, r2, textO]) rfl ⟨rfl, below_out' (hb.alloc hs1 _)⟩
set_option maxRecDepth 100000 in
set_option maxHeartbeats 1600000 in
theorem spec_unpack_good (s : ByteArray) (U m N : Nat) (w : World) (hs : s.size ≤ 20000) (hd : decAt s 0 = (0, U, m)) (hN : unfold U = (N : Int)) (hmS : m ≤ s.size) (hM : N ≤ 4000) :
    Calls Tryd.prog 9 #[.string s] w fun e w' => e = .returned (textO (unpN s m N).1 (unpN s m N).2) ∧ Below w.heap.size w w' := by
  have h' : ¬ (20000 : Int) < (s.size : Int) := by omega
  have Hd := hide hd
  have HN := hide hN
  clear hd hN
  go_enter Tryd.func9, Tryd.ntmps9
  go_wp2_with fail
  refine (spec_getNum s 0 _ hs (by omega)).mono ?_
  rintro e w1 ⟨rfl, hb⟩
  rw [unhide Hd, numAns_good, unhide HN, show ((0 : Nat) : Int) + (m : Int) = (m : Int) by omega]
  unfold numOut
  simp at hb
  have hs1 := hb.size
  simp at hs1
  have hB := hb.alloc hs1 (.cells #[.int .i64 N, .int .i64 m, .int .i64 0] 49)
  obtain ⟨⟨c0, c1, c2⟩, hf⟩ := out_cells hB (Nat.lt_succ_self _) (heap_alloc_new w _)
  go_wp2_with fail
  have hsl := fun W => run_rest (P := Tryd.prog) W 9 s m Tryd.underlying9 hmS
  have hrs : (s.extract m s.size).size ≤ 20000 := by simp; omega
  have SU := hide (fun W => spec_unpack0 (s.extract m s.size) N W hM hrs)
  have HP := hide (show unpN s m N = (if (unpO (s.extract m s.size) N).2 = true then (if packB (unpO (s.extract m s.size) N).1 = s then ((unpO (s.extract m s.size) N).1, 0) else (⟨#[]⟩, 3)) else (⟨#[]⟩, 5)) from rfl)
  have HZ := hide (unpO_size (s.extract m s.size) N)
  obtain ⟨T, hT⟩ : ∃ T, T = s.extract m s.size := ⟨_, rfl⟩
  rw [← hT] at hsl SU HP HZ
  obtain ⟨⟨X, ok⟩, hX⟩ : ∃ R, R = unpO T N := ⟨_, rfl⟩
  rw [← hX] at SU HP HZ
  simp only at SU HP HZ
  clear hT hX hrs
  cases ok with
  | false =>
    have HP1 := hide (show unpN s m N = (⟨#[]⟩, 5) by rw [HP.out]; rfl)
    clear HP HZ
    go_region_with (go_at_call 24; refine (SU.out _).mono ?_; rintro e w2 ⟨rfl, hb2⟩)
    all_goals (
      have hB2 := hB.drew.trans (hb2.mono (by simp; omega))
      obtain ⟨⟨d0, d1, d2⟩, hf2⟩ := out_cells hB2 (Nat.lt_succ_self _) (heap_alloc_new w _)
      obtain ⟨r0, r1, r2⟩ := out_read (.string ⟨#[]⟩) (.int .i64 0) (.int .i64 5) d0 d1 d2
      clear c0 c1 c2 hf hsl SU hb2
      go_wp2_with fail
      exact bodyPost_ret (v := textO ⟨#[]⟩ 5) (by simp [results, Tryd.results9, go_sem, r0, r1, r2, textO]) rfl ⟨by rw [HP1.out], below_out' hB2⟩)
  | true =>
    have hXs : X.size ≤ 4000 := by rw [HZ.out rfl]; exact hM
    have SP := hide (fun W => spec_pack0 X W hXs)
    by_cases hq : packB X = s
    · have HP1 := hide (show unpN s m N = (X, 0) by rw [HP.out, if_pos rfl, if_pos hq])
      have hq1 := str_eq hq
      obtain ⟨PX, hPX⟩ : ∃ PX, PX = packB X := ⟨_, rfl⟩
      rw [← hPX] at SP hq1
      clear HP HZ hq hPX
      go_region_with (go_at_call 24; refine (SU.out _).mono ?_; rintro e w2 ⟨rfl, hb2⟩)
      all_goals (
        have hB2 := hB.drew.trans (hb2.mono (by simp; omega))
        clear c0 c1 c2 hf hsl SU hb2
        go_wp2_with fail
        refine (SP.out _).mono ?_
        rintro e w3 ⟨rfl, hb3⟩
        have hz2 := hB2.size
        simp at hz2
        have hB3 := hB2.trans (hb3.mono hz2)
        obtain ⟨⟨d0, d1, d2⟩, hf2⟩ := out_cells hB3 (Nat.lt_succ_self _) (heap_alloc_new w _)
        obtain ⟨r0, r1, r2⟩ := out_read (.string X) (.int .i64 0) (.int .i64 0) d0 d1 d2
        clear hb3 SP
        go_wp2_with fail
        exact bodyPost_ret (v := textO X 0) (by simp [results, Tryd.results9, go_sem, r0, r1, r2, textO]) rfl ⟨by rw [HP1.out], below_out' hB3⟩)
    · have HP1 := hide (show unpN s m N = (⟨#[]⟩, 3) by rw [HP.out, if_pos rfl, if_neg hq])
      have hq1 := str_ne hq
      obtain ⟨PX, hPX⟩ : ∃ PX, PX = packB X := ⟨_, rfl⟩
      rw [← hPX] at SP hq1
      clear HP HZ hq hPX
      go_region_with (go_at_call 24; refine (SU.out _).mono ?_; rintro e w2 ⟨rfl, hb2⟩)
      all_goals (
        have hB2 := hB.drew.trans (hb2.mono (by simp; omega))
        clear c0 c1 c2 hf hsl SU hb2
        go_wp2_with fail
        refine (SP.out _).mono ?_
        rintro e w3 ⟨rfl, hb3⟩
        have hz2 := hB2.size
        simp at hz2
        have hB3 := hB2.trans (hb3.mono hz2)
        obtain ⟨⟨d0, d1, d2⟩, hf2⟩ := out_cells hB3 (Nat.lt_succ_self _) (heap_alloc_new w _)
        obtain ⟨r0, r1, r2⟩ := out_read (.string ⟨#[]⟩) (.int .i64 0) (.int .i64 3) d0 d1 d2
        clear hb3 SP
        go_wp2_with fail
        exact bodyPost_ret (v := textO ⟨#[]⟩ 3) (by simp [results, Tryd.results9, go_sem, r0, r1, r2, textO]) rfl ⟨by rw [HP1.out], below_out' hB3⟩)
theorem spec_unpack (s : ByteArray) (w : World) (hs : s.size ≤ 9223372036854775807) :
    Calls Tryd.prog 9 #[.string s] w fun e w' => e = .returned (textO (unpackS s).1 (unpackS s).2) ∧ Below w.heap.size w w' := by
  by_cases h : 20000 < s.size
  · have e : unpackS s = (⟨#[]⟩, 2) := if_pos h
    rw [e]; exact spec_unpack_long s w hs h
  · have h2 : s.size ≤ 20000 := by omega
    have hE := show unpackS s = _ from if_neg h
    rcases decAt_form s 0 with ⟨U, m, hd, hm⟩ | hd | hd
    · rw [hd] at hE
      simp only at hE
      by_cases h3 : unfold U < 0 ∨ 4000 < unfold U
      · rw [if_pos h3] at hE
        rw [hE]
        rcases h3 with h3 | h3
        · exact spec_unpack_low s U m _ w h2 hd rfl h3
        · exact spec_unpack_high s U m _ w h2 hd rfl h3
      · rw [if_neg h3] at hE
        rw [hE]
        exact spec_unpack_good s U m _ w h2 hd (by omega) (by omega) (by omega)
    · rw [hd] at hE
      rw [show unpackS s = (⟨#[]⟩, 3) from hE]
      exact spec_unpack_bad s 3 w h2 (by decide) hd
    · rw [hd] at hE
      rw [show unpackS s = (⟨#[]⟩, 3) from hE]
      exact spec_unpack_bad s 4 w h2 (by decide) hd
end Go.Proofs.YtdoodkabmeojmaaDoor

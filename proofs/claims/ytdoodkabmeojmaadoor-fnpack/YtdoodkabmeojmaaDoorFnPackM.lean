/- The walk over the law FnPack, of any two functions that answer as the model's. -/
import Derived.Test.YtdoodkabmeojmaaDoorPackT
import Derived.Test.YtdoodkabmeojmaaDoorDrawPk
import Derived.Deep.RegionWith
namespace Go.Proofs.YtdoodkabmeojmaaDoor
open Go.RowKit
def PackAns (Good : World → Prop) : Prop := ∀ (t : ByteArray) (w : World), Good w → t.size ≤ 1048576 → Calls Tryd.prog 5 #[.string t] w fun e w' => e = .returned (.string (packS t)) ∧ Below w.heap.size w w'
def UnpackAns (Good : World → Prop) : Prop := ∀ (t : ByteArray) (w : World), Good w → t.size ≤ 1048576 → Calls Tryd.prog 7 #[.string t] w fun e w' => e = .returned (textO (unpackS t).1 (unpackS t).2) ∧ Below w.heap.size w w'
def Keeps (Good : World → Prop) : Prop := ∀ w w' : World, Good w → Below w.heap.size w w' → Good w'
theorem BytesIn.low {w w' : World} {a : Option Addr} {len : Nat} (h : BytesIn w w.heap.size a len) (hb : Below w.heap.size w w') : BytesIn w' w'.heap.size a len := by
  rcases h.below hb (Nat.le_refl _) with h1 | ⟨b, off, rfl, h2, h3⟩
  · exact .inl h1
  · exact .inr ⟨b, off, rfl, Nat.lt_of_lt_of_le h2 hb.size, h3⟩
theorem unpackS_size (s : ByteArray) : (unpackS s).1.size ≤ 4000 := by
  unfold unpackS
  split
  · exact Nat.zero_le _
  · split
    · split
      · exact Nat.zero_le _
      · unfold unpN
        split
        · rename_i h4
          have hz := unpO_size _ _ h4
          split
          · show (unpO _ _).1.size ≤ 4000
            rw [hz]; omega
          · exact Nat.zero_le _
        · exact Nat.zero_le _
    · exact Nat.zero_le _
theorem unpackS_code (s : ByteArray) : (unpackS s).2 = 0 ∨ (unpackS s).2 = 2 ∨ (unpackS s).2 = 3 ∨ (unpackS s).2 = 5 := by
  unfold unpackS
  split
  · exact .inr (.inl rfl)
  · split
    · split
      · exact .inr (.inr (.inl rfl))
      · unfold unpN
        split
        · split
          · exact .inl rfl
          · exact .inr (.inr (.inl rfl))
        · exact .inr (.inr (.inr rfl))
    · exact .inr (.inr (.inl rfl))
set_option maxRecDepth 100000 in
set_option maxHeartbeats 3200000 in
theorem fnPack_main (Good : World → Prop) (IP : PackAns Good) (IU : UnpackAns Good) (KG : Keeps Good) (a0 : Option Addr) (len0 cap0 : Nat) (a1 : Option Addr) (len1 cap1 : Nat) (w : World) (hg : Good w) (hl0 : len0 ≤ 1048576) (hl1 : len1 ≤ 1048576) (hb0 : BytesIn w w.heap.size a0 len0) (hb1 : BytesIn w w.heap.size a1 len1) :
    Calls Tryd.prog 3 #[.slice a0 len0 cap0, .slice a1 len1 cap1] w fun e w' => e = .returned (.bool true) ∧ Below w.heap.size w w' := by
  have h0' : ¬ (1048576 : Int) < (len0 : Int) := by omega
  have h0d : decide ((1048576 : Int) < (len0 : Int)) = false := decide_eq_false h0'
  have h1' : ¬ (1048576 : Int) < (len1 : Int) := by omega
  have HB0 := hide hb0
  have HB1 := hide hb1
  have HI := hide (And.intro IP (And.intro IU KG))
  have HG := hide hg
  clear hb0 hb1 IP IU KG hg
  go_enter Tryd.func3, Tryd.ntmps3
  go_wp2_with fail
  refine (drawPack_any _ a0 len0 cap0 hl0 HB0.out).mono ?_
  rintro e w1 ⟨t, rfl, ht, hg1⟩
  have B1 := hide (grownBy_toBelow hg1)
  have hts : t.size ≤ 4001 := by
    rcases ht with h | ⟨n, hn, rfl⟩
    · omega
    · rw [size_mk, List.length_replicate]; exact hn
  have SP := hide (spec_pack t)
  have hps : (packS t).size ≤ 68020 := by
    unfold packS
    by_cases h : t.size ≤ 4000
    · rw [if_pos h]; exact packB_size t h
    · rw [if_neg h]; exact Nat.zero_le _
  have SI := hide (HI.out.1 t)
  have HBK := hide (fun h => drawn_back t h ht)
  have SU := hide (HI.out.2.1 (packS t))
  generalize packS t = p at *
  clear HB0 hg1 ht
  go_wp2_with fail
  refine (SI.out _ (HI.out.2.2 _ _ HG.out B1.out) (by omega)).mono ?_
  rintro e w2 ⟨rfl, hb2⟩
  have B2 := hide (B1.out.trans (hb2.mono B1.out.size))
  clear hb2 B1 SI
  go_wp2_with fail
  refine (SP.out _ (by omega)).mono ?_
  rintro e w3 ⟨rfl, hb3⟩
  have B3 := hide (B2.out.trans (hb3.mono B2.out.size))
  have spp : (p.toList == p.toList) = true := str_eq rfl
  clear hb3 B2 SP
  by_cases h4 : t.size ≤ 4000
  · have h4' : (t.size : Int) ≤ 4000 := by omega
    have d4 : decide ((t.size : Int) ≤ 4000) = true := decide_eq_true h4'
    have hE := HBK.out h4
    rw [hE] at SU
    simp only at SU
    have stt : (t.toList == t.toList) = true := str_eq rfl
    clear hE HBK
    go_wp2_with fail
    refine (SU.out _ (HI.out.2.2 _ _ HG.out B3.out) (by omega)).mono ?_
    rintro e w4 ⟨rfl, hb4⟩
    have B4 := hide (B3.out.trans (hb4.mono B3.out.size))
    clear hb4 B3 SU
    unfold textO
    go_wp2_with fail
    refine (drawUnpack_any _ a1 len1 cap1 hl1 (HB1.out.low B4.out)).mono ?_
    rintro e w5 ⟨u, rfl, hu, hg5⟩
    have B5 := hide (B4.out.trans ((grownBy_toBelow hg5).mono B4.out.size))
    have SU2 := hide (HI.out.2.1 u)
    have SS := hide (spec_unpack u)
    have HPU := hide (pack_unpack u)
    have SPK := hide (HI.out.1 (unpackS u).1)
    have HXS := hide (unpackS_size u)
    have HCO := hide (unpackS_code u)
    obtain ⟨⟨X, c⟩, hX⟩ : ∃ R, R = unpackS u := ⟨_, rfl⟩
    rw [← hX] at SU2 SS HPU SPK HXS HCO
    simp only at SU2 SS HPU SPK HXS HCO
    clear hX hg5 B4 HB1
    go_wp2_with fail
    refine (SU2.out _ (HI.out.2.2 _ _ HG.out B5.out) (by omega)).mono ?_
    rintro e w6 ⟨rfl, hb6⟩
    have B6 := hide (B5.out.trans (hb6.mono B5.out.size))
    clear hb6 B5 SU2
    unfold textO at *
    have B7 := hide (B6.out.alloc B6.out.size (.cells #[.string X, .int .i64 0, .int .i64 c] 26))
    have sXX : (X.toList == X.toList) = true := str_eq rfl
    have cc : (c == c) = true := beq_self_eq_true c
    by_cases hc : c = 0
    · have dc : (c == 0) = true := by rw [hc]; rfl
      have dc2 : (c != 0) = false := by rw [hc]; rfl
      have dc3 : decide (c = 0) = true := decide_eq_true hc
      have hpk := HPU.out hc
      rw [hpk] at SPK
      have suu : (u.toList == u.toList) = true := str_eq rfl
      clear hpk HPU hc
      go_wp2_with fail
      obtain ⟨⟨c0, c1, c2⟩, _⟩ := out_cells (Below.refl (w6.heap.size + 1) (w6.alloc (.cells #[.string X, .int .i64 0, .int .i64 c] 26))) (Nat.lt_succ_self _) (heap_alloc_new w6 _)
      have zz : w6.heap.size < (w6.alloc (.cells #[.string X, .int .i64 0, .int .i64 c] 26)).heap.size := by simp
      generalize w6.alloc (.cells #[.string X, .int .i64 0, .int .i64 c] 26) = W at *
      go_region_with (first | (go_at_call 9; refine (SS.out _ (by omega)).mono ?_; rintro e w7 ⟨rfl, hb7⟩; obtain ⟨k0, k1, k2⟩ := And.intro (((bcell hb7).1 w6.heap.size 0 (by simpa using zz)).trans c0) (And.intro (((bcell hb7).1 w6.heap.size 1 (by simpa using zz)).trans c1) (((bcell hb7).1 w6.heap.size 2 (by simpa using zz)).trans c2)); have B8 := hide (B7.out.trans (Below.mono (show Below W.heap.size W w7 from ⟨hb7.os, hb7.tape, hb7.output, hb7.size, hb7.block⟩) B7.out.size))) | (go_at_call 5; refine (SPK.out _ (HI.out.2.2 _ _ HG.out B8.out) (by have := HXS.out; omega)).mono ?_; rintro e w8 ⟨rfl, hb8⟩))
      all_goals (
        have B9 := hide (B8.out.trans (hb8.mono B8.out.size))
        clear hb7 hb8 B8 B7 c0 c1 c2 k0 k1 k2 SS SPK
        go_wp2_with fail
        go_ret
        exact ⟨rfl, B9.out⟩)
    · have hco : c = 2 ∨ c = 3 ∨ c = 5 := by have := HCO.out; omega
      clear HPU SPK HXS HCO hc
      rcases hco with rfl | rfl | rfl
      · go_wp2_with fail
        obtain ⟨⟨c0, c1, c2⟩, _⟩ := out_cells (Below.refl (w6.heap.size + 1) (w6.alloc (.cells #[.string X, .int .i64 0, .int .i64 2] 26))) (Nat.lt_succ_self _) (heap_alloc_new w6 _)
        have zz : w6.heap.size < (w6.alloc (.cells #[.string X, .int .i64 0, .int .i64 2] 26)).heap.size := by simp
        generalize w6.alloc (.cells #[.string X, .int .i64 0, .int .i64 2] 26) = W at *
        first | go_region_with (go_at_call 9; refine (SS.out _ (by omega)).mono ?_; rintro e w7 ⟨rfl, hb7⟩; obtain ⟨k0, k1, k2⟩ := And.intro (((bcell hb7).1 w6.heap.size 0 (by simpa using zz)).trans c0) (And.intro (((bcell hb7).1 w6.heap.size 1 (by simpa using zz)).trans c1) (((bcell hb7).1 w6.heap.size 2 (by simpa using zz)).trans c2)); have B8 := hide (B7.out.trans (Below.mono (show Below W.heap.size W w7 from ⟨hb7.os, hb7.tape, hb7.output, hb7.size, hb7.block⟩) B7.out.size))) | fail
        all_goals (
          clear hb7 B7 c0 c1 c2 k0 k1 k2 SS
          go_wp2_with fail
          go_ret
          exact ⟨rfl, B8.out⟩)
      · go_wp2_with fail
        obtain ⟨⟨c0, c1, c2⟩, _⟩ := out_cells (Below.refl (w6.heap.size + 1) (w6.alloc (.cells #[.string X, .int .i64 0, .int .i64 3] 26))) (Nat.lt_succ_self _) (heap_alloc_new w6 _)
        have zz : w6.heap.size < (w6.alloc (.cells #[.string X, .int .i64 0, .int .i64 3] 26)).heap.size := by simp
        generalize w6.alloc (.cells #[.string X, .int .i64 0, .int .i64 3] 26) = W at *
        first | go_region_with (go_at_call 9; refine (SS.out _ (by omega)).mono ?_; rintro e w7 ⟨rfl, hb7⟩; obtain ⟨k0, k1, k2⟩ := And.intro (((bcell hb7).1 w6.heap.size 0 (by simpa using zz)).trans c0) (And.intro (((bcell hb7).1 w6.heap.size 1 (by simpa using zz)).trans c1) (((bcell hb7).1 w6.heap.size 2 (by simpa using zz)).trans c2)); have B8 := hide (B7.out.trans (Below.mono (show Below W.heap.size W w7 from ⟨hb7.os, hb7.tape, hb7.output, hb7.size, hb7.block⟩) B7.out.size))) | fail
        all_goals (
          clear hb7 B7 c0 c1 c2 k0 k1 k2 SS
          go_wp2_with fail
          go_ret
          exact ⟨rfl, B8.out⟩)
      · go_wp2_with fail
        obtain ⟨⟨c0, c1, c2⟩, _⟩ := out_cells (Below.refl (w6.heap.size + 1) (w6.alloc (.cells #[.string X, .int .i64 0, .int .i64 5] 26))) (Nat.lt_succ_self _) (heap_alloc_new w6 _)
        have zz : w6.heap.size < (w6.alloc (.cells #[.string X, .int .i64 0, .int .i64 5] 26)).heap.size := by simp
        generalize w6.alloc (.cells #[.string X, .int .i64 0, .int .i64 5] 26) = W at *
        first | go_region_with (go_at_call 9; refine (SS.out _ (by omega)).mono ?_; rintro e w7 ⟨rfl, hb7⟩; obtain ⟨k0, k1, k2⟩ := And.intro (((bcell hb7).1 w6.heap.size 0 (by simpa using zz)).trans c0) (And.intro (((bcell hb7).1 w6.heap.size 1 (by simpa using zz)).trans c1) (((bcell hb7).1 w6.heap.size 2 (by simpa using zz)).trans c2)); have B8 := hide (B7.out.trans (Below.mono (show Below W.heap.size W w7 from ⟨hb7.os, hb7.tape, hb7.output, hb7.size, hb7.block⟩) B7.out.size))) | fail
        all_goals (
          clear hb7 B7 c0 c1 c2 k0 k1 k2 SS
          go_wp2_with fail
          go_ret
          exact ⟨rfl, B8.out⟩)
  · have h4' : ¬ (t.size : Int) ≤ 4000 := by omega
    have d4 : decide ((t.size : Int) ≤ 4000) = false := decide_eq_false h4'
    clear HBK SU
    go_wp2_with fail
    refine (drawUnpack_any _ a1 len1 cap1 hl1 (HB1.out.low B3.out)).mono ?_
    rintro e w5 ⟨u, rfl, hu, hg5⟩
    have B5 := hide (B3.out.trans ((grownBy_toBelow hg5).mono B3.out.size))
    have SU2 := hide (HI.out.2.1 u)
    have SS := hide (spec_unpack u)
    have HPU := hide (pack_unpack u)
    have SPK := hide (HI.out.1 (unpackS u).1)
    have HXS := hide (unpackS_size u)
    have HCO := hide (unpackS_code u)
    obtain ⟨⟨X, c⟩, hX⟩ : ∃ R, R = unpackS u := ⟨_, rfl⟩
    rw [← hX] at SU2 SS HPU SPK HXS HCO
    simp only at SU2 SS HPU SPK HXS HCO
    clear hX hg5 B3 HB1
    go_wp2_with fail
    refine (SU2.out _ (HI.out.2.2 _ _ HG.out B5.out) (by omega)).mono ?_
    rintro e w6 ⟨rfl, hb6⟩
    have B6 := hide (B5.out.trans (hb6.mono B5.out.size))
    clear hb6 B5 SU2
    unfold textO at *
    have B7 := hide (B6.out.alloc B6.out.size (.cells #[.string X, .int .i64 0, .int .i64 c] 26))
    have sXX : (X.toList == X.toList) = true := str_eq rfl
    have cc : (c == c) = true := beq_self_eq_true c
    by_cases hc : c = 0
    · have dc : (c == 0) = true := by rw [hc]; rfl
      have dc2 : (c != 0) = false := by rw [hc]; rfl
      have dc3 : decide (c = 0) = true := decide_eq_true hc
      have hpk := HPU.out hc
      rw [hpk] at SPK
      have suu : (u.toList == u.toList) = true := str_eq rfl
      clear hpk HPU hc
      go_wp2_with fail
      obtain ⟨⟨c0, c1, c2⟩, _⟩ := out_cells (Below.refl (w6.heap.size + 1) (w6.alloc (.cells #[.string X, .int .i64 0, .int .i64 c] 26))) (Nat.lt_succ_self _) (heap_alloc_new w6 _)
      have zz : w6.heap.size < (w6.alloc (.cells #[.string X, .int .i64 0, .int .i64 c] 26)).heap.size := by simp
      generalize w6.alloc (.cells #[.string X, .int .i64 0, .int .i64 c] 26) = W at *
      go_region_with (first | (go_at_call 9; refine (SS.out _ (by omega)).mono ?_; rintro e w7 ⟨rfl, hb7⟩; obtain ⟨k0, k1, k2⟩ := And.intro (((bcell hb7).1 w6.heap.size 0 (by simpa using zz)).trans c0) (And.intro (((bcell hb7).1 w6.heap.size 1 (by simpa using zz)).trans c1) (((bcell hb7).1 w6.heap.size 2 (by simpa using zz)).trans c2)); have B8 := hide (B7.out.trans (Below.mono (show Below W.heap.size W w7 from ⟨hb7.os, hb7.tape, hb7.output, hb7.size, hb7.block⟩) B7.out.size))) | (go_at_call 5; refine (SPK.out _ (HI.out.2.2 _ _ HG.out B8.out) (by have := HXS.out; omega)).mono ?_; rintro e w8 ⟨rfl, hb8⟩))
      all_goals (
        have B9 := hide (B8.out.trans (hb8.mono B8.out.size))
        clear hb7 hb8 B8 B7 c0 c1 c2 k0 k1 k2 SS SPK
        go_wp2_with fail
        go_ret
        exact ⟨rfl, B9.out⟩)
    · have hco : c = 2 ∨ c = 3 ∨ c = 5 := by have := HCO.out; omega
      clear HPU SPK HXS HCO hc
      rcases hco with rfl | rfl | rfl
      · go_wp2_with fail
        obtain ⟨⟨c0, c1, c2⟩, _⟩ := out_cells (Below.refl (w6.heap.size + 1) (w6.alloc (.cells #[.string X, .int .i64 0, .int .i64 2] 26))) (Nat.lt_succ_self _) (heap_alloc_new w6 _)
        have zz : w6.heap.size < (w6.alloc (.cells #[.string X, .int .i64 0, .int .i64 2] 26)).heap.size := by simp
        generalize w6.alloc (.cells #[.string X, .int .i64 0, .int .i64 2] 26) = W at *
        first | go_region_with (go_at_call 9; refine (SS.out _ (by omega)).mono ?_; rintro e w7 ⟨rfl, hb7⟩; obtain ⟨k0, k1, k2⟩ := And.intro (((bcell hb7).1 w6.heap.size 0 (by simpa using zz)).trans c0) (And.intro (((bcell hb7).1 w6.heap.size 1 (by simpa using zz)).trans c1) (((bcell hb7).1 w6.heap.size 2 (by simpa using zz)).trans c2)); have B8 := hide (B7.out.trans (Below.mono (show Below W.heap.size W w7 from ⟨hb7.os, hb7.tape, hb7.output, hb7.size, hb7.block⟩) B7.out.size))) | fail
        all_goals (
          clear hb7 B7 c0 c1 c2 k0 k1 k2 SS
          go_wp2_with fail
          go_ret
          exact ⟨rfl, B8.out⟩)
      · go_wp2_with fail
        obtain ⟨⟨c0, c1, c2⟩, _⟩ := out_cells (Below.refl (w6.heap.size + 1) (w6.alloc (.cells #[.string X, .int .i64 0, .int .i64 3] 26))) (Nat.lt_succ_self _) (heap_alloc_new w6 _)
        have zz : w6.heap.size < (w6.alloc (.cells #[.string X, .int .i64 0, .int .i64 3] 26)).heap.size := by simp
        generalize w6.alloc (.cells #[.string X, .int .i64 0, .int .i64 3] 26) = W at *
        first | go_region_with (go_at_call 9; refine (SS.out _ (by omega)).mono ?_; rintro e w7 ⟨rfl, hb7⟩; obtain ⟨k0, k1, k2⟩ := And.intro (((bcell hb7).1 w6.heap.size 0 (by simpa using zz)).trans c0) (And.intro (((bcell hb7).1 w6.heap.size 1 (by simpa using zz)).trans c1) (((bcell hb7).1 w6.heap.size 2 (by simpa using zz)).trans c2)); have B8 := hide (B7.out.trans (Below.mono (show Below W.heap.size W w7 from ⟨hb7.os, hb7.tape, hb7.output, hb7.size, hb7.block⟩) B7.out.size))) | fail
        all_goals (
          clear hb7 B7 c0 c1 c2 k0 k1 k2 SS
          go_wp2_with fail
          go_ret
          exact ⟨rfl, B8.out⟩)
      · go_wp2_with fail
        obtain ⟨⟨c0, c1, c2⟩, _⟩ := out_cells (Below.refl (w6.heap.size + 1) (w6.alloc (.cells #[.string X, .int .i64 0, .int .i64 5] 26))) (Nat.lt_succ_self _) (heap_alloc_new w6 _)
        have zz : w6.heap.size < (w6.alloc (.cells #[.string X, .int .i64 0, .int .i64 5] 26)).heap.size := by simp
        generalize w6.alloc (.cells #[.string X, .int .i64 0, .int .i64 5] 26) = W at *
        first | go_region_with (go_at_call 9; refine (SS.out _ (by omega)).mono ?_; rintro e w7 ⟨rfl, hb7⟩; obtain ⟨k0, k1, k2⟩ := And.intro (((bcell hb7).1 w6.heap.size 0 (by simpa using zz)).trans c0) (And.intro (((bcell hb7).1 w6.heap.size 1 (by simpa using zz)).trans c1) (((bcell hb7).1 w6.heap.size 2 (by simpa using zz)).trans c2)); have B8 := hide (B7.out.trans (Below.mono (show Below W.heap.size W w7 from ⟨hb7.os, hb7.tape, hb7.output, hb7.size, hb7.block⟩) B7.out.size))) | fail
        all_goals (
          clear hb7 B7 c0 c1 c2 k0 k1 k2 SS
          go_wp2_with fail
          go_ret
          exact ⟨rfl, B8.out⟩)
end Go.Proofs.YtdoodkabmeojmaaDoor

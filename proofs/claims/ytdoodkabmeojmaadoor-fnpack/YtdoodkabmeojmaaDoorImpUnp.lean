/- The program's Unpack. -/
import Derived.Test.YtdoodkabmeojmaaDoorImpText
import Derived.Test.YtdoodkabmeojmaaDoorImpPack
import Derived.Test.YtdoodkabmeojmaaDoorRngT
import Derived.Test.YtdoodkabmeojmaaDoorReadNum
import Derived.Test.YtdoodkabmeojmaaDoorNumO
import Derived.Test.YtdoodkabmeojmaaDoorCodeOf
import Derived.Test.YtdoodkabmeojmaaDoorPackV
namespace Go.Proofs.YtdoodkabmeojmaaDoor
open Go.RowKit
/-- What unpacked tells: the text, and what is wrong. -/
def unpR (r : ByteArray × Int) : Value := .tuple #[.string r.1, if r.2 = 0 then .nilIface else .iface 87 (.agg #[.int .i64 r.2])]
set_option maxRecDepth 100000 in
set_option maxHeartbeats 1600000 in
theorem imp_unpacked (s : ByteArray) (w : World) (hs : s.size ≤ 20000) :
    Calls Tryd.prog 19 #[.string s] w fun e w' => e = .returned (unpR (unpackS s)) ∧ Below w.heap.size w w' := by
  have hE := show unpackS s = _ from if_neg (show ¬ 20000 < s.size by omega)
  have SR := hide (impl_readNum s 0 w hs (by omega))
  rcases decAt_form s 0 with ⟨U, m, hd, hm⟩ | hd | hd
  · rw [hd] at hE SR
    rw [numRet_good] at SR
    simp only at hE
    obtain ⟨N, hN⟩ : ∃ N, N = unfold U := ⟨_, rfl⟩
    rw [← hN] at hE SR
    by_cases h3 : N < 0 ∨ 4000 < N
    · rw [if_pos h3] at hE
      rw [hE]
      by_cases h1 : N < 0
      · have d1 : decide (N < 0) = true := decide_eq_true h1
        clear hE hd hm hN
        go_enter Tryd.func19, Tryd.ntmps19
        go_wp2_with fail
        refine SR.out.mono ?_
        rintro e w1 ⟨rfl, rfl⟩
        clear SR
        go_wp2_with fail
        go_ret2
        exact ⟨rfl, Below.refl _ _⟩
      · have h2 : 4000 < N := by omega
        have d1 : decide (N < 0) = false := decide_eq_false h1
        have d2 : decide (4000 < N) = true := decide_eq_true h2
        clear hE hd hm hN
        go_enter Tryd.func19, Tryd.ntmps19
        go_wp2_with fail
        refine SR.out.mono ?_
        rintro e w1 ⟨rfl, rfl⟩
        clear SR
        go_wp2_with fail
        go_ret2
        exact ⟨rfl, Below.refl _ _⟩
    · rw [if_neg h3] at hE
      obtain ⟨n, hn⟩ : ∃ n : Nat, N = (n : Int) := ⟨N.toNat, by omega⟩
      have hn4 : n ≤ 4000 := by omega
      rw [hn] at hE SR
      rw [Int.toNat_natCast] at hE
      rw [hE]
      obtain ⟨q, hq⟩ : ∃ q, q = m := ⟨_, rfl⟩
      have e0 : ((0 : Nat) : Int) + (m : Int) = (m : Int) := by omega
      rw [e0] at SR
      have hms : m ≤ s.size := by omega
      have hrest := fun u : World => run_rest (P := Tryd.prog) u 9 s m Tryd.underlying9 hms
      obtain ⟨r, hr⟩ : ∃ r, r = s.extract m s.size := ⟨_, rfl⟩
      have hrs : r.size ≤ 20000 := by rw [hr, ByteArray.size_extract]; omega
      have HUN := hide (show unpN s m n = if (unpO r n).2 = true then (if packB (unpO r n).1 = s then ((unpO r n).1, 0) else (⟨#[]⟩, 3)) else (⟨#[]⟩, 5) by rw [hr]; rfl)
      rw [← hr] at hrest
      have d1 : decide ((n : Int) < 0) = false := decide_eq_false (by omega)
      have d2 : decide ((4000 : Int) < (n : Int)) = false := decide_eq_false (by omega)
      have d2' : decide (4000 < n) = false := decide_eq_false (by omega)
      have hmi : (m : Int) ≤ (s.size : Int) := by omega
      have HSZ := hide (unpO_size r n)
      clear hE hd hm hN hn h3 hq hr e0
      go_enter Tryd.func19, Tryd.ntmps19
      go_wp2_with fail
      refine SR.out.mono ?_
      rintro e w1 ⟨rfl, rfl⟩
      clear SR
      go_wp2_with fail
      refine (imp_newDecoder r w (by omega)).mono ?_
      rintro e w2 ⟨g, rfl, hg, hdec, hb2⟩
      have ST := hide (imp_text w.heap.size g n r w2 hn4 (by omega) hdec hg)
      obtain ⟨⟨B, ok⟩, hUU⟩ : ∃ UU, UU = unpO r n := ⟨_, rfl⟩
      rw [← hUU] at ST HUN HSZ
      have B2 := hide hb2
      clear hb2 hdec hUU
      go_wp2_with fail
      refine ST.out.mono ?_
      rintro e w3 ⟨rfl, hb3⟩
      have B3 := hide (B2.out.trans hb3)
      clear hb3 ST
      cases ok with
      | false =>
        have HU := hide (show unpN s m n = (⟨#[]⟩, 5) by rw [HUN.out]; rfl)
        clear HUN
        go_wp2_with fail
        go_ret2
        exact ⟨by rw [HU.out]; rfl, B3.out⟩
      | true =>
        have hB : B.size = n := HSZ.out rfl
        have SP := hide (imp_pack B w3 (by omega))
        have hPS : packS B = packB B := if_pos (by omega)
        rw [hPS] at SP
        obtain ⟨P, hP⟩ : ∃ P, P = packB B := ⟨_, rfl⟩
        rw [← hP] at SP
        have HUN2 := hide (show unpN s m n = if P = s then (B, 0) else (⟨#[]⟩, 3) by rw [HUN.out, hP]; rfl)
        clear HUN hB hPS hP HSZ
        by_cases hPs : P = s
        · have st : (P.toList == s.toList) = true := str_eq hPs
          have HU := hide (show unpN s m n = (B, 0) by rw [HUN2.out, if_pos hPs])
          clear HUN2 hPs
          go_wp2_with fail
          refine SP.out.mono ?_
          rintro e w4 ⟨rfl, hb4⟩
          have B4 := hide (B3.out.trans (hb4.mono B3.out.size))
          clear hb4 SP
          go_wp2_with fail
          go_ret2
          exact ⟨by rw [HU.out]; rfl, B4.out⟩
        · have st : (P.toList == s.toList) = false := str_ne hPs
          have HU := hide (show unpN s m n = (⟨#[]⟩, 3) by rw [HUN2.out, if_neg hPs])
          clear HUN2 hPs
          go_wp2_with fail
          refine SP.out.mono ?_
          rintro e w4 ⟨rfl, hb4⟩
          have B4 := hide (B3.out.trans (hb4.mono B3.out.size))
          clear hb4 SP
          go_wp2_with fail
          go_ret2
          exact ⟨by rw [HU.out]; rfl, B4.out⟩
  all_goals
    rw [hd] at hE SR
    rw [numRet_bad _ _ (by decide)] at SR
    have hE2 : unpackS s = (⟨#[]⟩, 3) := hE
    rw [hE2]
    clear hE hE2 hd
    go_enter Tryd.func19, Tryd.ntmps19
    go_wp2_with fail
    refine SR.out.mono ?_
    rintro e w1 ⟨rfl, rfl⟩
    clear SR
    go_wp2_with fail
    go_ret2
    exact ⟨rfl, Below.refl _ _⟩
set_option maxRecDepth 100000 in
set_option maxHeartbeats 1600000 in
theorem imp_unpack (s : ByteArray) (w : World) (hg : Laid w) (hs : s.size ≤ 9223372036854775807) :
    Calls Tryd.prog 7 #[.string s] w fun e w' => e = .returned (textO (unpackS s).1 (unpackS s).2) ∧ Below w.heap.size w w' := by
  by_cases h : 20000 < s.size
  · have hE : unpackS s = (⟨#[]⟩, 2) := if_pos h
    rw [hE]
    clear hE
    go_enter Tryd.func7, Tryd.ntmps7
    go_wp2_with fail
    go_returns
    exact ⟨rfl, by go_grown⟩
  · have hg1 := hide (hg.alloc (.cells #[.string ⟨#[]⟩, .int .i64 0, .int .i64 0] 26))
    have SU := hide (imp_unpacked s (w.alloc (.cells #[.string ⟨#[]⟩, .int .i64 0, .int .i64 0] 26)) (by omega))
    obtain ⟨⟨B, c⟩, hR⟩ : ∃ R, R = unpackS s := ⟨_, rfl⟩
    rw [← hR] at SU
    simp only [unpR] at SU
    have HR := hide hR
    clear hR hg
    go_enter Tryd.func7, Tryd.ntmps7
    go_wp2_with fail
    by_cases hc : c = 0
    · subst hc
      rw [if_pos rfl] at SU
      refine SU.out.mono ?_
      rintro e w1 ⟨rfl, hb1⟩
      have HB1 := hide hb1
      clear hb1 SU
      go_wp2_with fail
      refine (codeOf_nil _).mono ?_
      rintro e w2 ⟨rfl, hb2⟩
      have hb := HB1.out.trans (hb2.mono HB1.out.size)
      simp at hb
      obtain ⟨⟨c0, c1, c2⟩, hf⟩ := out_cells hb (Nat.lt_succ_self _) (heap_alloc_new w _)
      obtain ⟨r0, r1, r2⟩ := out_read (.string B) (.int .i64 0) (.int .i64 0) c0 c1 c2
      have HB := hide hb
      clear hb hb2 HB1
      go_wp2_with fail
      exact bodyPost_ret (v := textO B 0) (by simp [results, Tryd.results7, go_sem, r0, r1, r2, textO]) rfl ⟨by rw [← HR.out], below_out' HB.out⟩
    · rw [if_neg hc] at SU
      refine SU.out.mono ?_
      rintro e w1 ⟨rfl, hb1⟩
      have HB1 := hide hb1
      have hg2 := hide (hg1.out.below hb1 (by simp))
      clear hb1 SU
      go_wp2_with fail
      refine (codeOf_fault c _ hg2.out).mono ?_
      rintro e w2 ⟨rfl, hb2⟩
      have hb := HB1.out.trans (hb2.mono HB1.out.size)
      simp at hb
      obtain ⟨⟨c0, c1, c2⟩, hf⟩ := out_cells hb (Nat.lt_succ_self _) (heap_alloc_new w _)
      obtain ⟨r0, r1, r2⟩ := out_read (.string B) (.int .i64 0) (.int .i64 c) c0 c1 c2
      have HB := hide hb
      clear hb hb2 HB1
      go_wp2_with fail
      exact bodyPost_ret (v := textO B c) (by simp [results, Tryd.results7, go_sem, r0, r1, r2, textO]) rfl ⟨by rw [← HR.out], below_out' HB.out⟩
end Go.Proofs.YtdoodkabmeojmaaDoor

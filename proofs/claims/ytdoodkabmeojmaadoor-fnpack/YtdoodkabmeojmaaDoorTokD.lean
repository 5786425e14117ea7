/- The program's (*decoder).tokens: the function that it hands back hands on the tokens that come out of a code; the decoder is its own meanwhile. -/
import Derived.Shelf.Abstract
import Derived.Shelf.RegionOpen
import Derived.WalkKit
import Derived.TacticsInMore
import Derived.LoopNIn
import Derived.LoopIn
import Derived.Test.YtdoodkabmeojmaaDoorIterM
import Derived.Test.YtdoodkabmeojmaaDoorGetTok
import Derived.Test.YtdoodkabmeojmaaDoorImpTokS
namespace Go.Proofs.YtdoodkabmeojmaaDoor
open Go Go.RowKit Go.Shelf
attribute [local go_sem] Oper.semAt_some
theorem imp_tokens (g size : Nat) (w : World) :
    Calls Tryd.prog 66 #[.pointer (some ⟨g, 0, none⟩), .int .i64 (size : Int)] w fun e w' => e = .returned (.func (.func 76) #[] #[.pointer (some ⟨w.heap.size + 1, 0, none⟩), .pointer (some ⟨w.heap.size, 0, none⟩)]) ∧ w' = (w.alloc (.cells #[.pointer (some ⟨g, 0, none⟩)] 88)).alloc (.cells #[.int .i64 (size : Int)] 3) := by
  go_enter Tryd.func66, Tryd.ntmps66
  go_wp2_with fail
  go_ret
  exact ⟨rfl, rfl⟩
set_option maxRecDepth 100000 in
set_option maxHeartbeats 3200000 in
theorem dtoks1_in (n l Bs Bd g size : Nat) (hn : 1 ≤ n) (t : ByteArray) (h4 : size ≤ 4000) (hts : t.size ≤ 9223372036854775807) (st0 : RC × Nat) (hok0 : DecOk st0 0) (J Jx : (Nat → Prop) → List Tok → World → Prop) (hJ : StandsM J)
    (hY : ∀ M pre x W1, J M pre W1 → (pre ++ [x]) <+: dtoks (tbN t) size size st0 0 → YieldAt Fence.wide (n - 1) Tryd.prog l #[tokV x] W1 fun e W' =>
      (e = .returned (.bool true) ∧ J M (pre ++ [x]) W' ∧ KeptM M W1 W') ∨ (e = .returned (.bool false) ∧ Jx M (pre ++ [x]) W'))
    (W : World) (hBs : W.heap[Bs]? = some (.cells #[.int .i64 (size : Int)] 3)) (hBd : W.heap[Bd]? = some (.cells #[.pointer (some ⟨g, 0, none⟩)] 88)) (hD : DecP W g t st0.1 st0.2) (hgs : g ≠ Bs) (hgd : g ≠ Bd) (h0 : J (fun k => k = Bs ∨ k = Bd ∨ k = g) [] W) :
    CallsIn Fence.wide n Tryd.prog 76 #[.func (.yield l) #[] #[], .pointer (some ⟨Bs, 0, none⟩), .pointer (some ⟨Bd, 0, none⟩)] W fun e W' => (∃ v, e = .returned v) ∧
      ((∃ M xs, xs = dtoks (tbN t) size size st0 0 ∧ J M xs W') ∨ (∃ M pre, pre <+: dtoks (tbN t) size size st0 0 ∧ Jx M pre W')) := by
  have h4' : (size : Int) ≤ 4000 := by omega
  obtain ⟨T, hT⟩ : ∃ T, T = dtoks (tbN t) size size st0 0 := ⟨_, rfl⟩
  rw [← hT] at hY ⊢
  have HT := hide hT
  have j0 := hide h0
  have d0 := hide hD
  have b0 := hide (And.intro hBs hBd)
  have k0 := hide hok0
  have l0 := hide (show ∀ k, (k = Bs ∨ k = Bd ∨ k = g) → k < W.heap.size from fun k hk => by
    have h1 := (Array.getElem?_eq_some_iff.1 hBs).1
    have h2 := (Array.getElem?_eq_some_iff.1 hBd).1
    have h3 := hD.lt
    rcases hk with h | h | h <;> omega)
  have HY := hide hY
  have HJ := hide hJ
  clear h0 hD hBs hBd hok0 hY hJ hT
  refine callsIn_of_wp Tryd.func76 rfl trivial ?_ rfl
  simp only [Tryd.ntmps76, List.size_toArray, List.length_cons, List.length_nil, Nat.reduceAdd, Nat.reduceSub, Array.replicate_succ, Array.replicate_zero, List.push_toArray, List.append_toArray, List.nil_append, List.cons_append]
  gi_wp2_with fail
  gi_loopw [4] (fun i wx => ∃ (made k : Nat) (st : RC × Nat) (l : List Tok) (M : Nat → Prop), i = .int .i64 made ∧ made ≤ 4066 ∧ size ≤ made + k ∧ Hid (l ++ dtoks (tbN t) size k st made = T) ∧ Hid (J M l wx) ∧ Hid (∃ m, DecOk st m) ∧ Hid (DecP wx g t st.1 st.2) ∧ Hid (M Bs ∧ M Bd ∧ M g) ∧ Hid (wx.heap[Bs]? = some (.cells #[.int .i64 (size : Int)] 3) ∧ wx.heap[Bd]? = some (.cells #[.pointer (some ⟨g, 0, none⟩)] 88)) ∧ Hid (∀ k, M k → k < wx.heap.size)) (fun i _ => size - (intOf i).toNat)
  case atStart => exact ⟨0, size, st0, [], _, rfl, by omega, by omega, HT.out.symm, j0, ⟨0, k0.out⟩, d0, ⟨.inl rfl, .inr (.inl rfl), .inr (.inr rfl)⟩, b0, l0⟩
  case round =>
    clear j0 d0 b0 k0 l0
    obtain ⟨made, k, st, l2, M, rfl, hm66, hsk, hpl, j1, j2, j3, j4, j5, j6⟩ := hrel
    have cS : wr.cell? ⟨Bs, 0, none⟩ = some (.int .i64 (size : Int)) := by simp [World.cell?, j5.out.1]
    have cD : wr.cell? ⟨Bd, 0, none⟩ = some (.pointer (some ⟨g, 0, none⟩)) := by simp [World.cell?, j5.out.2]
    by_cases hlt : made < size
    · have hlt' : (made : Int) < (size : Int) := by omega
      obtain ⟨k', rfl⟩ : ∃ k', k = k' + 1 := ⟨k - 1, by omega⟩
      obtain ⟨mm, hok⟩ := j2.out
      have ST := hide (imp_getToken g mm t st wr hok hts j3.out)
      have HK2 := hide (dtok_ok (tbN t) st mm hok)
      have hts2 := tsz_pos (tbN t) st
      have HDT := hide (show dtoks (tbN t) size (k' + 1) st made = (dtok (tbN t) st).1 :: dtoks (tbN t) size k' (dtok (tbN t) st).2 (made + tsz (dtok (tbN t) st).1) from if_pos hlt)
      obtain ⟨⟨⟨tb, tm, tf⟩, st2⟩, hTK⟩ : ∃ TK, TK = dtok (tbN t) st := ⟨_, rfl⟩
      rw [← hTK] at ST HK2 hts2 HDT
      simp only at ST HK2 hts2 HDT
      obtain ⟨sN, hsN⟩ : ∃ sN, sN = tsz ⟨tb, tm, tf⟩ := ⟨_, rfl⟩
      rw [← hsN] at hts2 HDT
      have hsz : tokSize tm = (sN : Int) := by
        have h1 : (tokSize tm).toNat = sN := hsN.symm
        omega
      have HPN := hide (show (l2 ++ [(⟨tb, tm, tf⟩ : Tok)]) ++ dtoks (tbN t) size k' st2 (made + sN) = T by
        rw [← hpl.out, HDT.out, List.append_assoc]; rfl)
      have SS := hide (show ∀ u : World, Calls Tryd.prog 33 #[.agg #[.int .i64 tb, .int .i64 tm, .int .i64 tf]] u (fun e w' => e = .returned (.int .i64 (sN : Int)) ∧ Below u.heap.size u w') from fun u => by
        have h := imp_size tb tm tf u
        rw [hsz] at h
        exact h)
      have hgl := j3.out.lt
      obtain ⟨hs1, hs66⟩ := hts2
      clear hTK hsN hsz hpl HDT hok j2
      gi_wp2_with fail
      refine ⟨trivial, (callsIn_wide.2 ST.out).mono ?_⟩
      rintro e w1 ⟨rfl, hd1, hg1⟩
      simp only [tokV]
      obtain ⟨K, hK⟩ : ∃ K, K = w1.heap.size := ⟨_, rfl⟩
      have hk1 := hg1.size
      obtain ⟨m0, m1, m2⟩ := j4.out
      have hBsl := j6.out Bs m0
      have hBdl := j6.out Bd m1
      have mv : Moves M wr (w1.alloc (.cells #[.int .i64 tb, .int .i64 tm, .int .i64 tf] 38)) := ⟨hg1.os, hg1.tape, hg1.output, by simp; omega, fun k hk hm => (Below.heap_alloc _ _ k (by omega)).trans (hg1.block k hk (fun e => by cases e; exact hm m2))⟩
      have z2 : (w1.alloc (.cells #[.int .i64 tb, .int .i64 tm, .int .i64 tf] 38)).heap.size = K + 1 := by simp [hK]
      have q2 : (w1.alloc (.cells #[.int .i64 tb, .int .i64 tm, .int .i64 tf] 38)).heap[K]? = some (.cells #[.int .i64 tb, .int .i64 tm, .int .i64 tf] 38) := by rw [hK]; exact World.alloc_heap_new w1 _
      have d2 : DecP (w1.alloc (.cells #[.int .i64 tb, .int .i64 tm, .int .i64 tf] 38)) g t st2.1 st2.2 := hd1.kept (Below.heap_alloc _ _ _ hd1.lt)
      have bs2 : (w1.alloc (.cells #[.int .i64 tb, .int .i64 tm, .int .i64 tf] 38)).heap[Bs]? = some (.cells #[.int .i64 (size : Int)] 3) := (Below.heap_alloc _ _ _ (by omega)).trans ((hg1.block Bs hBsl (fun e => hgs (by cases e; rfl))).trans j5.out.1)
      have bd2 : (w1.alloc (.cells #[.int .i64 tb, .int .i64 tm, .int .i64 tf] 38)).heap[Bd]? = some (.cells #[.pointer (some ⟨g, 0, none⟩)] 88) := (Below.heap_alloc _ _ _ (by omega)).trans ((hg1.block Bd hBdl (fun e => hgd (by cases e; rfl))).trans j5.out.2)
      obtain ⟨M2, hM2⟩ : ∃ M2 : Nat → Prop, ∀ g, M2 g ↔ (M g ∨ wr.heap.size ≤ g ∧ g < K + 1) := ⟨fun g => M g ∨ wr.heap.size ≤ g ∧ g < K + 1, fun g => Iff.rfl⟩
      have jj2 := HJ.out _ M2 _ _ _ j1.out mv (fun g hg => by rcases (hM2 g).1 hg with h | h; exact .inl h; exact .inr ⟨h.1, by omega⟩)
      obtain ⟨fn, tmps, assign, body, hy, hR⟩ := HY.out M2 l2 ⟨tb, tm, tf⟩ _ jj2 ⟨_, HPN.out⟩
      simp only [tokV] at hy
      have HR := hide hR
      have HT9 := hide (And.intro z2 (And.intro q2 (And.intro hM2 (And.intro hK (And.intro d2 (And.intro bs2 bd2))))))
      clear hR z2 q2 hM2 hK hg1 hd1 ST jj2 mv d2 bs2 bd2
      gi_wp2_with fail
      refine HR.out.mono ?_
      obtain ⟨z2, q2, hM2, hK, d2, bs2, bd2⟩ := HT9.out
      generalize (w1.alloc (.cells #[.int .i64 tb, .int .i64 tm, .int .i64 tf] 38)) = W2 at *
      rw [← hK]
      have HK := hide hK
      have n0 : ∀ g, M g → M2 g := fun g h => (hM2 g).2 (.inl h)
      have nK : M2 K := (hM2 K).2 (.inr (by omega))
      have hw2 : wr.heap.size ≤ W2.heap.size := by omega
      have l2z : ∀ g, M2 g → g < W2.heap.size := fun g hg => by rcases (hM2 g).1 hg with h | h; exact Nat.lt_of_lt_of_le (j6.out g h) (by omega); omega
      clear hK hy HR HT9
      rintro e W3 (⟨rfl, hJ3, hk3⟩ | ⟨rfl, hJx3⟩)
      · have q3 : W3.heap[K]? = some (.cells #[.int .i64 tb, .int .i64 tm, .int .i64 tf] 38) := (hk3.block K (by omega) nK).trans q2
        have k0 : W3.cell? ⟨K, 0, none⟩ = some (.int .i64 tb) := by simp [World.cell?, q3]
        have k1 : W3.cell? ⟨K, 1, none⟩ = some (.int .i64 tm) := by simp [World.cell?, q3]
        have k2 : W3.cell? ⟨K, 2, none⟩ = some (.int .i64 tf) := by simp [World.cell?, q3]
        have hs3 := hk3.size
        have d3 := hide (d2.kept (hk3.block _ (l2z _ (n0 _ m2)) (n0 _ m2)))
        have bs3 := hide ((hk3.block Bs (l2z _ (n0 _ m0)) (n0 _ m0)).trans bs2)
        have bd3 := hide ((hk3.block Bd (l2z _ (n0 _ m1)) (n0 _ m1)).trans bd2)
        have J3 := hide hJ3
        have HN0 := hide n0
        have HL2 := hide l2z
        have hM0 := hide (And.intro m0 (And.intro m1 m2))
        clear hk3 hJ3 q3 q2 hM2 n0 l2z d2 bs2 bd2 z2 nK
        gi_wp2_with fail
        refine ⟨trivial, (callsIn_wide.2 (SS.out _)).mono ?_⟩
        rintro e w6 ⟨rfl, hb6⟩
        have hs6 := hb6.size
        obtain ⟨M6, hM6⟩ : ∃ M6 : Nat → Prop, ∀ g, M6 g ↔ (M2 g ∨ W3.heap.size ≤ g ∧ g < w6.heap.size) := ⟨fun g => M2 g ∨ W3.heap.size ≤ g ∧ g < w6.heap.size, fun g => Iff.rfl⟩
        have n6 : ∀ g, M g → M6 g := fun g h => (hM6 g).2 (.inl (HN0.out g h))
        have J6 := hide (HJ.out M2 M6 _ _ _ J3.out (Moves.below hb6) (fun g hg => by rcases (hM6 g).1 hg with h | h; exact .inl h; exact .inr h))
        have D6 := hide (show DecP w6 g t st2.1 st2.2 from d3.out.kept (hb6.block _ d3.out.lt))
        have B6 := hide (show w6.heap[Bs]? = some (.cells #[.int .i64 (size : Int)] 3) ∧ w6.heap[Bd]? = some (.cells #[.pointer (some ⟨g, 0, none⟩)] 88) from ⟨(hb6.block Bs (by omega)).trans bs3.out, (hb6.block Bd (by omega)).trans bd3.out⟩)
        have ML6 := hide (show ∀ g, M6 g → g < w6.heap.size from fun g hg => by rcases (hM6 g).1 hg with h | h; exact Nat.lt_of_lt_of_le (HL2.out g h) (by omega); exact h.2)
        have N6 := hide (And.intro (n6 _ hM0.out.1) (And.intro (n6 _ hM0.out.2.1) (n6 _ hM0.out.2.2)))
        obtain ⟨q, hq⟩ : ∃ q, q = made + sN := ⟨_, rfl⟩
        have s1 : (made : Int) + (sN : Int) = (q : Int) := by omega
        have s1w : IntKind.i64.wrap ((made : Int) + (sN : Int)) = (q : Int) := by simp only [IntKind.wrap_i64]; omega
        have hq4 : (q : Int) ≤ 4066 := by omega
        have hqm : made < q := by omega
        have hqk : size ≤ q + k' := by omega
        rw [← hq] at HPN
        clear hq hM6 n6 hb6 SS d3 bs3 bd3 J3 k0 k1 k2
        gi_wp2_with fail
        go_roundw
        case rel => exact ⟨q, k', st2, l2 ++ [(⟨tb, tm, tf⟩ : Tok)], M6, rfl, by omega, hqk, HPN, J6, ⟨_, HK2.out⟩, D6, N6, B6, ML6⟩
        case measure => simp [intOf]; omega
      · have HX := hide hJx3
        have HPX := hide (show (l2 ++ [(⟨tb, tm, tf⟩ : Tok)]) <+: T from ⟨_, HPN.out⟩)
        clear hJx3
        gi_wp2_with fail
        refine bodyPost_ret (results_none rfl _ _ _) rfl ?_
        exact ⟨⟨_, rfl⟩, .inr ⟨M2, _, HPX.out, HX.out⟩⟩
    · have hlt' : ¬ (made : Int) < (size : Int) := by omega
      have R := hide (show l2 = T by
        rw [← hpl.out]
        cases k with
        | zero => exact (List.append_nil _).symm
        | succ k => rw [show dtoks (tbN t) size (k + 1) st made = [] from if_neg hlt, List.append_nil])
      clear hpl
      gi_wp2_with fail
      go_end0
      exact ⟨⟨_, rfl⟩, .inl ⟨M, by rw [← R.out]; exact j1.out⟩⟩
theorem dtoks_seq (n Bs Bd g size : Nat) (hn : 1 ≤ n) (t : ByteArray) (h4 : size ≤ 4000) (hts : t.size ≤ 9223372036854775807) (st0 : RC × Nat) (hok0 : DecOk st0 0) (w : World) (hBs : w.heap[Bs]? = some (.cells #[.int .i64 (size : Int)] 3)) (hBd : w.heap[Bd]? = some (.cells #[.pointer (some ⟨g, 0, none⟩)] 88)) (hD : DecP w g t st0.1 st0.2) (hgs : g ≠ Bs) (hgd : g ≠ Bd) :
    SeqM Fence.wide n Tryd.prog 76 #[.pointer (some ⟨Bs, 0, none⟩), .pointer (some ⟨Bd, 0, none⟩)] (fun x => #[tokV x]) (fun k => k = Bs ∨ k = Bd ∨ k = g) (fun xs => xs = dtoks (tbN t) size size st0 0) (fun pre => pre <+: dtoks (tbN t) size size st0 0) (fun pre x => (pre ++ [x]) <+: dtoks (tbN t) size size st0 0) w :=
  fun l J Jx W hW hJ _ hY h0 => dtoks1_in n l Bs Bd g size hn t h4 hts st0 hok0 J Jx hJ hY W ((hW.block Bs (Array.getElem?_eq_some_iff.1 hBs).1 (.inl rfl)).trans hBs) ((hW.block Bd (Array.getElem?_eq_some_iff.1 hBd).1 (.inr (.inl rfl))).trans hBd) (hD.kept (hW.block g hD.lt (.inr (.inr rfl)))) hgs hgd h0
end Go.Proofs.YtdoodkabmeojmaaDoor

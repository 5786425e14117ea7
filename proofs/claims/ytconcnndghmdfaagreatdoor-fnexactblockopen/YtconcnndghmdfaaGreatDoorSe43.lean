/- Put together: TokSeq, RngE, Bits, PutNumI, SizeI, JoinedI. -/
import Derived.Test.YtconcnndghmdfaaGreatDoorSe37
import Derived.Test.YtconcnndghmdfaaGreatDoorSe11
import Derived.Test.YtconcnndghmdfaaGreatDoorSe42
import Derived.Test.YtconcnndghmdfaaGreatDoorSe35
import Derived.Test.YtconcnndghmdfaaGreatDoorSe14
import Derived.Laws.BitsLemmas
import Derived.Laws.Bits64
import Derived.Laws.Bits64b
import Derived.Test.YtconcnndghmdfaaGreatDoorSe10
import Derived.Test.YtconcnndghmdfaaGreatDoorRows
import Derived.Test.YtconcnndghmdfaaGreatDoorSe1
import Derived.WalkKit
import Derived.WalkSpells
import Derived.Test.YtconcnndghmdfaaGreatDoorSe3
namespace Go.Proofs.YtconcnndghmdfaaGreatDoor
open Go Go.RowKit Go.Shelf
attribute [local go_sem] Oper.semAt_some
theorem tokSize_at (T : Nat → UInt8) (N p : Nat) : tokSize (tokAt T N p).m = ((stepAt T N p - p : Nat) : Int) := by
  unfold tokAt stepAt
  split
  · show tokSize 0 = _
    unfold tokSize
    rw [if_pos rfl]; omega
  · show tokSize ((bestAt T N p).1 : Int) = _
    unfold tokSize
    rw [if_neg (by omega)]; omega
theorem imp_tokensOf (t : ByteArray) (w : World) :
    Calls Tryz.prog 54 #[.string t] w fun e w' => e = .returned (.func (.func 80) #[] #[.pointer (some ⟨w.heap.size, 0, none⟩)]) ∧ w' = w.alloc (.cells #[.string t] 9) := by
  go_enter Tryz.func54, Tryz.ntmps54
  go_wp2_with fail
  go_ret
  exact ⟨rfl, rfl⟩
theorem PlM.keptM {w w' : World} {base mb e : Nat} {L : Value → List Nat} {No M : Nat → Prop} {es : Array MapEntry} {clock : Nat} (h : PlM w base mb e L No es clock) (hk : KeptM M w w') (hmb : M mb) (hn : ∀ g, g < w.heap.size → ¬ M g → No g) : PlM w' base mb e L No es clock :=
  h.kept (hk.block mb h.lt hmb) (fun g _ h2 h3 => Classical.byCases (fun hm : M g => hk.block g h2 hm) (fun hm => absurd (hn g h2 hm) h3))
set_option maxRecDepth 100000 in
set_option maxHeartbeats 3200000 in
theorem toks1_in (n l Bs : Nat) (hn : 1 ≤ n) (t : ByteArray) (h4 : t.size ≤ 4000) (J Jx : (Nat → Prop) → List Tok → World → Prop) (hJ : StandsM J)
    (hY : ∀ M pre x W1, J M pre W1 → (pre ++ [x]) <+: parseL (bF t) t.size → YieldAt Fence.wide (n - 1) Tryz.prog l #[tokV x] W1 fun e W' =>
      (e = .returned (.bool true) ∧ J M (pre ++ [x]) W' ∧ KeptM M W1 W') ∨ (e = .returned (.bool false) ∧ Jx M (pre ++ [x]) W'))
    (W : World) (hBs : W.heap[Bs]? = some (.cells #[.string t] 9)) (h0 : J (fun g => g = Bs) [] W) :
    CallsIn Fence.wide n Tryz.prog 80 #[.func (.yield l) #[] #[], .pointer (some ⟨Bs, 0, none⟩)] W fun e W' => (∃ v, e = .returned v) ∧
      ((∃ M xs, xs = parseL (bF t) t.size ∧ J M xs W') ∨ (∃ M pre, pre <+: parseL (bF t) t.size ∧ Jx M pre W')) := by
  have hBl := (Array.getElem?_eq_some_iff.1 hBs).1
  obtain ⟨B, hB⟩ : ∃ B, B = W.heap.size := ⟨_, rfl⟩
  have HBS := hide hBs
  have cB : W.cell? ⟨Bs, 0, none⟩ = some (.string t) := by simp [World.cell?, hBs]
  have SN := hide (imp_newPast t W)
  rw [← hB] at SN
  have HB0 := hide hB
  refine callsIn_of_wp Tryz.func80 rfl trivial ?_ rfl
  simp only [Tryz.ntmps80, List.size_toArray, List.length_cons, List.length_nil, Nat.reduceAdd, Nat.reduceSub, Array.replicate_succ, Array.replicate_zero, List.push_toArray, List.append_toArray, List.nil_append, List.cons_append]
  gi_wp2_with fail
  refine ⟨trivial, (callsIn_wide.2 SN.out).mono ?_⟩
  rintro e w0 ⟨cap, rfl, hP0, hm0, hs0, hb0⟩
  have J0 := hide (show J (fun g => g = Bs ∨ B ≤ g ∧ g < w0.heap.size) [] w0 from hJ _ _ _ _ _ h0 (Moves.below (by rw [← hB]; exact hb0)) (fun g hg => by rcases hg with hg | hg; exact .inl hg; exact .inr (by omega)))
  have P0 := hide hP0
  have M0 := hide (show ∃ es clock, PlM w0 (B + 3) (B + 1) 3 (plc (bF t) t.size 0) (fun g => ¬ (g = Bs ∨ B ≤ g ∧ g < w0.heap.size)) es clock from by
    rw [plc_zero]
    have h := PlM.made (e := 3) (base := B + 3) hm0 (by omega)
    exact ⟨#[], 0, h.blk, h.st, h.keys, h.own, by simp, h.all, h.sep, h.hb⟩)
  have B0 := hide (show w0.heap[Bs]? = some (.cells #[.string t] 9) from (hb0.block Bs (by omega)).trans HBS.out)
  have S0 : B + 3 ≤ w0.heap.size := by omega
  have L0 := hide (show ∀ g, (g = Bs ∨ B ≤ g ∧ g < w0.heap.size) → g < w0.heap.size from fun g hg => by rcases hg with hg | hg <;> omega)
  have HY := hide hY
  have HJ := hide hJ
  have HB := hide hB
  clear hB hP0 hm0 hs0 hb0 h0 hBs hY hJ SN
  gi_wp2_with fail
  gi_loopw [4] (fun i wx => ∃ (p : Nat) (l : List Tok) (M : Nat → Prop), p ≤ t.size ∧ i = .int .i64 p ∧ l.length ≤ p ∧ Hid (l ++ parseG (bF t) t.size (t.size - p) p = parseL (bF t) t.size) ∧ Hid (J M l wx) ∧ Hid (Pst wx (B + 2) B (B + 1) t.size cap (bF t)) ∧ Hid (∃ es clock, PlM wx (B + 3) (B + 1) 3 (plc (bF t) t.size p) (fun g => ¬ M g) es clock) ∧ Hid (M Bs ∧ M B ∧ M (B + 1) ∧ M (B + 2)) ∧ Hid (wx.heap[Bs]? = some (.cells #[.string t] 9)) ∧ B + 3 ≤ wx.heap.size ∧ Hid (∀ g, M g → g < wx.heap.size)) (fun i _ => t.size - (intOf i).toNat)
  case atStart => exact ⟨0, [], _, by omega, rfl, Nat.le_refl _, rfl, J0, P0, M0, ⟨.inl rfl, .inr (by omega), .inr (by omega), .inr (by omega)⟩, B0, S0, L0⟩
  case round =>
    clear J0 P0 M0 B0 L0
    obtain ⟨p, l2, M, hp, rfl, hlp, hpl, j1, j2, j3, j4, j5, j6, j7⟩ := hrel
    have cB' : wr.cell? ⟨Bs, 0, none⟩ = some (.string t) := by simp [World.cell?, j5.out]
    by_cases hlt : p < t.size
    · have hlt' : (p : Int) < (t.size : Int) := by omega
      have ST := hide (imp_tokenAt (B + 2) B (B + 1) t.size cap p (B + 3) (bF t) _ wr j2.out j3.out h4 hlt)
      obtain ⟨TK, hTK⟩ : ∃ TK, TK = tokAt (bF t) t.size p := ⟨_, rfl⟩
      rw [← hTK] at ST
      obtain ⟨tb, tm, tf⟩ := TK
      dsimp only at ST
      obtain ⟨sN, hsN⟩ : ∃ sN, sN = stepAt (bF t) t.size p - p := ⟨_, rfl⟩
      have hsz : tokSize tm = (sN : Int) := by
        have := tokSize_at (bF t) t.size p
        rw [← hTK, ← hsN] at this; exact this
      have hst1 := stepAt_gt (bF t) t.size p
      have hst2 := stepAt_le (bF t) t.size p hlt
      have hs1 : 1 ≤ sN := by omega
      have hs2 : p + sN ≤ t.size := by omega
      have HPN := hide (show (l2 ++ [(⟨tb, tm, tf⟩ : Tok)]) ++ parseG (bF t) t.size (t.size - (p + sN)) (p + sN) = parseL (bF t) t.size by
        rw [← hpl.out, show t.size - p = (t.size - (p + 1)) + 1 by omega, parseG_step (bF t) t.size _ p hlt, List.append_assoc, ← hTK, show p + sN = stepAt (bF t) t.size p by omega, parseG_fuel (bF t) t.size (t.size - (p + 1)) (t.size - stepAt (bF t) t.size p) (stepAt (bF t) t.size p) (by omega) (by omega)]; rfl)
      have SS := hide (show ∀ u : World, Calls Tryz.prog 84 #[.agg #[.int .i64 tb, .int .i64 tm, .int .i64 tf]] u (fun e w' => e = .returned (.int .i64 (sN : Int)) ∧ Below u.heap.size u w') from fun u => by
        have h := imp_size tb tm tf u
        rw [hsz] at h
        exact h)
      clear hTK hsN hsz hst1 hst2 hpl
      gi_wp2_with fail
      refine ⟨trivial, (callsIn_wide.2 ST.out).mono ?_⟩
      rintro e w1 ⟨rfl, hb1⟩
      obtain ⟨K, hK⟩ : ∃ K, K = w1.heap.size := ⟨_, rfl⟩
      have hk1 := hb1.size
      have hKB : B + 3 ≤ K := by omega
      have b2 : Below wr.heap.size wr (w1.alloc (.cells #[.int .i64 tb, .int .i64 tm, .int .i64 tf] 80)) := hb1.alloc hk1 _
      have z2 : (w1.alloc (.cells #[.int .i64 tb, .int .i64 tm, .int .i64 tf] 80)).heap.size = K + 1 := by simp [hK]
      have q2 : (w1.alloc (.cells #[.int .i64 tb, .int .i64 tm, .int .i64 tf] 80)).heap[K]? = some (.cells #[.int .i64 tb, .int .i64 tm, .int .i64 tf] 80) := by rw [hK]; exact World.alloc_heap_new w1 _
      obtain ⟨M2, hM2⟩ : ∃ M2 : Nat → Prop, ∀ g, M2 g ↔ (M g ∨ wr.heap.size ≤ g ∧ g < K + 1) := ⟨fun g => M g ∨ wr.heap.size ≤ g ∧ g < K + 1, fun g => Iff.rfl⟩
      have jj2 := HJ.out _ M2 _ _ _ j1.out (Moves.below b2) (fun g hg => by rcases (hM2 g).1 hg with h | h; exact .inl h; exact .inr ⟨h.1, by omega⟩)
      obtain ⟨fn, tmps, assign, body, hy, hR⟩ := HY.out M2 l2 ⟨tb, tm, tf⟩ _ jj2 ⟨_, HPN.out⟩
      simp only [tokV] at hy
      have HR := hide hR
      have HT := hide (And.intro b2 (And.intro z2 (And.intro q2 (And.intro hM2 hK))))
      clear hR b2 z2 q2 hM2 hK hb1 ST jj2
      gi_wp2_with fail
      refine HR.out.mono ?_
      obtain ⟨b2, z2, q2, hM2, hK⟩ := HT.out
      generalize (w1.alloc (.cells #[.int .i64 tb, .int .i64 tm, .int .i64 tf] 80)) = W2 at *
      rw [← hK]
      have hs2b := b2.size
      have HK := hide hK
      obtain ⟨m0, m1, m2, m3⟩ := j4.out
      have n0 : ∀ g, M g → M2 g := fun g h => (hM2 g).2 (.inl h)
      have nK : M2 K := (hM2 K).2 (.inr (by omega))
      have p2 : Pst W2 (B + 2) B (B + 1) t.size cap (bF t) := j2.out.of_blocks b2.size (b2.block _ (by omega)) (b2.block _ (by omega))
      have pm2 : ∃ es clock, PlM W2 (B + 3) (B + 1) 3 (plc (bF t) t.size p) (fun g => ¬ M2 g ∨ g = K) es clock := by
        obtain ⟨es, clock, hh⟩ := j3.out
        exact ⟨es, clock, (hh.reno (No' := fun g => ¬ M2 g ∨ g = K) (fun g hg => by rcases hg with hg | hg; exact .inl (fun h => hg (n0 g h)); exact .inr (by omega))).below b2⟩
      have bs2 : W2.heap[Bs]? = some (.cells #[.string t] 9) := (b2.block Bs (by have := j7.out Bs m0; omega)).trans j5.out
      have l2z : ∀ g, M2 g → g < W2.heap.size := fun g hg => by rcases (hM2 g).1 hg with h | h; exact Nat.lt_of_lt_of_le (j7.out g h) b2.size; omega
      clear hK hy HR HT hk1 b2
      rintro e W3 (⟨rfl, hJ3, hk3⟩ | ⟨rfl, hJx3⟩)
      · have q3 : W3.heap[K]? = some (.cells #[.int .i64 tb, .int .i64 tm, .int .i64 tf] 80) := (hk3.block K (by omega) nK).trans q2
        have k0 : W3.cell? ⟨K, 0, none⟩ = some (.int .i64 tb) := by simp [World.cell?, q3]
        have k1 : W3.cell? ⟨K, 1, none⟩ = some (.int .i64 tm) := by simp [World.cell?, q3]
        have k2 : W3.cell? ⟨K, 2, none⟩ = some (.int .i64 tf) := by simp [World.cell?, q3]
        have hs3 := hk3.size
        have p3 := hide (p2.of_blocks hk3.size (hk3.block _ (l2z _ (n0 _ m3)) (n0 _ m3)) (hk3.block _ (l2z _ (n0 _ m1)) (n0 _ m1)))
        have pm3 := hide (show ∃ es clock, PlM W3 (B + 3) (B + 1) 3 (plc (bF t) t.size p) (fun g => ¬ M2 g ∨ g = K) es clock from by
          obtain ⟨es, clock, hh⟩ := pm2
          exact ⟨es, clock, hh.keptM hk3 (n0 _ m2) (fun g _ h => .inl h)⟩)
        have bs3 := hide ((hk3.block Bs (l2z _ (n0 _ m0)) (n0 _ m0)).trans bs2)
        have Q3 := hide q3
        have J3 := hide hJ3
        have HM2 := hide hM2
        have HN0 := hide n0
        have HL2 := hide l2z
        have hK3 : K < W3.heap.size := by omega
        have hB3 : B + 3 ≤ W3.heap.size := by omega
        have hz3 := hide (show W2.heap.size ≤ W3.heap.size ∧ W2.heap.size = K + 1 from ⟨hs3, z2⟩)
        clear hk3 hJ3 q3 q2 hM2 n0 l2z p2 pm2 bs2 z2 hs3 nK hs2b
        gi_wp2_with fail
        refine ⟨trivial, (callsIn_wide.2 (SS.out _)).mono ?_⟩
        rintro e w4 ⟨rfl, hb4⟩
        have hs4 := hb4.size
        have SG := hide (imp_goBy (B + 2) B (B + 1) t.size cap p sN (B + 3) (bF t) (fun g => (¬ M2 g ∨ g = K) ∧ g < w4.heap.size) w4 (p3.out.below hb4) (by obtain ⟨es, clock, hh⟩ := pm3.out; exact ⟨es, clock, (hh.below hb4).reno (fun g hg => .inl hg.1)⟩) h4 hs2 (by omega) (by omega) (by omega) (by omega) (by omega) (fun g hg => hg.2))
        gi_wp2_with fail
        refine ⟨trivial, (callsIn_wide.2 SG.out).mono ?_⟩
        rintro e w5 ⟨rfl, hM5, hT5⟩
        have hs5 := hT5.size
        have M5 := hide hM5
        have T5 := hide hT5
        have B4 := hide hb4
        have q5 : w5.heap[K]? = some (.cells #[.int .i64 tb, .int .i64 tm, .int .i64 tf] 80) := (T5.out.block K (by omega) (by omega) (.inr ⟨.inr rfl, by omega⟩)).trans ((hb4.block K hK3).trans Q3.out)
        have e0 : w5.cell? ⟨K, 0, none⟩ = some (.int .i64 tb) := by simp [World.cell?, q5]
        have e1 : w5.cell? ⟨K, 1, none⟩ = some (.int .i64 tm) := by simp [World.cell?, q5]
        have e2 : w5.cell? ⟨K, 2, none⟩ = some (.int .i64 tf) := by simp [World.cell?, q5]
        have hK5 : K < w5.heap.size := by omega
        obtain ⟨q, hq⟩ : ∃ q, q = p + sN := ⟨_, rfl⟩
        have s1 : (p : Int) + (sN : Int) = (q : Int) := by omega
        have s1w : IntKind.i64.wrap ((p : Int) + (sN : Int)) = (q : Int) := by simp only [IntKind.wrap_i64]; omega
        have hq4 : (q : Int) ≤ 4000 := by omega
        have hqN : q ≤ t.size := by omega
        have hpq : p < q := by omega
        rw [← hq] at HPN M5
        clear hq hM5 hT5 hb4 SG q5 k0 k1 k2
        gi_wp2_with fail
        refine ⟨trivial, (callsIn_wide.2 (SS.out _)).mono ?_⟩
        rintro e w6 ⟨rfl, hb6⟩
        have hs6 := hb6.size
        obtain ⟨M6, hM6⟩ : ∃ M6 : Nat → Prop, ∀ g, M6 g ↔ (M2 g ∨ W3.heap.size ≤ g ∧ g < w6.heap.size) := ⟨fun g => M2 g ∨ W3.heap.size ≤ g ∧ g < w6.heap.size, fun g => Iff.rfl⟩
        have n6 : ∀ g, M g → M6 g := fun g h => (hM6 g).2 (.inl (HN0.out g h))
        have mv : Moves M2 W3 w6 := ⟨hb6.os.trans (T5.out.os.trans B4.out.os), hb6.tape.trans (T5.out.tape.trans B4.out.tape), hb6.output.trans (T5.out.output.trans B4.out.output), by omega, fun g h1 h2 =>
          (hb6.block g (by omega)).trans ((T5.out.block g (by omega) (fun e => h2 (by rw [e]; exact HN0.out _ m2)) (.inr ⟨.inl h2, by omega⟩)).trans (B4.out.block g h1))⟩
        have J6 := hide (HJ.out M2 M6 _ _ _ J3.out mv (fun g hg => by rcases (hM6 g).1 hg with h | h; exact .inl h; exact .inr h))
        have P6 := hide (show Pst w6 (B + 2) B (B + 1) t.size cap (bF t) from ((p3.out.below B4.out).turn T5.out (by omega) (by omega) (by omega) (by omega)).below hb6)
        have PM6 := hide (show ∃ es clock, PlM w6 (B + 3) (B + 1) 3 (plc (bF t) t.size q) (fun g => ¬ M6 g) es clock from by
          obtain ⟨es, clock, hh⟩ := M5.out
          refine ⟨es, clock, (hh.below hb6).reno (fun g hg => ?_)⟩
          by_cases h : g < w6.heap.size
          · refine .inl ⟨.inl (fun h2 => hg ((hM6 g).2 (.inl h2))), ?_⟩
            have : ¬ W3.heap.size ≤ g := fun h3 => hg ((hM6 g).2 (.inr ⟨h3, h⟩))
            omega
          · exact .inr (by omega))
        have BS6 := hide (show w6.heap[Bs]? = some (.cells #[.string t] 9) from by
          have hBB : Bs < B := by rw [HB.out]; exact hBl
          exact ((hb6.block Bs (by omega)).trans ((T5.out.block Bs (by omega) (by omega) (.inl (by omega))).trans (B4.out.block Bs (by omega)))).trans bs3.out)
        have ML6 := hide (show ∀ g, M6 g → g < w6.heap.size from fun g hg => by rcases (hM6 g).1 hg with h | h; exact Nat.lt_of_lt_of_le (HL2.out g h) (by have := hz3.out.1; omega); exact h.2)
        have N6 := hide (And.intro (n6 _ m0) (And.intro (n6 _ m1) (And.intro (n6 _ m2) (n6 _ m3))))
        have hB6 : B + 3 ≤ w6.heap.size := by omega
        clear T5 B4 M5 mv hM6 n6 hb6 e0 e1 e2 SS p3 pm3 bs3 J3
        gi_wp2_with fail
        go_roundw
        case rel => exact ⟨q, l2 ++ [(⟨tb, tm, tf⟩ : Tok)], M6, hqN, rfl, by simp; omega, HPN, J6, P6, PM6, N6, BS6, hB6, ML6⟩
        case measure => simp [intOf]; omega
      · have HX := hide hJx3
        have HPX := hide (show (l2 ++ [(⟨tb, tm, tf⟩ : Tok)]) <+: parseL (bF t) t.size from ⟨_, HPN.out⟩)
        clear hJx3
        gi_wp2_with fail
        refine bodyPost_ret (results_none rfl _ _ _) rfl ?_
        exact ⟨⟨_, rfl⟩, .inr ⟨M2, _, HPX.out, HX.out⟩⟩
    · have hlt' : ¬ (p : Int) < (t.size : Int) := by omega
      have R := hide (show l2 = parseL (bF t) t.size by rw [← hpl.out, parseG_end _ _ _ _ hlt, List.append_nil])
      clear hpl
      gi_wp2_with fail
      go_end0
      exact ⟨⟨_, rfl⟩, .inl ⟨M, by rw [← R.out]; exact j1.out⟩⟩
theorem toks_seq (n Bs : Nat) (hn : 1 ≤ n) (t : ByteArray) (h4 : t.size ≤ 4000) (w : World) (hBs : w.heap[Bs]? = some (.cells #[.string t] 9)) :
    SeqM Fence.wide n Tryz.prog 80 #[.pointer (some ⟨Bs, 0, none⟩)] (fun x => #[tokV x]) (fun g => g = Bs) (fun xs => xs = parseL (bF t) t.size) (fun pre => pre <+: parseL (bF t) t.size) (fun pre x => (pre ++ [x]) <+: parseL (bF t) t.size) w :=
  fun l J Jx W hW hJ _ hY h0 => toks1_in n l Bs hn t h4 J Jx hJ hY W ((hW.block Bs (Array.getElem?_eq_some_iff.1 hBs).1 rfl).trans hBs) h0
end Go.Proofs.YtconcnndghmdfaaGreatDoor
namespace Go.Proofs.YtconcnndghmdfaaGreatDoor
open Go.RowKit
set_option maxRecDepth 100000 in
set_option maxHeartbeats 800000 in
theorem imp_endK (base g N : Nat) (Mo : Nat → Prop) (s : RC) (w : World) (hn : s.n ≤ 90000) (hbg : base ≤ g) (hcod : CodK w base g N Mo s) (hN : N ≤ w.heap.size) :
    Calls Tryz.prog 56 #[.pointer (some ⟨g, 0, none⟩)] w fun e w' => e = .returned (.string ⟨(bytesOf (s.n + 4) s.low).toArray⟩) ∧ Below base w w' ∧ FrK N g Mo w w' := by
  have HC := hide hcod
  clear hcod
  go_enter Tryz.func56, Tryz.ntmps56
  go_wp2_with fail
  go_loopw [3] (fun i wx => ∃ k : Nat, k ≤ 4 ∧ i = .int .i64 k ∧ Hid (∃ ov, wx.rowIs g 112 1603 (cdF s.size s.ch (256 ^ k * s.low % 4294967296) ov) ∧ ownB wx base ov (s.n + k) (byN (s.n + k) (256 ^ k * s.low / 4294967296)) ∧ ov.ownBlock ≠ some g ∧ ∀ j, ov.ownBlock = some j → Mo j ∨ N ≤ j) ∧ Hid (Below base w wx) ∧ Hid (FrK N g Mo w wx) ∧ N ≤ wx.heap.size) (fun i _ => 4 - (intOf i).toNat)
  case atStart => exact ⟨0, by omega, rfl, by unfold Hid; rw [Nat.pow_zero, Nat.one_mul]; exact HC.out, Below.refl _ _, FrK.refl _ _ _ _, hN⟩
  case round =>
    clear HC hN
    obtain ⟨k, hk, rfl, hcod, hbel, hfr, hNr⟩ := hrel
    obtain ⟨ov, hr, ho, hd, hmo⟩ := hcod.out
    have HMO := hide hmo
    clear hmo
    by_cases hlt : k < 4
    · have hlt' : (k : Int) < 4 := by omega
      have SS := hide (imp_shiftK base g s.size (256 ^ k * s.low) (s.n + k) s.ch ov wr (by omega) hbg hr ho hd)
      rw [show 256 * (256 ^ k * s.low) = 256 ^ (k + 1) * s.low by rw [Nat.pow_succ, Nat.mul_comm (256 ^ k) 256, Nat.mul_assoc]] at SS
      clear hcod hr ho
      go_wp2_with fail
      refine SS.out.mono ?_
      rintro e w2 ⟨rfl, C2, hb2, K2⟩
      have H2 := hide (show ∃ ov, w2.rowIs g 112 1603 (cdF s.size s.ch (256 ^ (k + 1) * s.low % 4294967296) ov) ∧ ownB w2 base ov (s.n + (k + 1)) (byN (s.n + (k + 1)) (256 ^ (k + 1) * s.low / 4294967296)) ∧ ov.ownBlock ≠ some g ∧ ∀ j, ov.ownBlock = some j → Mo j ∨ N ≤ j from by
        obtain ⟨o3, r3, p3, q3, s3⟩ := C2
        exact ⟨o3, r3, p3, q3, fun j hj => by rcases s3 j hj with h | h; exact HMO.out j h; exact .inr (by omega)⟩)
      have HB2 := hide (hbel.out.trans hb2)
      have HF2 := hide (hfr.out.trans (FrK.of_off hb2.size K2 hNr HMO.out))
      have hN2 : N ≤ w2.heap.size := by have := hb2.size; omega
      clear C2 hb2 SS hbel K2 hfr
      go_wp2_with fail
      go_roundw
      case rel => exact ⟨k + 1, by omega, by go_num, H2, HB2, HF2, hN2⟩
      case measure => simp [intOf]; omega
    · have hlt' : ¬ (k : Int) < 4 := by omega
      rw [show k = 4 by omega] at ho
      have ho' : wr.ownsRow base 5 1 ov (s.n + 4) ((bytesOf (s.n + 4) s.low).map byteV) := by
        have e : 256 ^ 4 * s.low / 4294967296 = s.low := Nat.mul_div_cancel_left _ (by decide)
        unfold ownB at ho
        rw [e] at ho
        rw [bytesOf_byN, List.map_map]; exact ho
      have c2 := (cd_cells hr).2.2.1
      obtain ⟨X, hX⟩ : ∃ X : ByteArray, X = ⟨(bytesOf (s.n + 4) s.low).toArray⟩ := ⟨_, rfl⟩
      have hcv : (convert 22 9 ov).run Tryz.prog wr = .ok (.string X) wr := by
        obtain ⟨go, cap, rfl, _, _⟩ := ownB.form (f := byN (s.n + 4) s.low) (show ownB wr base ov (s.n + 4) (byN (s.n + 4) s.low) by unfold ownB; rw [bytesOf_byN, List.map_map] at ho'; exact ho') (by omega)
        rw [hX]
        exact conv_own (P := Tryz.prog) ho' (bytesOf_len _ _) Tryz.underlying22 Tryz.underlying5 Tryz.underlying9
      have HX := hide hX
      clear hX ho ho' hr hd hcod
      go_wp2_with fail
      go_ret
      exact ⟨by rw [← HX.out]; rfl, hbel.out, hfr.out⟩
theorem imp_end (base g : Nat) (s : RC) (w : World) (hn : s.n ≤ 90000) (hbg : base ≤ g) (hcod : CodR w base g s) :
    Calls Tryz.prog 56 #[.pointer (some ⟨g, 0, none⟩)] w fun e w' => e = .returned (.string ⟨(bytesOf (s.n + 4) s.low).toArray⟩) ∧ Below base w w' := by
  obtain ⟨ov, hr, ho, hd⟩ := hcod
  exact (imp_endK base g 0 (fun _ => False) s w hn hbg ⟨ov, hr, ho, hd, fun _ _ => .inr (Nat.zero_le _)⟩ (Nat.zero_le _)).mono fun e w' ⟨h1, h2, _⟩ => ⟨h1, h2⟩
end Go.Proofs.YtconcnndghmdfaaGreatDoor
namespace Go.Proofs.YtconcnndghmdfaaGreatDoor
open Go

theorem wraps64 (n : Int) (h₀ : 0 ≤ n) (h₁ : n < 2 ^ 64) : IntKind.u64.wrap n = n := by rw [IntKind.wrap_u64]; omega
theorem u64_and127 (x : Int) (h₀ : 0 ≤ x) (h₁ : x < 18446744073709551616) : bits .and .u64 x 127 = x % 128 := bits_mask .u64 64 (by decide) wraps64 7 (by decide) x h₀ h₁
theorem u8_or_128 (x : Int) (h₀ : 0 ≤ x) (h₁ : x < 128) : bits .or .u8 x 128 = x + 128 := by
  obtain ⟨a, rfl⟩ := Int.eq_ofNat_of_zero_le h₀
  have ha : a < 128 := by omega
  rw [show (128 : Int) = ((128 : Nat) : Int) from rfl, (bits_nat .u8 8 (by decide) wraps_u8 a 128 (by omega) (by decide)).2]
  have h := Nat.two_pow_add_eq_or_of_lt (i := 7) ha 1
  rw [Nat.or_comm]
  have e : (2 : Nat) ^ 7 * 1 = 128 := by decide
  rw [e] at h
  rw [← h]; omega

theorem xor_ones (a : Nat) (ha : a < 18446744073709551616) : a ^^^ 18446744073709551615 = 18446744073709551615 - a := by
  have h1 : (BitVec.ofNat 64 a ^^^ BitVec.allOnes 64).toNat = (~~~ (BitVec.ofNat 64 a)).toNat := by rw [BitVec.xor_allOnes]
  rw [BitVec.toNat_xor, BitVec.toNat_not, BitVec.toNat_ofNat, BitVec.toNat_allOnes] at h1
  have e : a % 2 ^ 64 = a := Nat.mod_eq_of_lt (by omega)
  rw [e] at h1
  have e2 : (2 : Nat) ^ 64 - 1 = 18446744073709551615 := by decide
  rw [e2] at h1
  exact h1

/-- Twice n, its bits turned below 0. -/
theorem zig (n : Int) (h1 : -9223372036854775808 ≤ n) (h2 : n ≤ 9223372036854775807) :
    bits .xor .u64 (IntKind.u64.wrap (IntKind.u64.wrap n * 2)) (IntKind.u64.wrap (n / 9223372036854775808)) = (foldNum n : Int) := by
  simp only [IntKind.wrap_u64]
  by_cases h : n < 0
  · have e1 : (n % 18446744073709551616 * 2) % 18446744073709551616 = ((2 * n + 18446744073709551616).toNat : Int) := by omega
    have e2 : (n / 9223372036854775808) % 18446744073709551616 = ((18446744073709551615 : Nat) : Int) := by omega
    rw [e1, e2, bits_xor_u64_nat _ _ (by omega) (by omega), xor_ones _ (by omega)]
    unfold foldNum; rw [if_pos h]; omega
  · have e1 : (n % 18446744073709551616 * 2) % 18446744073709551616 = ((2 * n).toNat : Int) := by omega
    have e2 : (n / 9223372036854775808) % 18446744073709551616 = ((0 : Nat) : Int) := by omega
    rw [e1, e2, bits_xor_u64_nat _ _ (by omega) (by omega), Nat.xor_zero]
    unfold foldNum; rw [if_neg h]
end Go.Proofs.YtconcnndghmdfaaGreatDoor
namespace Go.Proofs.YtconcnndghmdfaaGreatDoor
open Go.RowKit
set_option maxRecDepth 100000 in
set_option maxHeartbeats 400000 in
theorem impl_putNum (n : Int) (w : World) (h1 : -9223372036854775808 ≤ n) (h2 : n ≤ 9223372036854775807) :
    Calls Tryz.prog 28 #[.int .i64 n] w fun e w' => e = .returned (.string ⟨(encNum (foldNum n)).toArray⟩) ∧ Below w.heap.size w w' := by
  have hm := fold_le n h1 h2
  have hz := zig n h1 h2
  obtain ⟨i0, hi, hz0, hz1, hz2⟩ := info_parts Tryz.infoU8
  go_enter Tryz.func28, Tryz.ntmps28
  go_wp2_with fail
  go_loopw [3, 4] (fun u v wr => ∃ (U : Nat) (done : List UInt8), (U : Int) ≤ 18446744073709551615 ∧ u = .int .u64 U ∧ Hid (done ++ encNum U = encNum (foldNum n)) ∧ wr.ownsRow w.heap.size 5 1 v done.length (done.map byteV) ∧ Below w.heap.size w wr) (fun u _ _ => (intOf u).toNat)
  case atStart => exact ⟨foldNum n, [], by omega, by first | rfl | rw [hz], rfl, World.ownsRow_nil _ _ _ _, Below.refl _ _⟩
  case round =>
    obtain ⟨U, done, hU, rfl, hd, hown, hb⟩ := hrel
    have hl := len_le hd.out hm
    have hs := hb.size
    have hm7 := u64_and127 U (by omega) (by omega)
    have ho7 := u8_or_128 ((U : Int) % 128) (by omega) (by omega)
    clear hm hz
    by_cases hlt : U < 128
    · go_wp2_with (at_builtin; refine wpList_append_own _ rfl _ _ 22 rfl w.heap.size 5 i0 (.int .u8 0) 1 1 Tryz.underlying22 hi hz0 hz1 hz2 rfl (by decide) _ _ _ rfl (hown.alloc _) ⟨wr.heap.size, 0, none⟩ 1 1 [.int .u8 (U : Int)] rfl rfl (one_cell _ _ _) (one_oneCell _ _) ?c3 ?c4 ?c5 ?_)
      case c3 => unfold maxLen; omega
      case c4 => omega
      case c5 => simp; omega
      intro v' w1 hown' hgrow _
      have R := last_step hlt hd.out hown hown' hgrow hb
      clear hown hown' hgrow hb
      obtain ⟨g, cap, rfl, hcv, hb'⟩ := R
      have hcv := hcv Tryz.prog 22 9 Tryz.underlying22 Tryz.underlying5 Tryz.underlying9
      go_wp2
      go_ret
      exact ⟨rfl, hb'⟩
    · go_wp2_with (at_builtin; refine wpList_append_own _ rfl _ _ 22 rfl w.heap.size 5 i0 (.int .u8 0) 1 1 Tryz.underlying22 hi hz0 hz1 hz2 rfl (by decide) _ _ _ rfl (hown.alloc _) ⟨wr.heap.size, 0, none⟩ 1 1 [.int .u8 ((U : Int) % 128 + 128)] rfl rfl (one_cell _ _ _) (one_oneCell _ _) ?d3 ?d4 ?d5 ?_)
      case d3 => unfold maxLen; omega
      case d4 => omega
      case d5 => simp; omega
      intro v' w1 hown' hgrow _
      have R := more_step hlt hd.out hown hown' hgrow hb
      clear hown hown' hgrow hb
      go_wp2
      go_roundw
      case rel => exact ⟨U / 128, _, by omega, by go_num, R.1, R.2.1, R.2.2⟩
      case measure => simp [intOf]; omega
end Go.Proofs.YtconcnndghmdfaaGreatDoor
namespace Go.Proofs.YtconcnndghmdfaaGreatDoor
open Go.RowKit Go

/-- The bytes of texts, one behind the other. -/
def catB (ss : List ByteArray) : List UInt8 := ss.flatMap (fun s => s.data.toList)

theorem catB_take (ss : List ByteArray) (k : Nat) (hk : k < ss.length) : catB (ss.take (k + 1)) = catB (ss.take k) ++ ss[k].data.toList := by
  unfold catB
  rw [List.take_succ_eq_append_getElem hk, List.flatMap_append, List.flatMap_singleton]
theorem catB_len (ss : List ByteArray) (k : Nat) (hk : k < ss.length) : (catB (ss.take (k + 1))).length = (catB (ss.take k)).length + ss[k].size := by
  rw [catB_take ss k hk]; simp
theorem catB_le (ss : List ByteArray) (k : Nat) : (catB (ss.take k)).length ≤ (catB ss).length := by
  have h : catB ss = catB (ss.take k) ++ catB (ss.drop k) := by
    unfold catB; rw [← List.flatMap_append, List.take_append_drop]
  rw [h]; simp

set_option maxRecDepth 100000 in
set_option maxHeartbeats 400000 in
theorem sizeOf_any (b : Nat) (ss : List ByteArray) (w : World) (hc : ∀ j (hj : j < ss.length), w.cell? ⟨b, j, none⟩ = some (.string ss[j])) (hn : ss.length ≤ 1000) (ht : (catB ss).length ≤ 9223372036854775807) :
    Calls Tryz.prog 72 #[.slice (some ⟨b, 0, none⟩) ss.length ss.length] w fun e w' => e = .returned (.int .i64 ((catB ss).length : Nat)) ∧ w' = w := by
  go_enter Tryz.func72, Tryz.ntmps72
  go_wp2_with fail
  go_loop [3, 8] (fun s i => ∃ k : Nat, k ≤ ss.length ∧ i = .int .i64 k ∧ s = .int .i64 ((catB (ss.take k)).length : Nat)) (fun _ i => ss.length - (intOf i).toNat)
  case atStart => exact ⟨0, by omega, rfl, rfl⟩
  case round =>
    obtain ⟨k, hk, rfl, rfl⟩ := hrel
    have hle := catB_le ss k
    by_cases hlt : k < ss.length
    · have hck := hc k hlt
      have hl := catB_len ss k hlt
      have hl2 := catB_le ss (k + 1)
      have hs : ss[k].size ≤ 9223372036854775807 := by omega
      have hs2 : (catB (ss.take k)).length + ss[k].size ≤ 9223372036854775807 := by omega
      have HL := hide hl
      clear hl hc
      generalize ss[k] = sk at *
      go_wp2_with fail
      go_round
      case rel => exact ⟨k + 1, by omega, by go_num, by rw [unhide HL]; go_num⟩
      case measure => simp [intOf]; omega
    · have hkn : k = ss.length := by omega
      have hfull : (catB (ss.take k)).length = (catB ss).length := by rw [hkn, List.take_length]
      have HF := hide hfull
      clear hfull hle hkn
      go_wp2_with fail
      go_ret
      exact ⟨by rw [HF.out]; rfl, rfl⟩
end Go.Proofs.YtconcnndghmdfaaGreatDoor
namespace Go.Proofs.YtconcnndghmdfaaGreatDoor
open Go.RowKit Go

theorem Tryz.infoJ8 : (Tryz.prog.info? 5).map (fun i => (i.zero, i.size, i.bytes)) = some (some (.int .u8 0), 1, 1) := by kernel_rfl
theorem Tryz.sizeB8 : (Tryz.prog.info? 5).map (·.size) = some 1 := by kernel_rfl

theorem made_row {w : World} {B e g n : Nat} {xs : List Value} (h : w.ownsRow B e 1 (.slice (some ⟨g, 0, none⟩) n n) n xs) : ∃ cur : List Value, Hid (w.heap[g]? = some (.cells cur.toArray e (0, 0))) ∧ cur.length = n := by
  obtain ⟨_, ⟨h1, _⟩ | ⟨g', cap, cur, h1, _, hh, _, _, hs, _⟩⟩ := h
  · cases h1
  · simp at h1
    obtain ⟨rfl, rfl⟩ := h1
    exact ⟨cur.toList, by simpa [Hid] using hh, by simpa using hs⟩

theorem splice_step {k tot : Nat} {ss : List ByteArray} {sk : ByteArray} {cur : List Value} (htk : Hid (cur.take (catB (ss.take k)).length = (catB (ss.take k)).map byteV)) (HT : Hid (catB (ss.take (k + 1)) = catB (ss.take k) ++ sk.data.toList))
    (hs : (catB (ss.take k)).length + sk.size ≤ tot) (hcur : cur.length = tot) :
    (splice cur (catB (ss.take k)).length (sk.data.toList.map byteV)).length = tot ∧ Hid ((splice cur (catB (ss.take k)).length (sk.data.toList.map byteV)).take (catB (ss.take (k + 1))).length = (catB (ss.take (k + 1))).map byteV) := by
  have hsize : sk.data.toList.length = sk.size := by simp
  constructor
  · rw [length_splice _ _ _ (by simp; omega), hcur]
  · show _ = _
    have htk' : cur.take (catB (ss.take k)).length = (catB (ss.take k)).map byteV := htk
    rw [HT.out]
    unfold splice
    rw [htk', List.map_append, ← List.append_assoc]
    exact List.take_left' (by simp)

theorem join_end {P : Program} {w : World} {g e src dst tot : Nat} {ss : List ByteArray} {cur : List Value} (ht : tot = (catB ss).length) (hrow : Hid (w.heap[g]? = some (.cells cur.toArray e (0, 0)))) (hcur : cur.length = tot)
    (htk : Hid (cur.take (catB ss).length = (catB ss).map byteV)) (hs : P.underlying src = some (.slice e)) (he : P.underlying e = some (.int .u8)) (hd : P.underlying dst = some .string) :
    (convert src dst (.slice (some ⟨g, 0, none⟩) tot tot)).run P w = .ok (.string ⟨(catB ss).toArray⟩) w := by
  subst ht
  have hc : cur = (catB ss).map byteV := by rw [← htk.out, List.take_of_length_le (by omega)]
  subst hc
  refine run_convert_bytes_back w src dst e ⟨g, 0, none⟩ (catB ss).length (catB ss) hs he hd (fun j hj => ?_)
  have e1 : (⟨g, 0, none⟩ : Addr).add j = ⟨g, j, none⟩ := by by_cases hz : j = 0 <;> simp [Addr.add, hz]
  rw [e1]
  simp [World.cell?, hrow.out, hj, byteV]

set_option maxRecDepth 100000 in
set_option maxHeartbeats 400000 in
theorem joined_any (b : Nat) (ss : List ByteArray) (w : World) (hc : ∀ j (hj : j < ss.length), w.cell? ⟨b, j, none⟩ = some (.string ss[j])) (hbw : b < w.heap.size) (hn : ss.length ≤ 1000) (ht : (catB ss).length ≤ 1099511627776) :
    Calls Tryz.prog 47 #[.slice (some ⟨b, 0, none⟩) ss.length ss.length] w fun e w' => e = .returned (.string ⟨(catB ss).toArray⟩) ∧ Below w.heap.size w w' := by
  obtain ⟨i0, hi, hz0, hz1, hz2⟩ := info_parts Tryz.infoJ8
  go_enter Tryz.func47, Tryz.ntmps47
  obtain ⟨tot, htot⟩ : ∃ n, n = (catB ss).length := ⟨_, rfl⟩
  have ht' : tot ≤ 1099511627776 := by omega
  have hso := hide (sizeOf_any b ss w hc hn (by omega))
  rw [← htot] at hso
  have HT0 := hide htot
  clear htot
  go_wp2_with fail
  refine (hso.out).mono ?_
  rintro e w0 ⟨rfl, rfl⟩
  go_wp2_with (at_make; refine wpList_make_full _ rfl _ _ 22 rfl w0.heap.size 5 i0 (.int .u8 0) 1 Tryz.underlying22 hi hz0 hz1 .i64 .i64 _ _ tot rfl rfl rfl rfl ?m1 ?m2 (Nat.le_refl _) ?_)
  case m1 => rw [hz2]; omega
  case m2 => unfold maxLen; omega
  intro w1 hown hgrow
  obtain ⟨cur0, hrow0, hcur0⟩ := made_row hown
  have hb1 : Below w0.heap.size w0 w1 := (Below.refl _ _).grown hgrow (Nat.le_refl _) (fun k hk => by cases hk)
  clear hown hgrow
  go_wp2_with fail
  go_loopw [4, 12] (fun a i wr => ∃ (k : Nat) (cur : List Value), k ≤ ss.length ∧ i = .int .i64 k ∧ a = .int .i64 ((catB (ss.take k)).length : Nat) ∧ Hid (wr.heap[w0.heap.size]? = some (.cells cur.toArray 5 (0, 0))) ∧ cur.length = tot ∧ Hid (cur.take (catB (ss.take k)).length = (catB (ss.take k)).map byteV) ∧ Below w0.heap.size w0 wr) (fun _ i _ => ss.length - (intOf i).toNat)
  case atStart => exact ⟨0, cur0, by omega, rfl, rfl, hrow0, hcur0, rfl, hb1⟩
  case round =>
    obtain ⟨k, cur, hk, rfl, rfl, hrow, hcur, htk, hb2⟩ := hrel
    have hle : (catB (ss.take k)).length ≤ tot := by rw [unhide HT0]; exact catB_le ss k
    by_cases hlt : k < ss.length
    · have hck : wr.cell? ⟨b, k, none⟩ = some (.string ss[k]) := (hb2.cell (by exact hbw)).trans (hc k hlt)
      have hl := catB_len ss k hlt
      have hl2 := catB_le ss (k + 1)
      have hs : (catB (ss.take k)).length + ss[k].size ≤ tot := by rw [unhide HT0]; omega
      have HL := hide hl
      have HT := hide (catB_take ss k hlt)
      clear hl hl2 hc ht
      generalize ss[k] = sk at *
      have R := hide (splice_step htk HT hs hcur)
      generalize hat : (catB (ss.take k)).length = at0 at *
      have HC := hide hcur
      clear hat htk hcur HT0
      rcases (show at0 < tot ∨ at0 = tot from by omega) with hlt2 | rfl
      · have hne : ¬ tot = at0 := by omega
        go_wp2_with (refine wpList_copy_str rfl _ _ 22 9 rfl 5 Tryz.underlying22 Tryz.sizeB8 _ _ _ rfl sk rfl w0.heap.size at0 cur 5 hrow.out (by omega) (fun _ => by simp) (by rw [unhide HC]; omega) w0.heap.size w0 hb2 (Nat.le_refl _) ?_)
        intro w2 hrow2 hb3
        clear hrow hb2 hck
        go_wp2_with fail
        go_roundw
        case rel => exact ⟨k + 1, _, by omega, by go_num, by rw [unhide HL]; go_num, hrow2, R.out.1, R.out.2, hb3⟩
        case measure => simp [intOf]; omega
      · have hz : sk.size = 0 := by omega
        go_wp2_with (refine wpList_copy_str rfl _ _ 22 9 rfl 5 Tryz.underlying22 Tryz.sizeB8 _ _ _ rfl sk rfl w0.heap.size at0 cur 5 hrow.out (by omega) (fun _ => by omega) (by rw [unhide HC]; omega) w0.heap.size w0 hb2 (Nat.le_refl _) ?_)
        intro w2 hrow2 hb3
        clear hrow hb2 hck
        go_wp2_with fail
        go_roundw
        case rel => exact ⟨k + 1, _, by omega, by go_num, by rw [unhide HL]; go_num, hrow2, R.out.1, R.out.2, hb3⟩
        case measure => simp [intOf]; omega
    · have hkn : k = ss.length := by omega
      have hcv := join_end (P := Tryz.prog) (unhide HT0) hrow hcur (by rw [hkn, List.take_length] at htk; exact htk) Tryz.underlying22 Tryz.underlying5 Tryz.underlying9
      clear hkn htk hcur hrow hc
      go_wp2
      go_ret
      exact ⟨rfl, hb2⟩
end Go.Proofs.YtconcnndghmdfaaGreatDoor

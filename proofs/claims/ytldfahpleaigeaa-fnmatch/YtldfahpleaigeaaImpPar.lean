/- The walk over the program's Parse. -/
import Derived.Test.YtldfahpleaigeaaMatchG
import Derived.Test.YtldfahpleaigeaaImpTokAt
namespace Go.Proofs.Ytldfahpleaigeaa
open Go Go.RowKit
theorem PlM.appended {w w' : World} {base mb e : Nat} {L : Value → List Nat} {No : Nat → Prop} {es : Array MapEntry} {clock : Nat} (h : PlM w base mb e L No es clock) {ob : Option Nat} (hob : ∀ g, ob = some g → No g) (hg : w.grownBy w' ob) (No' : Nat → Prop) (hn : ∀ g, No' g → No g ∨ w.heap.size ≤ g) (hmb : ob ≠ some mb) : PlM w' base mb e L No' es clock :=
  ((h.reno (No' := fun g => No g ∨ w.heap.size ≤ g) (fun _ hg => hg)).kept (hg.block mb h.lt (fun e => hmb e.symm)) (fun g _ h2 h3 => hg.block g h2 (fun e => h3 (.inl (hob g e.symm))))).reno (fun g hg' => .inl (hn g hg'))
theorem tokSize_at (T : Nat → UInt8) (N p : Nat) : tokSize (tokAt T N p).m = ((stepAt T N p - p : Nat) : Int) := by
  unfold tokAt stepAt
  split
  · show tokSize 0 = _
    unfold tokSize
    rw [if_pos rfl]; omega
  · show tokSize ((bestAt T N p).1 : Int) = _
    unfold tokSize
    rw [if_neg (by omega)]; omega
set_option maxRecDepth 100000 in
set_option maxHeartbeats 1600000 in
theorem imp_parse (t : ByteArray) (w : World) (hts : t.size ≤ 9223372036854775807) :
    Calls Try.prog 8 #[.string t] w fun e w' => ∃ v, e = .returned v ∧ w'.ownsRow w.heap.size 29 3 v (parS t).length (tokC (parS t)) ∧ Below w.heap.size w w' := by
  obtain ⟨i0, hi, hz0, hz1, hz2⟩ := info_parts Try.infoTok
  by_cases h : t.size ≤ 4000
  · have h' : ¬ (4000 : Int) < (t.size : Int) := by omega
    have hE := hide (show parS t = parseL (bF t) t.size from if_pos h)
    go_enter Try.func8, Try.ntmps8
    go_wp2_with fail
    refine (imp_newPast t w).mono ?_
    rintro e w0 ⟨cap, rfl, hP0, hm0, hs0, hb0⟩
    obtain ⟨B, hB⟩ : ∃ B, B = w.heap.size := ⟨_, rfl⟩
    rw [← hB] at hP0 hm0 hs0 hb0 ⊢
    have I1 := hide hb0
    have I2 := hide hP0
    have I3 := hide (show ∃ es clock, PlM w0 (B + 3) (B + 1) 3 (plc (bF t) t.size 0) (fun g => (Value.slice none 0 0).ownBlock = some g) es clock from by
      rw [plc_zero]
      exact ⟨#[], 0, (PlM.made hm0 (by omega)).reno (fun g e => by cases e)⟩)
    have I4 := hide (show B + 3 ≤ w0.heap.size by omega)
    have HB := hide hB
    clear hP0 hm0 hs0 hb0 hB
    go_wp2_with fail
    go_loopw [4, 5] (fun ov i wx => ∃ (p : Nat) (l : List Tok), p ≤ t.size ∧ i = .int .i64 p ∧ wx.ownsRow (B + 3) 29 3 ov l.length (tokC l) ∧ l.length ≤ p ∧ Hid (l ++ parseG (bF t) t.size (t.size - p) p = parseL (bF t) t.size) ∧ Hid (Below B w wx) ∧ Hid (Pst wx (B + 2) B (B + 1) t.size cap (bF t)) ∧ Hid (∃ es clock, PlM wx (B + 3) (B + 1) 3 (plc (bF t) t.size p) (fun g => ov.ownBlock = some g) es clock) ∧ Hid (B + 3 ≤ wx.heap.size)) (fun _ i _ => t.size - (intOf i).toNat)
    case atStart => exact ⟨0, [], by omega, rfl, World.ownsRow_nil _ _ _ _, Nat.le_refl _, rfl, I1, I2, I3, I4⟩
    case round =>
      clear I1 I2 I3 I4
      obtain ⟨p, l, hp, rfl, hown, hlp, hpl, J1, J2, J3, J4⟩ := hrel
      by_cases hlt : p < t.size
      · have hlt' : (p : Int) < (t.size : Int) := by omega
        have ST := hide (imp_tokenAt (B + 2) B (B + 1) t.size cap p (B + 3) (bF t) _ wr J2.out J3.out h hlt)
        obtain ⟨TK, hTK⟩ : ∃ TK, TK = tokAt (bF t) t.size p := ⟨_, rfl⟩
        rw [← hTK] at ST
        obtain ⟨tb, tm, tf⟩ := TK
        dsimp only at ST
        obtain ⟨sN, hsN⟩ : ∃ sN, sN = stepAt (bF t) t.size p - p := ⟨_, rfl⟩
        have hsz : tokSize tm = (sN : Int) := by
          have := tokSize_at (bF t) t.size p
          rw [← hTK, ← hsN] at this; exact this
        have hst1 := stepAt_gt (bF t) t.size p
        have hst2 := stepAt_le (bF t) t.size p hlt
        have hs1 : 1 ≤ sN := by omega
        have hs2 : p + sN ≤ t.size := by omega
        have HPN := hide (show (l ++ [(⟨tb, tm, tf⟩ : Tok)]) ++ parseG (bF t) t.size (t.size - (p + sN)) (p + sN) = parseL (bF t) t.size by
          rw [← hpl.out, show t.size - p = (t.size - (p + 1)) + 1 by omega, parseG_step (bF t) t.size _ p hlt, List.append_assoc, ← hTK, show p + sN = stepAt (bF t) t.size p by omega, parseG_fuel (bF t) t.size (t.size - (p + 1)) (t.size - stepAt (bF t) t.size p) (stepAt (bF t) t.size p) (by omega) (by omega)]; rfl)
        have SS := hide (show ∀ u : World, Calls Try.prog 26 #[.agg #[.int .i64 tb, .int .i64 tm, .int .i64 tf]] u (fun e w' => e = .returned (.int .i64 (sN : Int)) ∧ Below u.heap.size u w') from fun u => by
          have h := imp_size tb tm tf u
          rw [hsz] at h
          exact h)
        have HO := hide hown
        clear hTK hsN hsz hst1 hst2 hpl hown
        go_wp2_with fail
        refine (ST.out).mono ?_
        rintro e w1 ⟨rfl, hb1⟩
        have HO1 := hide (HO.out.kept (below_grownBy hb1) (Classical.em _))
        have H4 := J4.out
        have hs9 := hb1.size
        have hk9 : B + 3 ≤ w1.heap.size := by omega
        go_wp2_with (at_builtin; refine wpList_append_lies _ rfl _ _ 24 rfl (B + 3) 29 i0 (.agg #[.int .i64 0, .int .i64 0, .int .i64 0]) 3 24 Try.underlying24 hi hz0 hz1 hz2 rfl (by omega) u4 l.length (tokC l) rfl ((HO1.out.alloc _).alloc _) ⟨w1.heap.size + 1, 0, none⟩ 1 1 [.int .i64 tb, .int .i64 tm, .int .i64 tf] rfl rfl (tri_cells _ _ _ _ _ _ (by simp)) (tri_one _ _ _) (by omega) (by unfold maxLen; omega) (by omega) (by simp; omega) _ rfl ?_)
        intro g' cap' w9 hown9 hg9 hat9 hlt9
        obtain ⟨K, hK⟩ : ∃ K, K = w1.heap.size := ⟨_, rfl⟩
        have hne : ∀ g, g < B + 3 ∨ wr.heap.size ≤ g → some g ≠ u4.ownBlock := fun g hg e => by
          have := HO.out.lt g e.symm
          omega
        have a1 : Below w1.heap.size w1 ((w1.alloc (.cells #[.int .i64 tb, .int .i64 tm, .int .i64 tf] 29)).alloc (.cells #[.int .i64 tb, .int .i64 tm, .int .i64 tf] 29)) := ((Below.refl _ w1).alloc (Nat.le_refl _) _).alloc (by simp) _
        have a2 : ((w1.alloc (.cells #[.int .i64 tb, .int .i64 tm, .int .i64 tf] 29)).alloc (.cells #[.int .i64 tb, .int .i64 tm, .int .i64 tf] 29)).heap.size = w1.heap.size + 2 := by simp
        have a3 : ((w1.alloc (.cells #[.int .i64 tb, .int .i64 tm, .int .i64 tf] 29)).alloc (.cells #[.int .i64 tb, .int .i64 tm, .int .i64 tf] 29)).heap[w1.heap.size]? = some (.cells #[.int .i64 tb, .int .i64 tm, .int .i64 tf] 29) := (Below.heap_alloc _ _ _ (by simp)).trans (World.alloc_heap_new w1 _)
        generalize ((w1.alloc (.cells #[.int .i64 tb, .int .i64 tm, .int .i64 tf] 29)).alloc (.cells #[.int .i64 tb, .int .i64 tm, .int .i64 tf] 29)) = WA at *
        have q9 : w9.heap[K]? = some (.cells #[.int .i64 tb, .int .i64 tm, .int .i64 tf] 29) := (hg9.block K (by omega) (hne K (by omega))).trans (by rw [hK]; exact a3)
        have HP9 := hide (show Pst w9 (B + 2) B (B + 1) t.size cap (bF t) from ((J2.out.below hb1).below a1).of_blocks hg9.size (hg9.block (B + 2) (by omega) (hne _ (by omega))) (hg9.block B (by omega) (hne _ (by omega))))
        have HM9 := hide (show ∃ es clock, PlM w9 (B + 3) (B + 1) 3 (plc (bF t) t.size p) (fun g => g = g' ∨ g = K) es clock from by
          obtain ⟨es, clock, hh⟩ := J3.out
          refine ⟨es, clock, (((hh.below hb1).reno (No' := fun g => u4.ownBlock = some g ∨ g = K) (fun g hg => ?_)).below a1).appended (fun g e => .inl e) hg9 _ (fun g hg => ?_) (fun e => hne (B + 1) (by omega) e.symm)⟩
          · rcases hg with hg | hg
            · exact .inl hg
            · exact .inr (by omega)
          · rcases hg with hg | hg
            · rcases hat9 with h9 | h9
              · exact .inl (.inl (by rw [hg]; exact h9))
              · exact .inr (by omega)
            · exact .inl (.inr hg))
        have HB9 := hide (show Below B w w9 from ((J1.out.trans (hb1.mono (by omega))).trans (a1.mono (by omega))).grown hg9 (by omega) (fun k e => by have := HO.out.lt k e; omega))
        have R1 := hide (show w9.ownsRow (B + 3) 29 3 (.slice (some ⟨g', 0, none⟩) (l.length + 1) cap') (l ++ [(⟨tb, tm, tf⟩ : Tok)]).length (tokC (l ++ [(⟨tb, tm, tf⟩ : Tok)])) from by
          rw [tokC_snoc, List.length_append]; exact hown9)
        have hgk : g' ≠ K := fun e => by
          rcases hat9 with h9 | h9
          · exact hne K (by omega) (by rw [← e]; exact h9.symm)
          · omega
        have k0 : w9.cell? ⟨K, 0, none⟩ = some (.int .i64 tb) := by simp [World.cell?, q9]
        have k1 : w9.cell? ⟨K, 1, none⟩ = some (.int .i64 tm) := by simp [World.cell?, q9]
        have k2 : w9.cell? ⟨K, 2, none⟩ = some (.int .i64 tf) := by simp [World.cell?, q9]
        have HQ9 := hide q9
        have hK9 : K < w9.heap.size := by have := hg9.size; omega
        have hb9 : B + 3 ≤ w9.heap.size := by omega
        have hKB : B + 3 ≤ K := by omega
        have HL9 := hide hlt9
        rw [← hK]
        have HK := hide hK
        clear hown9 hg9 hat9 hlt9 a1 a2 a3 q9 hK hs9 hk9 HO1 HO ST hb1 hne H4 J1 J2 J3 J4
        go_wp2_with fail
        refine (SS.out _).mono ?_
        rintro e w10 ⟨rfl, hb10⟩
        have SG := hide (imp_goBy (B + 2) B (B + 1) t.size cap p sN (B + 3) (bF t) (fun g => g = g' ∨ g = K) w10 (HP9.out.below hb10) (by obtain ⟨es, clock, hh⟩ := HM9.out; exact ⟨es, clock, hh.below hb10⟩) h hs2 (by omega) (by omega) (by omega) (by omega) (by have := hb10.size; omega) (fun g hg => by
          have := hb10.size
          have := HL9.out
          rcases hg with hg | hg <;> omega))
        go_wp2_with fail
        refine (SG.out).mono ?_
        rintro e w11 ⟨rfl, hM11, hT11⟩
        have hs10 := hb10.size
        have hs11 := hT11.size
        have q11 : w11.heap[K]? = some (.cells #[.int .i64 tb, .int .i64 tm, .int .i64 tf] 29) := (hT11.block K (by omega) (by omega) (.inr (.inr rfl))).trans ((hb10.block K hK9).trans HQ9.out)
        have e0 : w11.cell? ⟨K, 0, none⟩ = some (.int .i64 tb) := by simp [World.cell?, q11]
        have e1 : w11.cell? ⟨K, 1, none⟩ = some (.int .i64 tm) := by simp [World.cell?, q11]
        have e2 : w11.cell? ⟨K, 2, none⟩ = some (.int .i64 tf) := by simp [World.cell?, q11]
        have M11 := hide hM11
        have T11 := hide hT11
        have B10 := hide hb10
        clear q11 hM11 hT11 hb10 k0 k1 k2 SG
        obtain ⟨q, hq⟩ : ∃ q, q = p + sN := ⟨_, rfl⟩
        have s1 : (p : Int) + (sN : Int) = (q : Int) := by omega
        have s1w : IntKind.i64.wrap ((p : Int) + (sN : Int)) = (q : Int) := by simp only [IntKind.wrap_i64]; omega
        have hq4 : (q : Int) ≤ 4000 := by omega
        have hqN : q ≤ t.size := by omega
        have hpq : p < q := by omega
        rw [← hq] at HPN M11
        clear hq
        go_wp2_with fail
        refine (SS.out _).mono ?_
        rintro e w12 ⟨rfl, hb12⟩
        have hs12 := hb12.size
        have HX := hide (show w12.ownsRow (B + 3) 29 3 (.slice (some ⟨g', 0, none⟩) (l.length + 1) cap') (l ++ [(⟨tb, tm, tf⟩ : Tok)]).length (tokC (l ++ [(⟨tb, tm, tf⟩ : Tok)])) from own_of_block R1.out (fun g hg => by
          obtain rfl : g = g' := by have e : some g' = some g := hg; cases e; rfl
          have h1 := HL9.out
          have h2 := (R1.out.lt g rfl).1
          exact (hb12.block g (by omega)).trans ((T11.out.block g (by omega) (by omega) (.inr (.inl rfl))).trans (B10.out.block g h1))))
        have R2 := hide (show Below B w w12 from (HB9.out.trans (B10.out.mono (by omega))).trans ((T11.out.below (by omega) (by omega) (by omega)).trans (hb12.mono (by omega))))
        have R3 := hide (show Pst w12 (B + 2) B (B + 1) t.size cap (bF t) from ((HP9.out.below B10.out).turn T11.out (by omega) (by omega) (by omega) (by omega)).below hb12)
        have R4 := hide (show ∃ es clock, PlM w12 (B + 3) (B + 1) 3 (plc (bF t) t.size q) (fun g => (Value.slice (some ⟨g', 0, none⟩) (l.length + 1) cap').ownBlock = some g) es clock from by
          obtain ⟨es, clock, hh⟩ := M11.out
          exact ⟨es, clock, (hh.below hb12).reno (fun g hg => .inl (.inl (by cases hg; rfl)))⟩)
        have R5 := hide (show B + 3 ≤ w12.heap.size by omega)
        clear M11 T11 B10 hb12 R1 HB9 HP9 HM9 HQ9 e0 e1 e2 hs12 hs11 hs10 SS
        go_wp2_with fail
        go_roundw
        case rel => exact ⟨q, l ++ [(⟨tb, tm, tf⟩ : Tok)], hqN, rfl, HX.out, by simp; omega, HPN, R2, R3, R4, R5⟩
        case measure => simp [intOf]; omega
      · have hlt' : ¬ (p : Int) < (t.size : Int) := by omega
        have R := hide (show parS t = l by rw [hE.out, ← hpl.out, parseG_end _ _ _ _ hlt, List.append_nil])
        have HO := hide hown
        clear hpl hown
        go_wp2_with fail
        go_ret
        rw [R.out]
        exact ⟨_, rfl, ⟨HO.out.1, HO.out.2.imp id (fun ⟨g, c, cur, h1, h2, h3⟩ => ⟨g, c, cur, h1, by have := HB.out; omega, h3⟩)⟩, by rw [← HB.out]; exact J1.out⟩
  · have h' : (4000 : Int) < (t.size : Int) := by omega
    have hE : parS t = [] := if_neg h
    rw [hE]
    clear hE
    go_enter Try.func8, Try.ntmps8
    go_wp2_with fail
    go_ret
    exact ⟨_, rfl, World.ownsRow_nil _ _ _ _, Below.refl _ _⟩
end Go.Proofs.Ytldfahpleaigeaa

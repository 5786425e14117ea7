/- Put together: DrawBo, MacTw, SealPk, SealPr, SealPc, SealPd. -/
import Derived.Test.YtconcnndghmdfaaGreatDoorSf49
namespace Go.Proofs.YtconcnndghmdfaaGreatDoor
open Go Go.RowKit
theorem sealS_size (k : ByteArray × ByteArray) (id far : Int) (t : ByteArray) : (sealS k id far t).size ≤ 17030 := by
 unfold sealS
 split
 · rename_i h
   obtain ⟨_, hi, h2, h3, h4⟩ := h
   obtain ⟨h0, h1⟩ : 0 ≤ id ∧ id ≤ 2000000 := by unfold idOk at hi; simpa using hi
   have h16 : (take16 (macT k.2 (sealT k id far t))).size = 16 := take16_size _ (by rw [macT_size]; decide)
   have hT := sealT_size k id far t h0 h1 h2 h3 h4
   unfold sealB
   rw [ByteArray.size_append, h16]
   omega
 · exact Nat.zero_le _
theorem num10 (n : Int) (h1 : -9223372036854775808 ≤ n) (h2 : n ≤ 9223372036854775807) : (⟨(encNum (foldNum n)).toArray⟩ : ByteArray).size ≤ 10 := by
 rw [size_mk]
 exact encNum_len10 _ (by have := fold_le n h1 h2; omega)
set_option maxRecDepth 100000 in
set_option maxHeartbeats 6400000 in
theorem drawBlockOpen_any (w : World) (a : Option Addr) (len cap : Nat) (hl : len ≤ 1048576) (hby : BytesIn w w.heap.size a len) :
 Calls Tryz.prog 12 #[.slice a len cap] w fun e w' => ∃ (H M : ByteArray) (id : Int) (t : ByteArray), e = .returned (.tuple #[.agg #[.string H, .string M], .int .i64 id, .string t]) ∧ t.size ≤ 100001 ∧ w.grownBy w' none := by
 have q0 := hide (heap_alloc_new w (.cells #[.string ⟨#[]⟩, .string ⟨#[]⟩] 24))
 have g0 := hide (grown_alloc (World.grownBy.refl w none) (.cells #[.string ⟨#[]⟩, .string ⟨#[]⟩] 24))
 have HB := hide (show BytesIn (w.alloc (.cells #[.string ⟨#[]⟩, .string ⟨#[]⟩] 24)) (w.alloc (.cells #[.string ⟨#[]⟩, .string ⟨#[]⟩] 24)).heap.size a len from by
  rcases hby.below ((Below.refl w.heap.size w).alloc (Nat.le_refl _) (.cells #[.string ⟨#[]⟩, .string ⟨#[]⟩] 24)) (Nat.le_refl _) with h | ⟨b, off, rfl, h2, h3⟩
  · exact .inl h
  · exact .inr ⟨b, off, rfl, by simp; omega, h3⟩)
 clear hby
 go_enter Tryz.func12, Tryz.ntmps12
 go_wp2_with fail
 refine (source_any _ a len cap hl HB.out).mono ?_
 rintro e w1 ⟨rfl, hs1, hg1⟩
 have hz : (w.alloc (.cells #[.string ⟨#[]⟩, .string ⟨#[]⟩] 24)).heap.size = w.heap.size + 1 := World.size_alloc _ _
 rw [hz] at hs1
 have q1 := hide ((hg1.block w.heap.size (by rw [hz]; omega) (by simp)).trans q0.out)
 have g1 := hide (grownBy_trans g0.out hg1)
 have S1 := hide hs1
 have z1 := hg1.size
 rw [hz] at z1
 clear hs1 hg1 q0 g0 HB hz
 go_wp2_with fail
 refine (src_keys _ _ _ a len cap S1.out (by omega)).mono ?_
 rintro e w2 ⟨H, M, rfl, hH, hM, hs2, hg2⟩
 have K := hide (show BsR w (w.heap.size + 1) a len cap w2.heap.size H M (w2.alloc (.cells #[.string H, .string M] 24)) from by
  have z2 := hg2.size
  have lt1 := S1.out.lt
  have r2 := row_grown q1.out hg2 (by omega)
  exact ⟨hs2.kept (r := none) (grown_alloc (World.grownBy.refl w2 _) _) (fun k hk => by cases hk) (by omega), grown_alloc (grownBy_new g1.out hg2 (by omega)) _,
   (((Below.refl w2.heap.size w2).alloc (Nat.le_refl _) (.cells #[.string H, .string M] 24)).block w.heap.size (by omega)).trans r2, heap_alloc_new w2 _, by omega, by omega⟩)
 clear hs2 hg2 S1 q1 g1
 go_wp2_with fail
 generalize w2.alloc (.cells #[.string H, .string M] 24) = W2 at *
 generalize w2.heap.size = k at *
 refine (src_id _ _ _ a len cap K.out.s (Nat.le_of_lt K.out.s.lt)).mono ?_
 rintro e w3 ⟨id, rfl, i0, i1, hs3, hg3⟩
 have K3 := hide (K.out.step hs3 hg3)
 clear hs3 hg3 K
 have c0 := K3.out.c0
 have c1 := K3.out.c1
 have KL := hide K3.out.drew
 go_wp2_with fail
 go_region_held3 (fun W' => W'.cell? ⟨k, 0, none⟩ = some (.string H) ∧ W'.cell? ⟨k, 1, none⟩ = some (.string M)) (first | exact ⟨KL.out.c0, KL.out.c1⟩ | go_keep) (first | (go_at_call 20; refine (src_n _ _ _ a len cap 4 (by omega) KL.out.s).mono ?_; rintro e w4 ⟨far, rfl, v0, v1, hs4, hg4⟩; have KL := hide (KL.out.step hs4 hg4); clear hs4 hg4 v0 v1) | (go_at_call 22; refine (src_text _ _ _ a len cap KL.out.s (Nat.le_of_lt KL.out.s.lt)).mono ?_; rintro e w4 ⟨t, rfl, ht, hs4, hg4⟩; have KL := hide (KL.out.step hs4 hg4); clear hs4 hg4) | (go_at_call 8; refine (spec_blockSeal H M id _ _ _ (by omega)).mono ?_; rintro e w4 ⟨rfl, hb4⟩; have KL := hide (KL.out.below hb4); clear hb4))
 have hu := sealS_size (H, M) id far t
 generalize sealS (H, M) id far t = u at *
 clear c0 c1 K3
 go_wp2_with fail
 refine (src_n _ _ _ a len cap 6 (by omega) KL.out.s).mono ?_
 rintro e w5 ⟨v, rfl, v0, v1, hs5, hg5⟩
 have K5 := hide (KL.out.step hs5 hg5)
 clear hs5 hg5
 obtain ⟨j, rfl⟩ := Int.eq_ofNat_of_zero_le v0
 have hj : j < 6 := by omega
 clear v1 v0
 rcases (show j = 0 ∨ j = 1 ∨ j = 2 ∨ j = 3 ∨ (4 ≤ j ∧ j < 6) from by omega) with rfl | rfl | rfl | rfl | h4
 · go_wp2_with fail
   refine (src_spoil _ _ _ a len cap u (by omega) K5.out.s (Nat.le_of_lt K5.out.s.lt)).mono ?_
   rintro e w6 ⟨x, rfl, hx, hs6, hg6⟩
   have K6 := hide (K5.out.step hs6 hg6)
   clear hs6 hg6 K5
   have r0 := K6.out.r0
   have r1 := K6.out.r1
   have rf := K6.out.rf
   have c0 := K6.out.c0
   have c1 := K6.out.c1
   go_wp2_with fail
   exact bodyPost_ret (results_cell_duo Tryz.results12 _ _ w.heap.size 24 #[.string H, .string M] (0, 0) _ rfl (K6.out.finR _ _) Tryz.underlying24 rfl (by kernel_rfl)) rfl ⟨H, M, id, x, rfl, by omega, K6.out.finF _ _⟩
 · go_wp2_with fail
   refine (src_n _ _ _ a len cap ((u.size : Int) + 1) (by omega) K5.out.s).mono ?_
   rintro e w6 ⟨v, rfl, v0, v1, hs6, hg6⟩
   have K6 := hide (K5.out.step hs6 hg6)
   clear hs6 hg6 K5
   obtain ⟨n, rfl⟩ := Int.eq_ofNat_of_zero_le v0
   have hn : n ≤ u.size := by omega
   have hsl : ∀ W : World, (Instr.slice 9 (.string u) none (some (.int .i64 (n : Int))) none).run Tryz.prog W = .ok (.string (u.extract 0 n)) W := fun W => run_front (P := Tryz.prog) W 9 u n Tryz.underlying9 hn
   have hx : (u.extract 0 n).size ≤ 17030 := by rw [ByteArray.size_extract]; omega
   generalize u.extract 0 n = x at *
   clear v0 v1 hn
   have r0 := K6.out.r0
   have r1 := K6.out.r1
   have rf := K6.out.rf
   have c0 := K6.out.c0
   have c1 := K6.out.c1
   go_wp2_with fail
   exact bodyPost_ret (results_cell_duo Tryz.results12 _ _ w.heap.size 24 #[.string H, .string M] (0, 0) _ rfl (K6.out.finR _ _) Tryz.underlying24 rfl (by kernel_rfl)) rfl ⟨H, M, id, x, rfl, by omega, K6.out.finF _ _⟩
 · clear KL
   have r0 := K5.out.r0
   have r1 := K5.out.r1
   have rf := K5.out.rf
   have c0 := K5.out.c0
   have c1 := K5.out.c1
   go_wp2_with fail
   exact bodyPost_ret (results_cell_duo Tryz.results12 _ _ w.heap.size 24 #[.string H, .string M] (0, 0) _ rfl (K5.out.finR _ _) Tryz.underlying24 rfl (by kernel_rfl)) rfl ⟨H, M, _, u, rfl, by omega, K5.out.finF _ _⟩
 · have SK := fun W => spec_keysRight H M W
   by_cases hk : keysOk (H, M) = true
   · rw [hk] at SK
     obtain ⟨hH16, hM32⟩ : H.size = 16 ∧ M.size = 32 := by unfold keysOk at hk; simpa using hk
     have SK := hide SK
     have c0 := K5.out.c0
     have c1 := K5.out.c1
     obtain ⟨num, hnum⟩ : ∃ f : Int → ByteArray, f = fun n => ⟨(encNum (foldNum n)).toArray⟩ := ⟨_, rfl⟩
     have SN0 : ∀ (n : Int) (W : World), -9223372036854775808 ≤ n → n ≤ 9223372036854775807 → Calls Tryz.prog 39 #[.int .i64 n] W fun e w' => e = .returned (.string (num n)) ∧ Below W.heap.size W w' := fun n W a b => by rw [hnum]; exact spec_putNum n W a b
     have hnz : ∀ n : Int, -9223372036854775808 ≤ n → n ≤ 9223372036854775807 → (num n).size ≤ 10 := fun n a b => by rw [hnum]; exact num10 n a b
     have SN := hide SN0
     clear hnum SN0 KL
     go_wp2_with fail
     refine (SK.out _).mono ?_
     rintro e w6 ⟨rfl, hb6⟩
     have K6 := hide (K5.out.below hb6)
     clear hb6 c0 c1 K5 SK
     go_wp2_with fail
     refine (SN.out _ _ i0 i1).mono ?_
     rintro e w7 ⟨rfl, hb7⟩
     have K7 := hide ((K6.out.below hb7).alloc (.cells #[.int .i64 (-1), .int .i64 0, .int .i64 257, .int .i64 3] 2))
     have q7 := hide (heap_alloc_new w7 (.cells #[.int .i64 (-1), .int .i64 0, .int .i64 257, .int .i64 3] 2))
     have gz := (K6.out.below hb7).s.lt
     clear hb7 K6
     go_wp2_with fail
     refine (src_n _ _ _ a len cap 4 (by omega) K7.out.s).mono ?_
     rintro e w8 ⟨v, rfl, x0, x1, hs8, hg8⟩
     have q8 := row_grown q7.out hg8 (by omega)
     have K8 := hide (K7.out.step hs8 hg8)
     obtain ⟨i, rfl⟩ := Int.eq_ofNat_of_zero_le x0
     have hi : i < 4 := by omega
     have hi' : (i : Int) < 4 := by omega
     obtain ⟨y, hy, y0, y1⟩ : ∃ y : Int, w8.cell? ⟨w7.heap.size, i, none⟩ = some (.int .i64 y) ∧ -9223372036854775808 ≤ y ∧ y ≤ 9223372036854775807 := by
      match i, hi with
      | 0, _ => exact ⟨-1, by simp [World.cell?, q8], by omega, by omega⟩
      | 1, _ => exact ⟨0, by simp [World.cell?, q8], by omega, by omega⟩
      | 2, _ => exact ⟨257, by simp [World.cell?, q8], by omega, by omega⟩
      | 3, _ => exact ⟨3, by simp [World.cell?, q8], by omega, by omega⟩
     clear hs8 hg8 K7 q7 q8 x1
     go_wp2_with fail
     refine (SN.out _ _ y0 y1).mono ?_
     rintro e w9 ⟨rfl, hb9⟩
     have K9 := hide (K8.out.below hb9)
     have n1 := hnz id i0 i1
     have n2 := hnz y y0 y1
     clear hb9 K8 hy SN hnz
     obtain ⟨P2, hP2⟩ : ∃ X, X = num id ++ num y := ⟨_, rfl⟩
     have hadd : ∀ W : World, (Op.stringOp .add (num id) (num y)).run Tryz.prog W = .ok (.string P2) W := fun W => by rw [hP2]; exact run_string_add_sum W (num id) (num y) (by omega)
     have hp2 : P2.size ≤ 20 := by rw [hP2, ByteArray.size_append]; omega
     generalize num id = A1 at *
     generalize num y = A2 at *
     clear hP2
     go_wp2_with fail
     refine (src_n _ _ _ a len cap 12 (by omega) K9.out.s).mono ?_
     rintro e w10 ⟨v, rfl, x2, x3, hs10, hg10⟩
     have K10 := hide (K9.out.step hs10 hg10)
     obtain ⟨m, rfl⟩ := Int.eq_ofNat_of_zero_le x2
     have hm : m < 12 := by omega
     clear hs10 hg10 K9 x3
     go_wp2_with fail
     refine (src_bytes _ _ _ a len cap m (by omega) K10.out.s).mono ?_
     rintro e w11 ⟨B, rfl, hB, hs11, hg11⟩
     have K11 := hide (K10.out.step hs11 hg11)
     clear hs11 hg11 K10
     obtain ⟨P3, hP3⟩ : ∃ X, X = P2 ++ B := ⟨_, rfl⟩
     have hadd2 : ∀ W : World, (Op.stringOp .add P2 B).run Tryz.prog W = .ok (.string P3) W := fun W => by rw [hP3]; exact run_string_add_sum W P2 B (by omega)
     have hp3 : P3.size ≤ 32 := by rw [hP3, ByteArray.size_append]; omega
     clear hP3
     have d1 := K11.out.c1
     have SM := hide (fun W => spec_Mac M P3 W (by omega) (by omega))
     have hXs : macS M P3 = macT M P3 := if_pos ⟨by omega, by omega⟩
     rw [hXs] at SM
     have HX := macT_size M P3
     have hsl : ∀ W : World, (Instr.slice 9 (.string (macT M P3)) none (some (.int .i64 16)) none).run Tryz.prog W = .ok (.string ((macT M P3).extract 0 16)) W := fun W => run_front (P := Tryz.prog) W 9 (macT M P3) 16 Tryz.underlying9 (by rw [HX]; decide)
     have hX16 : ((macT M P3).extract 0 16).size ≤ 16 := by rw [ByteArray.size_extract]; omega
     have hXn : (16 : Int) ≤ ((macT M P3).size : Int) := by rw [HX]; decide
     generalize (macT M P3).extract 0 16 = X16 at *
     generalize macT M P3 = X at *
     obtain ⟨P4, hP4⟩ : ∃ Y, Y = P3 ++ X16 := ⟨_, rfl⟩
     have hadd3 : ∀ W : World, (Op.stringOp .add P3 X16).run Tryz.prog W = .ok (.string P4) W := fun W => by rw [hP4]; exact run_string_add_sum W P3 X16 (by omega)
     have hp4 : P4.size ≤ 48 := by rw [hP4, ByteArray.size_append]; omega
     clear hP4 HX hXs
     go_wp2_with fail
     refine (SM.out _).mono ?_
     rintro e w12 ⟨rfl, hb12⟩
     have K12 := hide (K11.out.below hb12)
     clear hb12 K11 d1 SM
     have r0 := K12.out.r0
     have r1 := K12.out.r1
     have rf := K12.out.rf
     have c0 := K12.out.c0
     have c1 := K12.out.c1
     go_wp2_with fail
     exact bodyPost_ret (results_cell_duo Tryz.results12 _ _ w.heap.size 24 #[.string H, .string M] (0, 0) _ rfl (K12.out.finR _ _) Tryz.underlying24 rfl (by kernel_rfl)) rfl ⟨H, M, id, P4, rfl, by omega, K12.out.finF _ _⟩
   · have hk' : keysOk (H, M) = false := Bool.eq_false_iff.2 hk
     rw [hk'] at SK
     have SK := hide SK
     have c0 := K5.out.c0
     have c1 := K5.out.c1
     clear KL
     go_wp2_with fail
     refine (SK.out _).mono ?_
     rintro e w6 ⟨rfl, hb6⟩
     have K6 := hide (K5.out.below hb6)
     clear hb6 c0 c1 K5 SK
     have r0 := K6.out.r0
     have r1 := K6.out.r1
     have rf := K6.out.rf
     have c0 := K6.out.c0
     have c1 := K6.out.c1
     go_wp2_with fail
     exact bodyPost_ret (results_cell_duo Tryz.results12 _ _ w.heap.size 24 #[.string H, .string M] (0, 0) _ rfl (K6.out.finR _ _) Tryz.underlying24 rfl (by kernel_rfl)) rfl ⟨H, M, id, u, rfl, by omega, K6.out.finF _ _⟩
 · have e0 : ((j : Int) == 0) = false := beq_eq_false_iff_ne.2 (by omega)
   have e1 : ((j : Int) == 1) = false := beq_eq_false_iff_ne.2 (by omega)
   have e2 : ((j : Int) == 2) = false := beq_eq_false_iff_ne.2 (by omega)
   have e3 : ((j : Int) == 3) = false := beq_eq_false_iff_ne.2 (by omega)
   clear KL
   have r0 := K5.out.r0
   have r1 := K5.out.r1
   have rf := K5.out.rf
   have c0 := K5.out.c0
   have c1 := K5.out.c1
   go_wp2_with fail
   exact bodyPost_ret (results_cell_duo Tryz.results12 _ _ w.heap.size 24 #[.string H, .string M] (0, 0) _ rfl (K5.out.finR _ _) Tryz.underlying24 rfl (by kernel_rfl)) rfl ⟨H, M, id, u, rfl, by omega, K5.out.finF _ _⟩
end Go.Proofs.YtconcnndghmdfaaGreatDoor
namespace Go.Proofs.YtconcnndghmdfaaGreatDoor
open Go.RowKit Go
theorem Tab.alloc {w : World} (h : Tab w) (o : Obj) : Tab (w.alloc o) := h.below ((Below.refl w.heap.size w).alloc (Nat.le_refl _) o) h.lt
theorem Tab.low {w w' : World} (h : Tab w) (hb : Below w.heap.size w w') : Tab w' := h.below hb h.lt
theorem imp_macT (M body : ByteArray) (w : World) (hM : M.size ≤ 20000) (hb : body.size ≤ 20000) (htab : Tab w) :
 Calls Tryz.prog 73 #[.string M, .string body] w fun e w' => e = .returned (.string (macT M body)) ∧ Below w.heap.size w w' := by
 have h := impl_mac M body w htab htab.lt
 rw [show macS M body = macT M body from if_pos ⟨hM, hb⟩] at h
 exact h
set_option maxRecDepth 100000 in
set_option maxHeartbeats 800000 in
theorem imp_macOf (H M body : ByteArray) (w : World) (hM : M.size ≤ 20000) (hb : body.size ≤ 20000) (htab : Tab w) :
 Calls Tryz.prog 48 #[.agg #[.string H, .string M], .string body] w fun e w' => e = .returned (.string (take16 (macT M body))) ∧ Below w.heap.size w w' := by
 have HX := macT_size M body
 have S := hide (imp_macT M body (w.alloc (.cells #[.string H, .string M] 24)) hM hb (htab.alloc _))
 have E := hide (show take16 (macT M body) = (macT M body).extract 0 16 from rfl)
 have hsl : ∀ W : World, (Instr.slice 9 (.string (macT M body)) none (some (.int .i64 16)) none).run Tryz.prog W = .ok (.string ((macT M body).extract 0 16)) W := fun W => run_front (P := Tryz.prog) W 9 (macT M body) 16 Tryz.underlying9 (by rw [HX]; decide)
 have hX' : (16 : Int) ≤ ((macT M body).size : Int) := by rw [HX]; decide
 have q0 := hide ((Below.refl w.heap.size w).alloc (Nat.le_refl _) (.cells #[.string H, .string M] 24))
 generalize macT M body = X at *
 clear HX htab hM hb
 go_enter Tryz.func48, Tryz.ntmps48
 go_wp2_with fail
 refine S.out.mono ?_
 rintro e w1 ⟨rfl, hb1⟩
 have HB := hide (q0.out.trans (hb1.mono (by simp)))
 clear hb1 S
 go_wp2_with fail
 go_ret
 exact ⟨by rw [E.out]; first | done | rfl, HB.out⟩
theorem cat_three (a b c : ByteArray) : (⟨(catB [a, b, c]).toArray⟩ : ByteArray) = a ++ b ++ c := by
 apply ByteArray.ext; simp [catB]
set_option maxRecDepth 100000 in
set_option maxHeartbeats 800000 in
theorem imp_sealed (H M a b c : ByteArray) (B : Nat) (w : World) (hM : M.size ≤ 20000) (hs : (a ++ b ++ c).size ≤ 20000) (htab : Tab w) (hc : w.heap[B]? = some (.cells #[.string a, .string b, .string c] 9 (0, 0))) :
 Calls Tryz.prog 27 #[.agg #[.string H, .string M], .slice (some ⟨B, 0, none⟩) 3 3] w fun e w' => e = .returned (.string (a ++ b ++ c ++ take16 (macT M (a ++ b ++ c)))) ∧ Below w.heap.size w w' := by
 have hB : B < w.heap.size := (Array.getElem?_eq_some_iff.1 hc).1
 have hl : (catB [a, b, c]).length ≤ 1099511627776 := by
  have e : (⟨(catB [a, b, c]).toArray⟩ : ByteArray).size = (catB [a, b, c]).length := size_mk _
  rw [cat_three] at e
  omega
 have hw : ∀ W, Below w.heap.size w W → W.heap[B]? = some (.cells #[.string a, .string b, .string c] 9 (0, 0)) := fun W h => (h.block B hB).trans hc
 have q0 := (Below.refl w.heap.size w).alloc (Nat.le_refl _) (.cells #[.string H, .string M] 24)
 have S1 := joined_any B [a, b, c] (w.alloc (.cells #[.string H, .string M] 24)) (fun j hj => by
  have h := hw _ q0
  match j, hj with
  | 0, _ => simp [World.cell?, h]
  | 1, _ => simp [World.cell?, h]
  | 2, _ => simp [World.cell?, h]) (by simp; omega) (by simp) hl
 rw [cat_three] at S1
 generalize a ++ b ++ c = T at *
 have S1 : Calls Tryz.prog 47 #[.slice (some ⟨B, 0, none⟩) 3 3] (w.alloc (.cells #[.string H, .string M] 24)) fun e w' => e = .returned (.string T) ∧ Below (w.alloc (.cells #[.string H, .string M] 24)).heap.size (w.alloc (.cells #[.string H, .string M] 24)) w' := S1
 have S1 := hide S1
 have S2 := hide (fun W (h : Tab W) => imp_macOf H M T W hM hs h)
 have h16 : (take16 (macT M T)).size = 16 := take16_size _ (by rw [macT_size]; decide)
 have S3 := hide (fun W b hb => joined_two T (take16 (macT M T)) W b hb (by omega))
 generalize take16 (macT M T) = X at *
 have HT := hide htab
 have Q0 := hide q0
 clear hw q0 hc hl htab
 go_enter Tryz.func27, Tryz.ntmps27
 go_wp2_with fail
 refine S1.out.mono ?_
 rintro e w1 ⟨rfl, hb1⟩
 simp at hb1
 have c0 := (keys_cells hb1 (Nat.lt_succ_self _) (heap_alloc_new w _)).1
 have c1 := (keys_cells hb1 (Nat.lt_succ_self _) (heap_alloc_new w _)).2.1
 have hB1 : Below w.heap.size w w1 := Q0.out.trans (hb1.mono (Nat.le_succ _))
 have HB := hide hB1
 have HT1 := hide (HT.out.low hB1)
 clear hb1 hB1 S1
 go_wp2_with fail
 refine (S2.out _ HT1.out).mono ?_
 rintro e w2 ⟨rfl, hb2⟩
 have HB2 := hide (HB.out.trans (hb2.mono HB.out.size))
 clear hb2 S2 c0 c1
 go_wp2_with fail
 refine (S3.out w2 _ rfl).mono ?_
 rintro e w3 ⟨rfl, hb3⟩
 have HB3 := hide (HB2.out.trans (hb3.mono HB2.out.size))
 clear hb3 S3
 go_wp2_with fail
 go_ret
 exact ⟨rfl, HB3.out⟩
end Go.Proofs.YtconcnndghmdfaaGreatDoor
namespace Go.Proofs.YtconcnndghmdfaaGreatDoor
open Go.RowKit
set_option maxRecDepth 100000 in
theorem imp_keysRight (H M : ByteArray) (w : World) :
 Calls Tryz.prog 23 #[.agg #[.string H, .string M]] w fun e w' => e = .returned (.bool (keysOk (H, M))) ∧ Below w.heap.size w w' := by
 have q0 := hide ((Below.refl w.heap.size w).alloc (Nat.le_refl _) (.cells #[.string H, .string M] 24))
 have R := hide (show keysOk (H, M) = (decide (H.size = 16) && decide (M.size = 32)) from rfl)
 by_cases h1 : H.size = 16
 · have h1' : (H.size : Int) = 16 := by omega
   by_cases h2 : M.size = 32
   · have h2' : (M.size : Int) = 32 := by omega
     have R2 := hide (show keysOk (H, M) = true by rw [R.out, decide_eq_true h1, decide_eq_true h2, Bool.and_self])
     go_enter Tryz.func23, Tryz.ntmps23
     go_wp2_with fail
     go_ret
     exact ⟨by rw [R2.out]; rfl, q0.out⟩
   · have h2' : ((M.size : Int) == 32) = false := beq_eq_false_iff_ne.2 (by omega)
     have R2 := hide (show keysOk (H, M) = false by rw [R.out, decide_eq_true h1, decide_eq_false h2, Bool.true_and])
     go_enter Tryz.func23, Tryz.ntmps23
     go_wp2_with fail
     go_ret
     exact ⟨by rw [R2.out]; rfl, q0.out⟩
 · have h1' : ((H.size : Int) == 16) = false := beq_eq_false_iff_ne.2 (by omega)
   have R2 := hide (show keysOk (H, M) = false by rw [R.out, decide_eq_false h1, Bool.false_and])
   go_enter Tryz.func23, Tryz.ntmps23
   go_wp2_with fail
   go_ret
   exact ⟨by rw [R2.out]; rfl, q0.out⟩
set_option maxRecDepth 100000 in
set_option maxHeartbeats 16000000 in
theorem imp_sealGoodF (H M : ByteArray) (id far : Int) (t : ByteArray) (w : World) (htab : Tab w) (hk : keysOk (H, M) = true) (h0 : 0 ≤ id) (h1 : id ≤ 2000000) (h2 : 0 ≤ far) (h3 : far ≤ 256) (ht : t.size ≤ 4000) (hf0 : 0 < far) :
 Calls Tryz.prog 7 #[.agg #[.string H, .string M], .int .i64 id, .int .i64 far, .string t] w fun e w' => e = .returned (.string (sealB (H, M) id far t)) ∧ Below w.heap.size w w' := by
 obtain ⟨hH, hM⟩ : H.size = 16 ∧ M.size = 32 := by unfold keysOk at hk; simpa using hk
 have hi : idOk id = true := by unfold idOk; simp; omega
 have hr : farOk10 far = true := by unfold farOk10; simp; omega
 have SK := hide (fun W => by have h := imp_keysRight H M W; rw [hk] at h; exact h)
 have SI := hide (fun W => by have h := imp_idRight id W; rw [hi] at h; exact h)
 have SR := hide (fun W => by have h := imp_farRight far W; rw [hr] at h; exact h)
 clear hi hr hk
 obtain ⟨N, rfl⟩ := Int.eq_ofNat_of_zero_le h0
 obtain ⟨F, rfl⟩ := Int.eq_ofNat_of_zero_le h2
 have d4 : ¬ (4000 : Int) < (t.size : Int) := by omega
 have d5 : decide ((4000 : Int) < (t.size : Int)) = false := decide_eq_false d4
 have hsz := sealT_size (H, M) (N : Int) (F : Int) t h0 h1 h2 h3 ht
 have hp := packB_few (difB t (F : Int)) (by rw [difB_size]; exact ht)
 have hds : (difB t (F : Int)).size ≤ 4000 := by rw [difB_size]; exact ht
 have hpk : packS (difB t (F : Int)) = packB (difB t (F : Int)) := if_pos hds
 obtain ⟨num, hnum⟩ : ∃ f : Int → ByteArray, f = fun n => ⟨(encNum (foldNum n)).toArray⟩ := ⟨_, rfl⟩
 have SN0 : ∀ (n : Int) (W : World), 0 ≤ n → n ≤ 2000000 → Calls Tryz.prog 28 #[.int .i64 n] W fun e w' => e = .returned (.string (num n)) ∧ Below W.heap.size W w' := fun n W a b => by rw [hnum]; exact impl_putNum n W (by omega) (by omega)
 have SN := hide SN0
 clear SN0
 have SP0 : ∀ W : World, Calls Tryz.prog 30 #[.string (difB t (F : Int))] W fun e w' => e = .returned (.string (packB (difB t (F : Int)))) ∧ Below W.heap.size W w' := fun W => by have h := imp_pack (difB t (F : Int)) W (by omega); rw [hpk] at h; exact h
 have SP := hide SP0
 clear SP0
 have SC := hide (fun W => imp_ctrA H (packB (difB t (F : Int))) N W hH (by omega) (by omega))
 have E := hide (show sealB (H, M) (N : Int) (F : Int) t = sealT (H, M) (N : Int) (F : Int) t ++ take16 (macT M (sealT (H, M) (N : Int) (F : Int) t)) from rfl)
 have ET := hide (show sealT (H, M) (N : Int) (F : Int) t = (num (N : Int) ++ num (F : Int)) ++ ⟨(ctrL (kB (keyF H)) N (bF (packB (difB t (F : Int)))) (packB (difB t (F : Int))).size).toArray⟩ by rw [hnum]; rfl)
 have HT := hide htab
 clear hnum hpk htab
 obtain ⟨D, hD⟩ : ∃ D, D = difB t (F : Int) := ⟨_, rfl⟩
 rw [← hD] at SP SC ET
 have HD := hide hD
 generalize packB D = PD at *
 generalize (⟨(ctrL (kB (keyF H)) N (bF PD) PD.size).toArray⟩ : ByteArray) = C at *
 generalize sealB (H, M) (N : Int) (F : Int) t = Z at *
 generalize sealT (H, M) (N : Int) (F : Int) t = T at *
 have SX0 : ∀ (B : Nat) (W : World), Below w.heap.size w W → W.heap[B]? = some (.cells #[.string (num (N : Int)), .string (num (F : Int)), .string C] 9 (0, 0)) →
  Calls Tryz.prog 27 #[.agg #[.string H, .string M], .slice (some ⟨B, 0, none⟩) 3 3] W fun e w' => e = .returned (.string Z) ∧ Below W.heap.size W w' := fun B W hl hc => by
  have h := imp_sealed H M (num (N : Int)) (num (F : Int)) C B W (by omega) (by rw [← ET.out]; omega) (HT.out.low hl) hc
  rw [← ET.out, ← E.out] at h
  exact h
 have SX := hide SX0
 clear SX0
 clear ET E HT hsz hp hds hD
 have DN := hide (show ¬ (0 : Int) < (F : Int) → D = t from fun h => HD.out.trans (if_neg h))
 have hf : (0 : Int) < (F : Int) := hf0
 · have SD0 : ∀ W : World, Calls Tryz.prog 26 #[.string t, .int .i64 (F : Int)] W fun e w' => e = .returned (.string D) ∧ Below W.heap.size W w' := fun W => by
    have h := imp_differ t (F : Int) W (by omega)
    have hfo : farOk t (F : Int) := ⟨by omega, by omega, by omega⟩
    rw [show differS t (F : Int) = D from (if_pos hfo).trans (HD.out.trans (if_pos hf)).symm] at h
    exact h
   have SD := hide SD0
   clear SD0
   clear HD DN
   go_enter Tryz.func7, Tryz.ntmps7
   go_wp2_with fail
   refine (SK.out _).mono ?_
   rintro e w1 ⟨rfl, hb1⟩
   have HB := KeyW.one hb1
   have c0 := HB.c0
   have c1 := HB.c1
   clear hb1 SK
   go_wp2_with fail
   refine (SI.out _).mono ?_
   rintro e w2 ⟨rfl, hb2⟩
   have HB := HB.call hb2
   have c0 := HB.c0
   have c1 := HB.c1
   clear hb2 SI
   go_wp2_with fail
   refine (SR.out _).mono ?_
   rintro e w3 ⟨rfl, hb3⟩
   have HB := HB.call hb3
   have c0 := HB.c0
   have c1 := HB.c1
   clear hb3 SR
   go_wp2_with fail
   refine (SD.out _).mono ?_
   rintro e w4 ⟨rfl, hb4⟩
   have HB := HB.call hb4
   have c0 := HB.c0
   have c1 := HB.c1
   clear hb4 SD
   go_wp2_with fail
   go_region_held3 (fun W' => W'.cell? ⟨w.heap.size, 0, none⟩ = some (.string H) ∧ W'.cell? ⟨w.heap.size, 1, none⟩ = some (.string M)) (first | exact ⟨c0, c1⟩ | exact ⟨HB.drew.c0, HB.drew.c1⟩ | exact ⟨a0, a1⟩ | exact ⟨(HB.alloc _).c0, (HB.alloc _).c1⟩ | go_keep) (first | (go_at_call 28; refine (SN.out _ _ (by omega) (by omega)).mono ?_; rintro e w2 ⟨rfl, hb2⟩; have HB := (show KeyW w H M w2 by first | exact HB.call hb2 | exact HB.call' hb2); have c0 := HB.c0; have c1 := HB.c1; clear hb2) | (go_at_call 30; refine (SP.out _).mono ?_; rintro e w2 ⟨rfl, hb2⟩; have HB := (show KeyW w H M w2 by first | exact HB.call hb2 | exact HB.call' hb2); have c0 := HB.c0; have c1 := HB.c1; clear hb2) | (go_at_call 29; refine (SC.out _).mono ?_; rintro e w2 ⟨rfl, hb2⟩; have HB := (show KeyW w H M w2 by first | exact HB.call hb2 | exact HB.call' hb2); have c0 := HB.c0; have c1 := HB.c1; clear hb2; have HA := HB.alloc (.cells #[.string (num (N : Int)), .string (num (F : Int)), .string C] 9); have a0 := HA.c0; have a1 := HA.c1; clear HA) | (go_at_call 27; refine (SX.out _ _ (by first | exact HB.low.alloc HB.low.size _ | exact (HB.low.alloc HB.low.size _).drew | exact HB.low.drew.alloc HB.low.drew.size _) (by first | exact heap_alloc_new _ _ | simp)).mono ?_; rintro e w2 ⟨rfl, hb2⟩; have HB := (show KeyW w H M w2 by first | exact (HB.alloc _).call hb2 | exact (HB.alloc _).call' hb2); have c0 := HB.c0; have c1 := HB.c1; clear hb2))
   all_goals (
    go_wp2_with fail
    go_ret
    exact ⟨rfl, HB.low⟩)
set_option maxRecDepth 100000 in
set_option maxHeartbeats 16000000 in
theorem imp_sealGoodN (H M : ByteArray) (id far : Int) (t : ByteArray) (w : World) (htab : Tab w) (hk : keysOk (H, M) = true) (h0 : 0 ≤ id) (h1 : id ≤ 2000000) (h2 : 0 ≤ far) (h3 : far ≤ 256) (ht : t.size ≤ 4000) (hf0 : ¬ 0 < far) :
 Calls Tryz.prog 7 #[.agg #[.string H, .string M], .int .i64 id, .int .i64 far, .string t] w fun e w' => e = .returned (.string (sealB (H, M) id far t)) ∧ Below w.heap.size w w' := by
 obtain ⟨hH, hM⟩ : H.size = 16 ∧ M.size = 32 := by unfold keysOk at hk; simpa using hk
 have hi : idOk id = true := by unfold idOk; simp; omega
 have hr : farOk10 far = true := by unfold farOk10; simp; omega
 have SK := hide (fun W => by have h := imp_keysRight H M W; rw [hk] at h; exact h)
 have SI := hide (fun W => by have h := imp_idRight id W; rw [hi] at h; exact h)
 have SR := hide (fun W => by have h := imp_farRight far W; rw [hr] at h; exact h)
 clear hi hr hk
 obtain ⟨N, rfl⟩ := Int.eq_ofNat_of_zero_le h0
 obtain ⟨F, rfl⟩ := Int.eq_ofNat_of_zero_le h2
 have d4 : ¬ (4000 : Int) < (t.size : Int) := by omega
 have d5 : decide ((4000 : Int) < (t.size : Int)) = false := decide_eq_false d4
 have hsz := sealT_size (H, M) (N : Int) (F : Int) t h0 h1 h2 h3 ht
 have hp := packB_few (difB t (F : Int)) (by rw [difB_size]; exact ht)
 have hds : (difB t (F : Int)).size ≤ 4000 := by rw [difB_size]; exact ht
 have hpk : packS (difB t (F : Int)) = packB (difB t (F : Int)) := if_pos hds
 obtain ⟨num, hnum⟩ : ∃ f : Int → ByteArray, f = fun n => ⟨(encNum (foldNum n)).toArray⟩ := ⟨_, rfl⟩
 have SN0 : ∀ (n : Int) (W : World), 0 ≤ n → n ≤ 2000000 → Calls Tryz.prog 28 #[.int .i64 n] W fun e w' => e = .returned (.string (num n)) ∧ Below W.heap.size W w' := fun n W a b => by rw [hnum]; exact impl_putNum n W (by omega) (by omega)
 have SN := hide SN0
 clear SN0
 have SP0 : ∀ W : World, Calls Tryz.prog 30 #[.string (difB t (F : Int))] W fun e w' => e = .returned (.string (packB (difB t (F : Int)))) ∧ Below W.heap.size W w' := fun W => by have h := imp_pack (difB t (F : Int)) W (by omega); rw [hpk] at h; exact h
 have SP := hide SP0
 clear SP0
 have SC := hide (fun W => imp_ctrA H (packB (difB t (F : Int))) N W hH (by omega) (by omega))
 have E := hide (show sealB (H, M) (N : Int) (F : Int) t = sealT (H, M) (N : Int) (F : Int) t ++ take16 (macT M (sealT (H, M) (N : Int) (F : Int) t)) from rfl)
 have ET := hide (show sealT (H, M) (N : Int) (F : Int) t = (num (N : Int) ++ num (F : Int)) ++ ⟨(ctrL (kB (keyF H)) N (bF (packB (difB t (F : Int)))) (packB (difB t (F : Int))).size).toArray⟩ by rw [hnum]; rfl)
 have HT := hide htab
 clear hnum hpk htab
 obtain ⟨D, hD⟩ : ∃ D, D = difB t (F : Int) := ⟨_, rfl⟩
 rw [← hD] at SP SC ET
 have HD := hide hD
 generalize packB D = PD at *
 generalize (⟨(ctrL (kB (keyF H)) N (bF PD) PD.size).toArray⟩ : ByteArray) = C at *
 generalize sealB (H, M) (N : Int) (F : Int) t = Z at *
 generalize sealT (H, M) (N : Int) (F : Int) t = T at *
 have SX0 : ∀ (B : Nat) (W : World), Below w.heap.size w W → W.heap[B]? = some (.cells #[.string (num (N : Int)), .string (num (F : Int)), .string C] 9 (0, 0)) →
  Calls Tryz.prog 27 #[.agg #[.string H, .string M], .slice (some ⟨B, 0, none⟩) 3 3] W fun e w' => e = .returned (.string Z) ∧ Below W.heap.size W w' := fun B W hl hc => by
  have h := imp_sealed H M (num (N : Int)) (num (F : Int)) C B W (by omega) (by rw [← ET.out]; omega) (HT.out.low hl) hc
  rw [← ET.out, ← E.out] at h
  exact h
 have SX := hide SX0
 clear SX0
 clear ET E HT hsz hp hds hD
 have DN := hide (show ¬ (0 : Int) < (F : Int) → D = t from fun h => HD.out.trans (if_neg h))
 have hf : ¬ (0 : Int) < (F : Int) := hf0
 · have e := DN.out hf
   subst e
   clear HD DN
   go_enter Tryz.func7, Tryz.ntmps7
   go_wp2_with fail
   refine (SK.out _).mono ?_
   rintro e w1 ⟨rfl, hb1⟩
   have HB := KeyW.one hb1
   have c0 := HB.c0
   have c1 := HB.c1
   clear hb1 SK
   go_wp2_with fail
   refine (SI.out _).mono ?_
   rintro e w2 ⟨rfl, hb2⟩
   have HB := HB.call hb2
   have c0 := HB.c0
   have c1 := HB.c1
   clear hb2 SI
   go_wp2_with fail
   refine (SR.out _).mono ?_
   rintro e w3 ⟨rfl, hb3⟩
   have HB := HB.call hb3
   have c0 := HB.c0
   have c1 := HB.c1
   clear hb3 SR
   go_wp2_with fail
   go_region_held3 (fun W' => W'.cell? ⟨w.heap.size, 0, none⟩ = some (.string H) ∧ W'.cell? ⟨w.heap.size, 1, none⟩ = some (.string M)) (first | exact ⟨c0, c1⟩ | exact ⟨HB.drew.c0, HB.drew.c1⟩ | exact ⟨a0, a1⟩ | exact ⟨(HB.alloc _).c0, (HB.alloc _).c1⟩ | go_keep) (first | (go_at_call 28; refine (SN.out _ _ (by omega) (by omega)).mono ?_; rintro e w2 ⟨rfl, hb2⟩; have HB := (show KeyW w H M w2 by first | exact HB.call hb2 | exact HB.call' hb2); have c0 := HB.c0; have c1 := HB.c1; clear hb2) | (go_at_call 30; refine (SP.out _).mono ?_; rintro e w2 ⟨rfl, hb2⟩; have HB := (show KeyW w H M w2 by first | exact HB.call hb2 | exact HB.call' hb2); have c0 := HB.c0; have c1 := HB.c1; clear hb2) | (go_at_call 29; refine (SC.out _).mono ?_; rintro e w2 ⟨rfl, hb2⟩; have HB := (show KeyW w H M w2 by first | exact HB.call hb2 | exact HB.call' hb2); have c0 := HB.c0; have c1 := HB.c1; clear hb2; have HA := HB.alloc (.cells #[.string (num (N : Int)), .string (num (F : Int)), .string C] 9); have a0 := HA.c0; have a1 := HA.c1; clear HA) | (go_at_call 27; refine (SX.out _ _ (by first | exact HB.low.alloc HB.low.size _ | exact (HB.low.alloc HB.low.size _).drew | exact HB.low.drew.alloc HB.low.drew.size _) (by first | exact heap_alloc_new _ _ | simp)).mono ?_; rintro e w2 ⟨rfl, hb2⟩; have HB := (show KeyW w H M w2 by first | exact (HB.alloc _).call hb2 | exact (HB.alloc _).call' hb2); have c0 := HB.c0; have c1 := HB.c1; clear hb2))
   all_goals (
    go_wp2_with fail
    go_ret
    exact ⟨rfl, HB.low⟩)
end Go.Proofs.YtconcnndghmdfaaGreatDoor

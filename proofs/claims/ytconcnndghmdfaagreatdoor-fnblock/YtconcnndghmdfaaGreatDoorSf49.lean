/- Put together: DrawBs, KeyW, SealTx, SealB, ShaMx. -/
import Derived.Test.YtconcnndghmdfaaGreatDoorSf48
import Derived.Test.YtconcnndghmdfaaGreatDoorSf24
namespace Go.Proofs.YtconcnndghmdfaaGreatDoor
open Go Go.RowKit
structure BsR (w : World) (g : Nat) (a : Option Addr) (len cap k : Nat) (H M : ByteArray) (wx : World) : Prop where
 s : Src 60 g wx g a len cap
 f : w.grownBy wx none
 r : wx.heap[w.heap.size]? = some (.cells #[.string ⟨#[]⟩, .string ⟨#[]⟩] 24 (0, 0))
 q : wx.heap[k]? = some (.cells #[.string H, .string M] 24 (0, 0))
 gl : w.heap.size < g
 kl : g < k
namespace BsR
variable {w wx wy : World} {g : Nat} {a : Option Addr} {len cap k : Nat} {H M : ByteArray}
theorem step (h : BsR w g a len cap k H M wx) (hs : Src 60 g wy g a len cap) (hg : wx.grownBy wy (some g)) : BsR w g a len cap k H M wy :=
 ⟨hs, grownBy_new h.f hg (by have := h.gl; omega), row_grown h.r hg (by have := h.gl; omega), row_grown h.q hg (by have := h.kl; omega), h.gl, h.kl⟩
theorem below (h : BsR w g a len cap k H M wx) (hb : Below wx.heap.size wx wy) : BsR w g a len cap k H M wy :=
 ⟨h.s.kept (r := none) (grown_below hb none) (fun k hk => by cases hk) (Nat.le_of_lt h.s.lt), grownBy_trans h.f (grown_below hb _), (hb.block _ (Array.getElem?_eq_some_iff.1 h.r).1).trans h.r, (hb.block _ (Array.getElem?_eq_some_iff.1 h.q).1).trans h.q, h.gl, h.kl⟩
theorem alloc (h : BsR w g a len cap k H M wx) (o : Obj) : BsR w g a len cap k H M (wx.alloc o) := h.below ((Below.refl wx.heap.size wx).alloc (Nat.le_refl _) o)
theorem drew (h : BsR w g a len cap k H M wx) : BsR w g a len cap k H M wx.drew := h.below (Below.refl wx.heap.size wx).drew
theorem c0 (h : BsR w g a len cap k H M wx) : wx.cell? ⟨k, 0, none⟩ = some (.string H) := by simp [World.cell?, h.q]
theorem c1 (h : BsR w g a len cap k H M wx) : wx.cell? ⟨k, 1, none⟩ = some (.string M) := by simp [World.cell?, h.q]
theorem r0 (h : BsR w g a len cap k H M wx) : wx.cell? ⟨w.heap.size, 0, none⟩ = some (.string ⟨#[]⟩) := by simp [World.cell?, h.r]
theorem r1 (h : BsR w g a len cap k H M wx) : wx.cell? ⟨w.heap.size, 1, none⟩ = some (.string ⟨#[]⟩) := by simp [World.cell?, h.r]
theorem rf (h : BsR w g a len cap k H M wx) (o : Nat) : wx.frozen? ⟨w.heap.size, o, none⟩ = false := by simp [World.frozen?, h.r]
theorem finR (h : BsR w g a len cap k H M wx) (x y : Value) : ((wx.setCell ⟨w.heap.size, 0, none⟩ x).setCell ⟨w.heap.size, 1, none⟩ y).heap[w.heap.size]? = some (.cells #[x, y] 24 (0, 0)) := keys_set h.r
theorem finF (h : BsR w g a len cap k H M wx) (x y : Value) : w.grownBy ((wx.setCell ⟨w.heap.size, 0, none⟩ x).setCell ⟨w.heap.size, 1, none⟩ y) none := grown_set (grown_set h.f (Nat.le_refl _) _) (Nat.le_refl _) _
theorem qs (h : BsR w g a len cap k H M wx) (x y : Value) : ((wx.setCell ⟨w.heap.size, 0, none⟩ x).setCell ⟨w.heap.size, 1, none⟩ y).heap[k]? = some (.cells #[.string H, .string M] 24 (0, 0)) := by
 have hn : w.heap.size ≠ k := by have := h.gl; have := h.kl; omega
 simp [World.setCell, Array.getElem?_modify, hn, h.q]
theorem k0 (h : BsR w g a len cap k H M wx) (x y : Value) : ((wx.setCell ⟨w.heap.size, 0, none⟩ x).setCell ⟨w.heap.size, 1, none⟩ y).cell? ⟨k, 0, none⟩ = some (.string H) := by
 have := h.qs x y
 simp [World.cell?, this]
theorem k1 (h : BsR w g a len cap k H M wx) (x y : Value) : ((wx.setCell ⟨w.heap.size, 0, none⟩ x).setCell ⟨w.heap.size, 1, none⟩ y).cell? ⟨k, 1, none⟩ = some (.string M) := by
 have := h.qs x y
 simp [World.cell?, this]
end BsR
theorem results_cell_plain {P : Program} {fn : Func} {p x y z : Tmp} {ty : TypeId} (h : fn.results = #[.cell p ty, .tmp x, .tmp y, .tmp z]) (tmps : Array Value) (w : World) (g : Nat) (t : TypeId) (cs : Array Value) (fr : Nat × Nat) (d : TypeDesc)
 (hp : tmps.getD p undef = .pointer (some ⟨g, 0, none⟩)) (hg : w.heap[g]? = some (.cells cs t fr))
 (hu : P.underlying ty = some d) (hd : (match d with | .struct _ | .array _ _ => true | _ => false) = true) (hi : (P.info? ty).map (·.size) = some cs.size) :
 (results fn tmps).run P w = .ok (.tuple #[.agg cs, tmps.getD x undef, tmps.getD y undef, tmps.getD z undef]) w := by
 have hp' : tmps[p]?.getD undef = .pointer (some ⟨g, 0, none⟩) := by simpa using hp
 simp [results, h, hp', asAddr, run_loadVar_row w g t ty cs fr d hg hu hd hi]
theorem results_cell_duo {P : Program} {fn : Func} {p x y : Tmp} {ty : TypeId} (h : fn.results = #[.cell p ty, .tmp x, .tmp y]) (tmps : Array Value) (w : World) (g : Nat) (t : TypeId) (cs : Array Value) (fr : Nat × Nat) (d : TypeDesc)
 (hp : tmps.getD p undef = .pointer (some ⟨g, 0, none⟩)) (hg : w.heap[g]? = some (.cells cs t fr))
 (hu : P.underlying ty = some d) (hd : (match d with | .struct _ | .array _ _ => true | _ => false) = true) (hi : (P.info? ty).map (·.size) = some cs.size) :
 (results fn tmps).run P w = .ok (.tuple #[.agg cs, tmps.getD x undef, tmps.getD y undef]) w := by
 have hp' : tmps[p]?.getD undef = .pointer (some ⟨g, 0, none⟩) := by simpa using hp
 simp [results, h, hp', asAddr, run_loadVar_row w g t ty cs fr d hg hu hd hi]
set_option maxRecDepth 100000 in
set_option maxHeartbeats 3200000 in
theorem drawBlockSeal_any (w : World) (a : Option Addr) (len cap : Nat) (hl : len ≤ 1048576) (hby : BytesIn w w.heap.size a len) :
 Calls Tryz.prog 6 #[.slice a len cap] w fun e w' => ∃ (H M : ByteArray) (id far : Int) (t : ByteArray), e = .returned (.tuple #[.agg #[.string H, .string M], .int .i64 id, .int .i64 far, .string t]) ∧ H.size ≤ 16 ∧ M.size ≤ 33 ∧ -9223372036854775808 ≤ id ∧ id ≤ 9223372036854775807 ∧ t.size ≤ 4001 ∧ w.grownBy w' none := by
 have q0 := hide (heap_alloc_new w (.cells #[.string ⟨#[]⟩, .string ⟨#[]⟩] 24))
 have g0 := hide (grown_alloc (World.grownBy.refl w none) (.cells #[.string ⟨#[]⟩, .string ⟨#[]⟩] 24))
 have HB := hide (show BytesIn (w.alloc (.cells #[.string ⟨#[]⟩, .string ⟨#[]⟩] 24)) (w.alloc (.cells #[.string ⟨#[]⟩, .string ⟨#[]⟩] 24)).heap.size a len from by
  rcases hby.below ((Below.refl w.heap.size w).alloc (Nat.le_refl _) (.cells #[.string ⟨#[]⟩, .string ⟨#[]⟩] 24)) (Nat.le_refl _) with h | ⟨b, off, rfl, h2, h3⟩
  · exact .inl h
  · exact .inr ⟨b, off, rfl, by simp; omega, h3⟩)
 clear hby
 go_enter Tryz.func6, Tryz.ntmps6
 go_wp2_with fail
 refine (source_any _ a len cap hl HB.out).mono ?_
 rintro e w1 ⟨rfl, hs1, hg1⟩
 have hz : (w.alloc (.cells #[.string ⟨#[]⟩, .string ⟨#[]⟩] 24)).heap.size = w.heap.size + 1 := World.size_alloc _ _
 rw [hz] at hs1
 have q1 := hide ((hg1.block w.heap.size (by rw [hz]; omega) (by simp)).trans q0.out)
 have g1 := hide (grownBy_trans g0.out hg1)
 have S1 := hide hs1
 have z1 := hg1.size
 rw [hz] at z1
 clear hs1 hg1 q0 g0 HB hz
 go_wp2_with fail
 refine (src_keys _ _ _ a len cap S1.out (by omega)).mono ?_
 rintro e w2 ⟨H, M, rfl, hH, hM, hs2, hg2⟩
 have K := hide (show BsR w (w.heap.size + 1) a len cap w2.heap.size H M (w2.alloc (.cells #[.string H, .string M] 24)) from by
  have z2 := hg2.size
  have lt1 := S1.out.lt
  have r2 := row_grown q1.out hg2 (by omega)
  exact ⟨hs2.kept (r := none) (grown_alloc (World.grownBy.refl w2 _) _) (fun k hk => by cases hk) (by omega), grown_alloc (grownBy_new g1.out hg2 (by omega)) _,
   (((Below.refl w2.heap.size w2).alloc (Nat.le_refl _) (.cells #[.string H, .string M] 24)).block w.heap.size (by omega)).trans r2, heap_alloc_new w2 _, by omega, by omega⟩)
 clear hs2 hg2 S1 q1 g1
 go_wp2_with fail
 generalize w2.alloc (.cells #[.string H, .string M] 24) = W2 at *
 generalize w2.heap.size = k at *
 refine (src_id _ _ _ a len cap K.out.s (Nat.le_of_lt K.out.s.lt)).mono ?_
 rintro e w3 ⟨id, rfl, i0, i1, hs3, hg3⟩
 have K3 := hide (K.out.step hs3 hg3)
 clear hs3 hg3 K
 go_wp2_with fail
 refine (src_n _ _ _ a len cap 5 (by omega) K3.out.s).mono ?_
 rintro e w4 ⟨far, rfl, v0, v1, hs4, hg4⟩
 have K4 := hide (K3.out.step hs4 hg4)
 clear hs4 hg4 K3
 go_wp2_with fail
 refine (src_one _ _ _ a len cap 10 (by omega) K4.out.s).mono ?_
 rintro e w5 ⟨r, rfl, hs5, hg5⟩
 have K5 := hide (K4.out.step hs5 hg5)
 clear hs5 hg5 K4
 cases r
 · go_wp2_with fail
   have KL := hide K5.out.drew
   have r0 := KL.out.r0
   have r1 := KL.out.r1
   have rf := KL.out.rf
   have c0 := K5.out.c0
   have c1 := K5.out.c1
   go_region_held3 (fun W' => W'.cell? ⟨k, 0, none⟩ = some (.string H) ∧ W'.cell? ⟨k, 1, none⟩ = some (.string M)) (first | exact ⟨KL.out.c0, KL.out.c1⟩ | exact ⟨KL.out.k0 _ _, KL.out.k1 _ _⟩ | go_keep) (first | (go_at_call 22; refine (src_text _ _ _ a len cap KL.out.s (Nat.le_of_lt KL.out.s.lt)).mono ?_; rintro e w9 ⟨t, rfl, ht, hs9, hg9⟩; have KL := hide (KL.out.step hs9 hg9); have r0 := KL.out.r0; have r1 := KL.out.r1; have rf := KL.out.rf; clear hs9 hg9))
   all_goals (
    go_wp2_with fail
    exact bodyPost_ret (results_cell_plain Tryz.results6 _ _ w.heap.size 24 #[.string H, .string M] (0, 0) _ rfl (KL.out.finR _ _) Tryz.underlying24 rfl (by kernel_rfl)) rfl ⟨H, M, id, far, t, rfl, by omega, by omega, i0, i1, ht, KL.out.finF _ _⟩)
 · have K6 := hide (K5.out.alloc (.cells #[.int .i64 (-1), .int .i64 256, .int .i64 257] 2))
   have q6 := hide (heap_alloc_new w5 (.cells #[.int .i64 (-1), .int .i64 256, .int .i64 257] 2))
   have gz := K5.out.s.lt
   go_wp2_with fail
   refine (src_n _ _ _ a len cap 3 (by omega) K6.out.s).mono ?_
   rintro e w7 ⟨v, rfl, x0, x1, hs7, hg7⟩
   have q7 := row_grown q6.out hg7 (by omega)
   have K7 := hide (K6.out.step hs7 hg7)
   obtain ⟨j, rfl⟩ := Int.eq_ofNat_of_zero_le x0
   have hj : j < 3 := by omega
   have hj' : (j : Int) < 3 := by omega
   obtain ⟨y, hy⟩ : ∃ y : Int, w7.cell? ⟨w5.heap.size, j, none⟩ = some (.int .i64 y) := by
    match j, hj with
    | 0, _ => exact ⟨-1, by simp [World.cell?, q7]⟩
    | 1, _ => exact ⟨256, by simp [World.cell?, q7]⟩
    | 2, _ => exact ⟨257, by simp [World.cell?, q7]⟩
   clear hs7 hg7 K6 q6 q7 x1 K5
   go_wp2_with fail
   have KL := hide K7.out.drew
   have r0 := KL.out.r0
   have r1 := KL.out.r1
   have rf := KL.out.rf
   have c0 := K7.out.c0
   have c1 := K7.out.c1
   go_region_held3 (fun W' => W'.cell? ⟨k, 0, none⟩ = some (.string H) ∧ W'.cell? ⟨k, 1, none⟩ = some (.string M)) (first | exact ⟨KL.out.c0, KL.out.c1⟩ | exact ⟨KL.out.k0 _ _, KL.out.k1 _ _⟩ | go_keep) (first | (go_at_call 22; refine (src_text _ _ _ a len cap KL.out.s (Nat.le_of_lt KL.out.s.lt)).mono ?_; rintro e w9 ⟨t, rfl, ht, hs9, hg9⟩; have KL := hide (KL.out.step hs9 hg9); have r0 := KL.out.r0; have r1 := KL.out.r1; have rf := KL.out.rf; clear hs9 hg9))
   all_goals (
    go_wp2_with fail
    exact bodyPost_ret (results_cell_plain Tryz.results6 _ _ w.heap.size 24 #[.string H, .string M] (0, 0) _ rfl (KL.out.finR _ _) Tryz.underlying24 rfl (by kernel_rfl)) rfl ⟨H, M, id, y, t, rfl, by omega, by omega, i0, i1, ht, KL.out.finF _ _⟩)
end Go.Proofs.YtconcnndghmdfaaGreatDoor
namespace Go.Proofs.YtconcnndghmdfaaGreatDoor
open Go.RowKit
structure KeyW (w : World) (H M : ByteArray) (w2 : World) : Prop where
 b : Below (w.heap.size + 1) (w.alloc (.cells #[.string H, .string M] 24)) w2
theorem KeyW.size {w w2 : World} {H M : ByteArray} (h : KeyW w H M w2) : w.heap.size + 1 ≤ w2.heap.size := by have := h.b.size; simpa using this
theorem KeyW.call {w w1 w2 : World} {H M : ByteArray} (h : KeyW w H M w1) (hb : Below w1.heap.size w1 w2) : KeyW w H M w2 := ⟨h.b.trans (hb.mono h.size)⟩
theorem KeyW.call' {w w1 w2 : World} {H M : ByteArray} (h : KeyW w H M w1) (hb : Below w1.drew.heap.size w1.drew w2) : KeyW w H M w2 := ⟨h.b.drew.trans (hb.mono h.size)⟩
theorem KeyW.c0 {w w2 : World} {H M : ByteArray} (h : KeyW w H M w2) : w2.cell? ⟨w.heap.size, 0, none⟩ = some (.string H) := (keys_cells h.b (Nat.lt_succ_self _) (heap_alloc_new w _)).1
theorem KeyW.c1 {w w2 : World} {H M : ByteArray} (h : KeyW w H M w2) : w2.cell? ⟨w.heap.size, 1, none⟩ = some (.string M) := (keys_cells h.b (Nat.lt_succ_self _) (heap_alloc_new w _)).2.1
theorem KeyW.alloc {w w1 : World} {H M : ByteArray} (h : KeyW w H M w1) (o : Obj) : KeyW w H M (w1.alloc o) := ⟨h.b.alloc h.size o⟩
theorem KeyW.drew {w w1 : World} {H M : ByteArray} (h : KeyW w H M w1) : KeyW w H M w1.drew := ⟨h.b.drew⟩
theorem KeyW.low {w w2 : World} {H M : ByteArray} (h : KeyW w H M w2) : Below w.heap.size w w2 := ((Below.refl _ _).alloc (Nat.le_refl _) _).trans (h.b.mono (Nat.le_succ _))
theorem KeyW.one {w w1 : World} {H M : ByteArray} (h : Below (w.alloc (.cells #[.string H, .string M] 24)).heap.size (w.alloc (.cells #[.string H, .string M] 24)) w1) : KeyW w H M w1 := ⟨by simpa using h⟩
set_option maxRecDepth 100000 in
set_option maxHeartbeats 8000000 in
theorem spec_seal0 (H M : ByteArray) (id far : Int) (t : ByteArray) (w : World) (hk : keysOk (H, M) = true) (h0 : 0 ≤ id) (h1 : id ≤ 2000000) (h2 : 0 ≤ far) (h3 : far ≤ 256) (ht : t.size ≤ 4000) :
 Calls Tryz.prog 33 #[.agg #[.string H, .string M], .int .i64 id, .int .i64 far, .string t] w fun e w' => e = .returned (.string (sealB (H, M) id far t)) ∧ Below w.heap.size w w' := by
 obtain ⟨hH, hM⟩ : H.size = 16 ∧ M.size = 32 := by unfold keysOk at hk; simpa using hk
 obtain ⟨N, rfl⟩ := Int.eq_ofNat_of_zero_le h0
 obtain ⟨F, rfl⟩ := Int.eq_ofNat_of_zero_le h2
 have hsz := sealT_size (H, M) (N : Int) (F : Int) t h0 h1 h2 h3 ht
 have hp := packB_few (difB t (F : Int)) (by rw [difB_size]; exact ht)
 have hds : (difB t (F : Int)).size ≤ 4000 := by rw [difB_size]; exact ht
 obtain ⟨num, hnum⟩ : ∃ f : Int → ByteArray, f = fun n => ⟨(encNum (foldNum n)).toArray⟩ := ⟨_, rfl⟩
 have S1 : ∀ (n : Int) (W : World), 0 ≤ n → n ≤ 2000000 → Calls Tryz.prog 39 #[.int .i64 n] W fun e w' => e = .returned (.string (num n)) ∧ Below W.heap.size W w' := fun n W a b => by rw [hnum]; exact spec_putNum n W (by omega) (by omega)
 have S1 := hide S1
 have S3 := hide (fun W => spec_pack0 (difB t (F : Int)) W hds)
 have S4 := hide (fun W => spec_ctrA H (packB (difB t (F : Int))) N W hH (by omega) (by omega))
 have S5 := hide (fun W => spec_mac M (sealT (H, M) (N : Int) (F : Int) t) W (by omega) (by omega))
 have hn1 : (num (N : Int)).size ≤ 4 := by rw [hnum]; exact numB_size _ h0 h1
 have hn2 : (num (F : Int)).size ≤ 4 := by rw [hnum]; exact numB_size _ h2 (by omega)
 have hC : (⟨(ctrL (kB (keyF H)) N (bF (packB (difB t (F : Int)))) (packB (difB t (F : Int))).size).toArray⟩ : ByteArray).size ≤ 17006 := Nat.le_trans (Nat.le_of_eq (hidB_size H N (packB (difB t (F : Int))))) hp
 have HX := macT_size M (sealT (H, M) (N : Int) (F : Int) t)
 have E := hide (show sealB (H, M) (N : Int) (F : Int) t = sealT (H, M) (N : Int) (F : Int) t ++ (macT M (sealT (H, M) (N : Int) (F : Int) t)).extract 0 16 from rfl)
 have ET := hide (show sealT (H, M) (N : Int) (F : Int) t = (num (N : Int) ++ num (F : Int)) ++ ⟨(ctrL (kB (keyF H)) N (bF (packB (difB t (F : Int)))) (packB (difB t (F : Int))).size).toArray⟩ by rw [hnum]; rfl)
 clear hnum
 have hsl : ∀ W : World, (Instr.slice 9 (.string (macT M (sealT (H, M) (N : Int) (F : Int) t))) none (some (.int .i64 16)) none).run Tryz.prog W = .ok (.string ((macT M (sealT (H, M) (N : Int) (F : Int) t)).extract 0 16)) W := fun W => run_front (P := Tryz.prog) W 9 (macT M (sealT (H, M) (N : Int) (F : Int) t)) 16 Tryz.underlying9 (by rw [HX]; decide)
 have hX' : (16 : Int) ≤ ((macT M (sealT (H, M) (N : Int) (F : Int) t)).size : Int) := by rw [HX]; decide
 obtain ⟨D, hD⟩ : ∃ D, D = difB t (F : Int) := ⟨_, rfl⟩
 rw [← hD] at S3 S4 ET hC
 have HD := hide hD
 generalize packB D = PD at *
 generalize (⟨(ctrL (kB (keyF H)) N (bF PD) PD.size).toArray⟩ : ByteArray) = C at *
 generalize sealB (H, M) (N : Int) (F : Int) t = Z at *
 generalize sealT (H, M) (N : Int) (F : Int) t = T at *
 obtain ⟨X, hXe⟩ : ∃ X, X = macT M T := ⟨_, rfl⟩
 rw [← hXe] at S5 E hsl hX'
 have hX16 : (X.extract 0 16).size ≤ 16 := by rw [ByteArray.size_extract]; omega
 clear hXe HX hD
 have ET := ET.out
 subst ET
 have hq1 : ¬ 9223372036854775807 < (num (N : Int)).size + (num (F : Int)).size := by omega
 have hq2 : ¬ 9223372036854775807 < (num (N : Int)).size + (num (F : Int)).size + C.size := by omega
 have DB := hide (show (0 : Int) < (F : Int) → D = ⟨((List.range t.size).map (difF (bF t) F)).toArray⟩ from fun h => HD.out.trans (if_pos h))
 have DN := hide (show ¬ (0 : Int) < (F : Int) → D = t from fun h => HD.out.trans (if_neg h))
 clear HD hsz hp hds
 have q0 := Below.refl w.heap.size w
 by_cases hf : (0 : Int) < (F : Int)
 · have SD := hide (fun W => spec_differA t F W (by omega) (by omega) (by omega))
   rw [← DB.out hf] at SD
   go_enter Tryz.func33, Tryz.ntmps33
   go_wp2_with fail
   refine (SD.out _).mono ?_
   rintro e w1 ⟨rfl, hb1⟩
   simp at hb1
   have HB : KeyW w H M w1 := ⟨hb1⟩
   have c0 := HB.c0
   have c1 := HB.c1
   clear SD hb1
   go_wp2_with fail
   go_region_held3 (fun W' => W'.cell? ⟨w.heap.size, 0, none⟩ = some (.string H) ∧ W'.cell? ⟨w.heap.size, 1, none⟩ = some (.string M)) (first | exact ⟨c0, c1⟩ | exact ⟨HB.drew.c0, HB.drew.c1⟩ | exact ⟨(HB.alloc _).c0, (HB.alloc _).c1⟩ | go_keep) (first | (go_at_call 39; refine (S1.out _ _ (by omega) (by omega)).mono ?_; rintro e w2 ⟨rfl, hb2⟩; have HB := (show KeyW w H M w2 by first | exact HB.call hb2 | exact HB.call' hb2); have c0 := HB.c0; have c1 := HB.c1; clear hb2) | (go_at_call 59; refine (S3.out _).mono ?_; rintro e w2 ⟨rfl, hb2⟩; have HB := (show KeyW w H M w2 by first | exact HB.call hb2 | exact HB.call' hb2); have c0 := HB.c0; have c1 := HB.c1; clear hb2) | (go_at_call 58; refine (S4.out _).mono ?_; rintro e w2 ⟨rfl, hb2⟩; have HB := (show KeyW w H M w2 by first | exact HB.call hb2 | exact HB.call' hb2); have c0 := HB.c0; have c1 := HB.c1; clear hb2))
   all_goals (
    go_wp2_with fail
    refine (S5.out _).mono ?_; rintro e w2 ⟨rfl, hb2⟩; have HB := (show KeyW w H M w2 by first | exact HB.call hb2 | exact HB.call' hb2); have c0 := HB.c0; have c1 := HB.c1; clear hb2
    go_wp2_with fail
    go_ret
    exact ⟨by rw [E.out]; first | done | rfl, ((Below.refl _ _).alloc (Nat.le_refl _) _).trans (HB.b.mono (Nat.le_succ _))⟩)
 · have e := DN.out hf
   subst e
   go_enter Tryz.func33, Tryz.ntmps33
   go_wp2_with fail
   have HB : KeyW w H M (w.alloc (.cells #[.string H, .string M] 24)) := ⟨Below.refl _ _⟩
   have c0 := HB.c0
   have c1 := HB.c1
   go_region_held3 (fun W' => W'.cell? ⟨w.heap.size, 0, none⟩ = some (.string H) ∧ W'.cell? ⟨w.heap.size, 1, none⟩ = some (.string M)) (first | exact ⟨c0, c1⟩ | exact ⟨HB.drew.c0, HB.drew.c1⟩ | exact ⟨(HB.alloc _).c0, (HB.alloc _).c1⟩ | go_keep) (first | (go_at_call 39; refine (S1.out _ _ (by omega) (by omega)).mono ?_; rintro e w2 ⟨rfl, hb2⟩; have HB := (show KeyW w H M w2 by first | exact HB.call hb2 | exact HB.call' hb2); have c0 := HB.c0; have c1 := HB.c1; clear hb2) | (go_at_call 59; refine (S3.out _).mono ?_; rintro e w2 ⟨rfl, hb2⟩; have HB := (show KeyW w H M w2 by first | exact HB.call hb2 | exact HB.call' hb2); have c0 := HB.c0; have c1 := HB.c1; clear hb2) | (go_at_call 58; refine (S4.out _).mono ?_; rintro e w2 ⟨rfl, hb2⟩; have HB := (show KeyW w H M w2 by first | exact HB.call hb2 | exact HB.call' hb2); have c0 := HB.c0; have c1 := HB.c1; clear hb2))
   all_goals (
    go_wp2_with fail
    refine (S5.out _).mono ?_; rintro e w2 ⟨rfl, hb2⟩; have HB := (show KeyW w H M w2 by first | exact HB.call hb2 | exact HB.call' hb2); have c0 := HB.c0; have c1 := HB.c1; clear hb2
    go_wp2_with fail
    go_ret
    exact ⟨by rw [E.out]; first | done | rfl, ((Below.refl _ _).alloc (Nat.le_refl _) _).trans (HB.b.mono (Nat.le_succ _))⟩)
set_option maxRecDepth 100000 in
set_option maxHeartbeats 3200000 in
theorem spec_blockSeal (H M : ByteArray) (id far : Int) (t : ByteArray) (w : World) (ht : t.size ≤ 9223372036854775807) :
 Calls Tryz.prog 8 #[.agg #[.string H, .string M], .int .i64 id, .int .i64 far, .string t] w fun e w' => e = .returned (.string (sealS (H, M) id far t)) ∧ Below w.heap.size w w' := by
 by_cases hk : keysOk (H, M) = true
 · have SK := hide (fun W => by have h := spec_keysRight H M W; rw [hk] at h; exact h)
   by_cases hi : idOk id = true
   · have SI := hide (fun W => by have h := spec_id10 id W; rw [hi] at h; exact h)
     obtain ⟨h0, h1⟩ : 0 ≤ id ∧ id ≤ 2000000 := by unfold idOk at hi; simpa using hi
     by_cases h2 : 0 ≤ far
     · have d2 : decide (far < 0) = false := decide_eq_false (by omega)
       by_cases h3 : far ≤ 256
       · have d3 : decide (256 < far) = false := decide_eq_false (by omega)
         by_cases h4 : t.size ≤ 4000
         · have d4 : ¬ (4000 : Int) < (t.size : Int) := by omega
           have d5 : decide ((4000 : Int) < (t.size : Int)) = false := decide_eq_false d4
           have E := hide (show sealS (H, M) id far t = sealB (H, M) id far t from if_pos ⟨hk, hi, h2, h3, h4⟩)
           have SS := hide (fun W => spec_seal0 H M id far t W hk h0 h1 h2 h3 h4)
           clear hk hi
           generalize sealB (H, M) id far t = Z at *
           go_enter Tryz.func8, Tryz.ntmps8
           go_wp2_with fail
           refine (SK.out _).mono ?_
           rintro e w1 ⟨rfl, hb1⟩
           have HB := KeyW.one hb1
           have c0 := HB.c0
           have c1 := HB.c1
           clear hb1 SK
           go_wp2_with fail
           refine (SI.out _).mono ?_
           rintro e w2 ⟨rfl, hb2⟩
           have HB := HB.call hb2
           have c0 := HB.c0
           have c1 := HB.c1
           clear hb2 SI
           go_wp2_with fail
           refine (SS.out _).mono ?_
           rintro e w3 ⟨rfl, hb3⟩
           have HB := HB.call hb3
           have c0 := HB.c0
           have c1 := HB.c1
           clear hb3 SS
           go_wp2_with fail
           go_ret
           exact ⟨by rw [E.out]; first | done | rfl, HB.low⟩
         · have d4 : (4000 : Int) < (t.size : Int) := by omega
           have d5 : decide ((4000 : Int) < (t.size : Int)) = true := decide_eq_true d4
           have E := hide (show sealS (H, M) id far t = ⟨#[]⟩ from if_neg (fun h => h4 h.2.2.2.2))
           clear hk hi
           go_enter Tryz.func8, Tryz.ntmps8
           go_wp2_with fail
           refine (SK.out _).mono ?_
           rintro e w1 ⟨rfl, hb1⟩
           have HB := KeyW.one hb1
           have c0 := HB.c0
           have c1 := HB.c1
           clear hb1 SK
           go_wp2_with fail
           refine (SI.out _).mono ?_
           rintro e w2 ⟨rfl, hb2⟩
           have HB := HB.call hb2
           have c0 := HB.c0
           have c1 := HB.c1
           clear hb2 SI
           go_wp2_with fail
           go_ret
           exact ⟨by rw [E.out]; first | done | rfl, HB.low⟩
       · have d3 : decide (256 < far) = true := decide_eq_true (by omega)
         have d4 : 256 < far := by omega
         have E := hide (show sealS (H, M) id far t = ⟨#[]⟩ from if_neg (fun h => h3 h.2.2.2.1))
         clear hk hi
         go_enter Tryz.func8, Tryz.ntmps8
         go_wp2_with fail
         refine (SK.out _).mono ?_
         rintro e w1 ⟨rfl, hb1⟩
         have HB := KeyW.one hb1
         have c0 := HB.c0
         have c1 := HB.c1
         clear hb1 SK
         go_wp2_with fail
         refine (SI.out _).mono ?_
         rintro e w2 ⟨rfl, hb2⟩
         have HB := HB.call hb2
         have c0 := HB.c0
         have c1 := HB.c1
         clear hb2 SI
         go_wp2_with fail
         go_ret
         exact ⟨by rw [E.out]; first | done | rfl, HB.low⟩
     · have d2 : decide (far < 0) = true := decide_eq_true (by omega)
       have d4 : far < 0 := by omega
       have E := hide (show sealS (H, M) id far t = ⟨#[]⟩ from if_neg (fun h => h2 h.2.2.1))
       clear hk hi
       go_enter Tryz.func8, Tryz.ntmps8
       go_wp2_with fail
       refine (SK.out _).mono ?_
       rintro e w1 ⟨rfl, hb1⟩
       have HB := KeyW.one hb1
       have c0 := HB.c0
       have c1 := HB.c1
       clear hb1 SK
       go_wp2_with fail
       refine (SI.out _).mono ?_
       rintro e w2 ⟨rfl, hb2⟩
       have HB := HB.call hb2
       have c0 := HB.c0
       have c1 := HB.c1
       clear hb2 SI
       go_wp2_with fail
       go_ret
       exact ⟨by rw [E.out]; first | done | rfl, HB.low⟩
   · have hi' : idOk id = false := Bool.eq_false_iff.2 hi
     have SI := hide (fun W => by have h := spec_id10 id W; rw [hi'] at h; exact h)
     have E := hide (show sealS (H, M) id far t = ⟨#[]⟩ from if_neg (fun h => hi h.2.1))
     clear hk hi hi'
     go_enter Tryz.func8, Tryz.ntmps8
     go_wp2_with fail
     refine (SK.out _).mono ?_
     rintro e w1 ⟨rfl, hb1⟩
     have HB := KeyW.one hb1
     have c0 := HB.c0
     have c1 := HB.c1
     clear hb1 SK
     go_wp2_with fail
     refine (SI.out _).mono ?_
     rintro e w2 ⟨rfl, hb2⟩
     have HB := HB.call hb2
     have c0 := HB.c0
     have c1 := HB.c1
     clear hb2 SI
     go_wp2_with fail
     go_ret
     exact ⟨by rw [E.out]; first | done | rfl, HB.low⟩
 · have hk' : keysOk (H, M) = false := Bool.eq_false_iff.2 hk
   have SK := hide (fun W => by have h := spec_keysRight H M W; rw [hk'] at h; exact h)
   have E := hide (show sealS (H, M) id far t = ⟨#[]⟩ from if_neg (fun h => hk h.1))
   clear hk hk'
   go_enter Tryz.func8, Tryz.ntmps8
   go_wp2_with fail
   refine (SK.out _).mono ?_
   rintro e w1 ⟨rfl, hb1⟩
   have HB := KeyW.one hb1
   have c0 := HB.c0
   have c1 := HB.c1
   clear hb1 SK
   go_wp2_with fail
   go_ret
   exact ⟨by rw [E.out]; first | done | rfl, HB.low⟩
set_option maxRecDepth 100000 in
set_option maxHeartbeats 1600000 in
theorem spec_Mac (key text : ByteArray) (w : World) (_hk : key.size ≤ 9223372036854775807) (_ht : text.size ≤ 9223372036854775807) :
 Calls Tryz.prog 10 #[.string key, .string text] w fun e w' => e = .returned (.string (macS key text)) ∧ Below w.heap.size w w' := by
 by_cases h : key.size ≤ 20000
 · by_cases h2 : text.size ≤ 20000
   · have hE : macS key text = macT key text := if_pos ⟨h, h2⟩
     rw [hE]
     have h' : ¬ (20000 : Int) < key.size := by omega
     have h2' : ¬ (20000 : Int) < text.size := by omega
     go_enter Tryz.func10, Tryz.ntmps10
     go_wp2_with fail
     refine (spec_mac key text _ h h2).mono ?_
     rintro e w1 ⟨rfl, hb1⟩
     go_wp2_with fail
     go_ret
     exact ⟨rfl, hb1⟩
   · have hE : macS key text = ⟨#[]⟩ := if_neg (by omega)
     rw [hE]
     have h' : ¬ (20000 : Int) < key.size := by omega
     have h2' : (20000 : Int) < text.size := by omega
     go_enter Tryz.func10, Tryz.ntmps10
     go_wp2_with fail
     go_ret
     exact ⟨rfl, Below.refl _ _⟩
 · have hE : macS key text = ⟨#[]⟩ := if_neg (by omega)
   rw [hE]
   have h' : (20000 : Int) < key.size := by omega
   go_enter Tryz.func10, Tryz.ntmps10
   go_wp2_with fail
   go_ret
   exact ⟨rfl, Below.refl _ _⟩
end Go.Proofs.YtconcnndghmdfaaGreatDoor

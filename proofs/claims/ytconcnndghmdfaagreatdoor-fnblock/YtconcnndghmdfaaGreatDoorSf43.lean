/- Put together: DrawKy, DrawBs, KeyW, SealTx. -/
import Derived.Test.YtconcnndghmdfaaGreatDoorSf42
namespace Go.Proofs.YtconcnndghmdfaaGreatDoor
open Go Go.RowKit
theorem row_grown {w w' : World} {g r : Nat} {x : Obj} (h : w.heap[r]? = some x) (hg : w.grownBy w' (some g)) (hn : r ≠ g) : w'.heap[r]? = some x :=
 (hg.block r (Array.getElem?_eq_some_iff.1 h).1 (by simp; omega)).trans h
theorem grown_set {w w1 : World} {r : Option Nat} {z i : Nat} (h1 : w.grownBy w1 r) (hz : w.heap.size ≤ z) (v : Value) : w.grownBy (w1.setCell ⟨z, i, none⟩ v) r :=
 ⟨h1.os, h1.tape, h1.output, by have := h1.size; simpa [World.setCell] using this, fun k hk hr => by
  rw [Below.heap_setCell _ _ _ _ (by show k ≠ z; omega)]; exact h1.block k hk hr⟩
theorem grown_alloc {w w1 : World} {r : Option Nat} (h1 : w.grownBy w1 r) (o : Obj) : w.grownBy (w1.alloc o) r :=
 ⟨h1.os, h1.tape, h1.output, by have := h1.size; simp; omega, fun k hk hr => (((Below.refl w1.heap.size w1).alloc (Nat.le_refl _) o).block k (Nat.lt_of_lt_of_le hk h1.size)).trans (h1.block k hk hr)⟩
theorem grown_below {w w1 : World} (hb : Below w.heap.size w w1) (r : Option Nat) : w.grownBy w1 r := ⟨hb.os, hb.tape, hb.output, hb.size, fun k hk _ => hb.block k hk⟩
structure KyR (w : World) (B g : Nat) (a : Option Addr) (len cap k : Nat) (H M : ByteArray) (wx : World) : Prop where
 s : Src 60 B wx g a len cap
 f : w.grownBy wx (some g)
 r : wx.heap[w.heap.size]? = some (.cells #[.string ⟨#[]⟩, .string ⟨#[]⟩] 24 (0, 0))
 q : wx.heap[k]? = some (.cells #[.string H, .string M] 24 (0, 0))
 gl : g < w.heap.size
 kl : w.heap.size < k
 bl : B ≤ w.heap.size
namespace KyR
variable {w wx wy : World} {B g : Nat} {a : Option Addr} {len cap k : Nat} {H M : ByteArray}
theorem step (h : KyR w B g a len cap k H M wx) (hs : Src 60 B wy g a len cap) (hg : wx.grownBy wy (some g)) : KyR w B g a len cap k H M wy :=
 ⟨hs, grownBy_trans h.f hg, row_grown h.r hg (by have := h.gl; omega), row_grown h.q hg (by have := h.gl; have := h.kl; omega), h.gl, h.kl, h.bl⟩
theorem srcSet (h : KyR w B g a len cap k H M wx) (i : Nat) (v : Value) : Src 60 B (wx.setCell ⟨k, i, none⟩ v) g a len cap :=
 h.s.kept (grownBy_set (World.grownBy.refl wx (some k)) v) (fun j hj => by cases hj; have := h.gl; have := h.kl; have := h.bl; omega) (by have := h.bl; have := h.f.size; omega)
theorem setH (h : KyR w B g a len cap k H M wx) (X : ByteArray) : KyR w B g a len cap k X M (wx.setCell ⟨k, 0, none⟩ (.string X)) :=
 ⟨h.srcSet _ _, grown_set h.f (Nat.le_of_lt h.kl) _, (Below.heap_setCell _ _ _ _ (by have := h.kl; show w.heap.size ≠ k; omega)).trans h.r, by simp [World.setCell, Array.getElem?_modify, h.q], h.gl, h.kl, h.bl⟩
theorem setM (h : KyR w B g a len cap k H M wx) (X : ByteArray) : KyR w B g a len cap k H X (wx.setCell ⟨k, 1, none⟩ (.string X)) :=
 ⟨h.srcSet _ _, grown_set h.f (Nat.le_of_lt h.kl) _, (Below.heap_setCell _ _ _ _ (by have := h.kl; show w.heap.size ≠ k; omega)).trans h.r, by simp [World.setCell, Array.getElem?_modify, h.q], h.gl, h.kl, h.bl⟩
theorem c0 (h : KyR w B g a len cap k H M wx) : wx.cell? ⟨k, 0, none⟩ = some (.string H) := by simp [World.cell?, h.q]
theorem c1 (h : KyR w B g a len cap k H M wx) : wx.cell? ⟨k, 1, none⟩ = some (.string M) := by simp [World.cell?, h.q]
theorem fz (h : KyR w B g a len cap k H M wx) (o : Nat) : wx.frozen? ⟨k, o, none⟩ = false := by simp [World.frozen?, h.q]
theorem r0 (h : KyR w B g a len cap k H M wx) : wx.cell? ⟨w.heap.size, 0, none⟩ = some (.string ⟨#[]⟩) := by simp [World.cell?, h.r]
theorem r1 (h : KyR w B g a len cap k H M wx) : wx.cell? ⟨w.heap.size, 1, none⟩ = some (.string ⟨#[]⟩) := by simp [World.cell?, h.r]
theorem rf (h : KyR w B g a len cap k H M wx) (o : Nat) : wx.frozen? ⟨w.heap.size, o, none⟩ = false := by simp [World.frozen?, h.r]
theorem finR (h : KyR w B g a len cap k H M wx) (x y : Value) : ((wx.setCell ⟨w.heap.size, 0, none⟩ x).setCell ⟨w.heap.size, 1, none⟩ y).heap[w.heap.size]? = some (.cells #[x, y] 24 (0, 0)) := keys_set h.r
theorem finF (h : KyR w B g a len cap k H M wx) (x y : Value) : w.grownBy ((wx.setCell ⟨w.heap.size, 0, none⟩ x).setCell ⟨w.heap.size, 1, none⟩ y) (some g) := grown_set (grown_set h.f (Nat.le_refl _) _) (Nat.le_refl _) _
theorem finS (h : KyR w B g a len cap k H M wx) (x y : Value) : Src 60 B ((wx.setCell ⟨w.heap.size, 0, none⟩ x).setCell ⟨w.heap.size, 1, none⟩ y) g a len cap :=
 h.s.kept (grownBy_set (grownBy_set (World.grownBy.refl wx (some w.heap.size)) x) y) (fun j hj => by cases hj; have := h.gl; have := h.bl; omega) (by have := h.bl; have := h.f.size; omega)
end KyR
def three (j : Nat) : ByteArray := if j = 0 then ⟨#[107, 101, 121]⟩ else if j = 1 then ⟨#[]⟩ else ⟨#[111, 116, 104, 101, 114]⟩
theorem three_size (j : Nat) : (three j).size ≤ 6 := by
 unfold three
 split
 · decide
 · split
   · decide
   · decide
set_option maxRecDepth 100000 in
set_option maxHeartbeats 1600000 in
theorem src_keys (B : Nat) (w : World) (g : Nat) (a : Option Addr) (len cap : Nat) (hs : Src 60 B w g a len cap) (hB : B ≤ w.heap.size) :
 Calls Tryz.prog 18 #[.pointer (some ⟨g, 0, none⟩)] w fun e w' => ∃ H M : ByteArray, e = .returned (.agg #[.string H, .string M]) ∧ H.size ≤ 16 ∧ M.size ≤ 33 ∧ Src 60 B w' g a len cap ∧ w.grownBy w' (some g) := by
 have hgl := hs.lt
 have f0 : w.grownBy ((w.alloc (.cells #[.string ⟨#[]⟩, .string ⟨#[]⟩] 24)).alloc (.cells #[.string ⟨#[107, 101, 121]⟩, .string ⟨#[]⟩, .string ⟨#[111, 116, 104, 101, 114]⟩] 9)) (some g) := grown_alloc (grown_alloc (World.grownBy.refl w _) _) _
 have s0 : Src 60 B ((w.alloc (.cells #[.string ⟨#[]⟩, .string ⟨#[]⟩] 24)).alloc (.cells #[.string ⟨#[107, 101, 121]⟩, .string ⟨#[]⟩, .string ⟨#[111, 116, 104, 101, 114]⟩] 9)) g a len cap :=
  hs.kept (r := none) (grown_alloc (grown_alloc (World.grownBy.refl w _) _) _) (fun k hk => by cases hk) hB
 have q0 := heap_alloc_new (w.alloc (.cells #[.string ⟨#[]⟩, .string ⟨#[]⟩] 24)) (.cells #[.string ⟨#[107, 101, 121]⟩, .string ⟨#[]⟩, .string ⟨#[111, 116, 104, 101, 114]⟩] 9)
 rw [World.size_alloc] at q0
 have r0 := (((Below.refl (w.alloc (.cells #[.string ⟨#[]⟩, .string ⟨#[]⟩] 24)).heap.size _).alloc (Nat.le_refl _) (.cells #[.string ⟨#[107, 101, 121]⟩, .string ⟨#[]⟩, .string ⟨#[111, 116, 104, 101, 114]⟩] 9)).block w.heap.size (by simp)).trans (heap_alloc_new w _)
 have H0 := hide (And.intro f0 (And.intro s0 (And.intro q0 r0)))
 clear f0 s0 q0 r0 hs
 go_enter Tryz.func18, Tryz.ntmps18
 go_wp2_with fail
 obtain ⟨f0, s0, q0, r0⟩ := H0.out
 generalize (w.alloc (.cells #[.string ⟨#[]⟩, .string ⟨#[]⟩] 24)).alloc (.cells #[.string ⟨#[107, 101, 121]⟩, .string ⟨#[]⟩, .string ⟨#[111, 116, 104, 101, 114]⟩] 9) = W1 at *
 clear H0
 refine (src_pick B W1 g a len cap (w.heap.size + 1) 3 three (by omega) (by omega) (by omega) (fun j hj => by
  match j, hj with
  | 0, _ => simp [World.cell?, q0, three]
  | 1, _ => simp [World.cell?, q0, three]
  | 2, _ => simp [World.cell?, q0, three]) s0).mono ?_
 rintro e w1 ⟨j, hj, rfl, hs1, hg1⟩
 have f1 := grownBy_trans f0 hg1
 have r1 := row_grown r0 hg1 (by omega)
 have hp := three_size j
 have SK := fun W => spec_keysOf (three j) W
 have hk : keysS (three j) = keysT (three j) := if_pos (by omega)
 have hok := keysT_ok (three j)
 rw [hk] at SK
 unfold keysV at SK
 generalize keysT (three j) = kk at *
 obtain ⟨H, M⟩ := kk
 obtain ⟨hH, hM⟩ : H.size = 16 ∧ M.size = 32 := by unfold keysOk at hok; simpa using hok
 dsimp only at SK
 have S1 := hide (And.intro hs1 (And.intro f1 r1))
 have SK := hide SK
 clear hok hk s0 f0 q0 r0 hs1 hg1 f1 r1 hp
 generalize three j = pass at *
 go_wp2_with fail
 refine (SK.out _).mono ?_
 rintro e w2 ⟨rfl, hb2⟩
 obtain ⟨hs1, f1, r1⟩ := S1.out
 have K2 : KyR w B g a len cap w2.heap.size H M (w2.alloc (.cells #[.string H, .string M] 24)) := by
  have z1 := f1.size
  have z2 := hb2.size
  have lt1 := (Array.getElem?_eq_some_iff.1 r1).1
  have b2 := hb2.alloc hb2.size (.cells #[.string H, .string M] 24)
  exact ⟨hs1.kept (r := none) (grown_below b2 none) (fun k hk => by cases hk) (by omega), grownBy_trans f1 (grown_below b2 _), (b2.block _ lt1).trans r1, heap_alloc_new w2 _, hgl, by omega, hB⟩
 have K2 := hide K2
 clear hb2 SK S1 hs1 f1 r1
 go_wp2_with fail
 -- the branches
 generalize w2.alloc (.cells #[.string H, .string M] 24) = W3 at *
 generalize w2.heap.size = k at *
 refine (src_one _ _ _ a len cap 20 (by omega) K2.out.s).mono ?_
 rintro e w3 ⟨r, rfl, hs3, hg3⟩
 have K3 := hide (K2.out.step hs3 hg3)
 clear hs3 hg3 K2
 cases r
 · go_wp2_with fail
   refine (src_one _ _ _ a len cap 20 (by omega) K3.out.s).mono ?_
   rintro e w4 ⟨r2, rfl, hs4, hg4⟩
   have K5 := hide (K3.out.step hs4 hg4)
   clear hs4 hg4
   have c0 := K5.out.c0
   have c1 := K5.out.c1
   have fz := K5.out.fz
   cases r2
   · have r0 := K5.out.r0
     have r1 := K5.out.r1
     have rf := K5.out.rf
     go_wp2_with fail
     exact bodyPost_ret (results_cell_row Tryz.results18 _ _ w.heap.size 24 #[.string H, .string M] (0, 0) _ rfl (K5.out.finR _ _) Tryz.underlying24 rfl (by kernel_rfl)) rfl ⟨H, M, rfl, by omega, by omega, K5.out.finS _ _, K5.out.finF _ _⟩
   · obtain ⟨M2, hM2⟩ : ∃ X, X = M ++ ⟨#[120]⟩ := ⟨_, rfl⟩
     have hadd : ∀ W : World, (Op.stringOp .add M ⟨#[120]⟩).run Tryz.prog W = .ok (.string M2) W := fun W => by rw [hM2]; exact run_string_add_sum W M ⟨#[120]⟩ (by have e : (⟨#[120]⟩ : ByteArray).size = 1 := rfl; omega)
     have hz2 : M2.size = 33 := by rw [hM2, ByteArray.size_append, hM]; rfl
     have K6 := hide (K5.out.setM (M ++ ⟨#[120]⟩))
     have e0 := K6.out.c0
     have e1 := K6.out.c1
     have r0 := K6.out.r0
     have r1 := K6.out.r1
     have rf := K6.out.rf
     rw [← hM2] at K6 e0 e1 r0 r1 rf
     clear hM2
     go_wp2_with fail
     exact bodyPost_ret (results_cell_row Tryz.results18 _ _ w.heap.size 24 #[.string H, .string M2] (0, 0) _ rfl (K6.out.finR _ _) Tryz.underlying24 rfl (by kernel_rfl)) rfl ⟨H, M2, rfl, by omega, by omega, K6.out.finS _ _, K6.out.finF _ _⟩
 · have c0 := K3.out.c0
   have fz := K3.out.fz
   have h1 : (1 : Int) ≤ (H.size : Int) := by omega
   have hsl : ∀ W : World, (Instr.slice 9 (.string H) (some (.int .i64 1)) none none).run Tryz.prog W = .ok (.string (H.extract 1 H.size)) W := fun W => run_back (P := Tryz.prog) W 9 H 1 Tryz.underlying9 (by omega)
   have hzx : (H.extract 1 H.size).size ≤ 16 := by rw [ByteArray.size_extract]; omega
   have K4 := hide (K3.out.setH (H.extract 1 H.size))
   generalize H.extract 1 H.size = H1 at *
   go_wp2_with fail
   clear c0 fz hsl K3
   refine (src_one _ _ _ a len cap 20 (by omega) K4.out.s).mono ?_
   rintro e w4 ⟨r2, rfl, hs4, hg4⟩
   have K5 := hide (K4.out.step hs4 hg4)
   clear hs4 hg4
   have c0 := K5.out.c0
   have c1 := K5.out.c1
   have fz := K5.out.fz
   cases r2
   · have r0 := K5.out.r0
     have r1 := K5.out.r1
     have rf := K5.out.rf
     go_wp2_with fail
     exact bodyPost_ret (results_cell_row Tryz.results18 _ _ w.heap.size 24 #[.string H1, .string M] (0, 0) _ rfl (K5.out.finR _ _) Tryz.underlying24 rfl (by kernel_rfl)) rfl ⟨H1, M, rfl, by omega, by omega, K5.out.finS _ _, K5.out.finF _ _⟩
   · obtain ⟨M2, hM2⟩ : ∃ X, X = M ++ ⟨#[120]⟩ := ⟨_, rfl⟩
     have hadd : ∀ W : World, (Op.stringOp .add M ⟨#[120]⟩).run Tryz.prog W = .ok (.string M2) W := fun W => by rw [hM2]; exact run_string_add_sum W M ⟨#[120]⟩ (by have e : (⟨#[120]⟩ : ByteArray).size = 1 := rfl; omega)
     have hz2 : M2.size = 33 := by rw [hM2, ByteArray.size_append, hM]; rfl
     have K6 := hide (K5.out.setM (M ++ ⟨#[120]⟩))
     have e0 := K6.out.c0
     have e1 := K6.out.c1
     have r0 := K6.out.r0
     have r1 := K6.out.r1
     have rf := K6.out.rf
     rw [← hM2] at K6 e0 e1 r0 r1 rf
     clear hM2
     go_wp2_with fail
     exact bodyPost_ret (results_cell_row Tryz.results18 _ _ w.heap.size 24 #[.string H1, .string M2] (0, 0) _ rfl (K6.out.finR _ _) Tryz.underlying24 rfl (by kernel_rfl)) rfl ⟨H1, M2, rfl, by omega, by omega, K6.out.finS _ _, K6.out.finF _ _⟩
set_option maxRecDepth 100000 in
set_option maxHeartbeats 1600000 in
theorem src_id (B : Nat) (w : World) (g : Nat) (a : Option Addr) (len cap : Nat) (hs : Src 60 B w g a len cap) (hB : B ≤ w.heap.size) :
 Calls Tryz.prog 19 #[.pointer (some ⟨g, 0, none⟩)] w fun e w' => ∃ x : Int, e = .returned (.int .i64 x) ∧ -9223372036854775808 ≤ x ∧ x ≤ 9223372036854775807 ∧ Src 60 B w' g a len cap ∧ w.grownBy w' (some g) := by
 have HS := hide hs
 clear hs
 go_enter Tryz.func19, Tryz.ntmps19
 go_wp2_with fail
 refine (src_one _ _ _ a len cap 12 (by omega) HS.out).mono ?_
 rintro e w1 ⟨r, rfl, hs1, hg1⟩
 have H1 := hide (And.intro hs1 hg1)
 have z1 := hg1.size
 clear hs1 hg1 HS
 cases r
 · go_wp2_with fail
   refine (src_n _ _ _ a len cap 200 (by omega) H1.out.1).mono ?_
   rintro e w2 ⟨v, rfl, v0, v1, hs2, hg2⟩
   have H2 := hide (And.intro hs2 (grownBy_trans H1.out.2 hg2))
   clear hs2 hg2 H1
   go_wp2_with fail
   go_ret
   exact ⟨v, rfl, by omega, by omega, H2.out.1, H2.out.2⟩
 · go_wp2_with fail
   refine (src_edge _ _ _ a len cap H1.out.1).mono ?_
   rintro e w2 ⟨x, rfl, x0, x1, hs2, hg2⟩
   have z2 := hg2.size
   have hgl := hs2.lt
   have H2 := hide (And.intro (hs2.kept (r := none) (grown_alloc (World.grownBy.refl w2 _) (.cells #[.int .i64 (-1), .int .i64 0, .int .i64 2000000, .int .i64 2000001, .int .i64 x] 2)) (fun k hk => by cases hk) (by omega)) (grown_alloc (grownBy_trans H1.out.2 hg2) (.cells #[.int .i64 (-1), .int .i64 0, .int .i64 2000000, .int .i64 2000001, .int .i64 x] 2)))
   have q2 := hide (heap_alloc_new w2 (.cells #[.int .i64 (-1), .int .i64 0, .int .i64 2000000, .int .i64 2000001, .int .i64 x] 2))
   clear hs2 hg2 H1
   go_wp2_with fail
   refine (src_n _ _ _ a len cap 5 (by omega) H2.out.1).mono ?_
   rintro e w3 ⟨v, rfl, v0, v1, hs3, hg3⟩
   have q3 := row_grown q2.out hg3 (by omega)
   have H3 := hide (And.intro hs3 (grownBy_trans H2.out.2 hg3))
   obtain ⟨j, rfl⟩ := Int.eq_ofNat_of_zero_le v0
   have hj : j < 5 := by omega
   have hj' : (j : Int) < 5 := by omega
   obtain ⟨y, hy, y0, y1⟩ : ∃ y : Int, w3.cell? ⟨w2.heap.size, j, none⟩ = some (.int .i64 y) ∧ -9223372036854775808 ≤ y ∧ y ≤ 9223372036854775807 := by
    match j, hj with
    | 0, _ => exact ⟨-1, by simp [World.cell?, q3], by omega, by omega⟩
    | 1, _ => exact ⟨0, by simp [World.cell?, q3], by omega, by omega⟩
    | 2, _ => exact ⟨2000000, by simp [World.cell?, q3], by omega, by omega⟩
    | 3, _ => exact ⟨2000001, by simp [World.cell?, q3], by omega, by omega⟩
    | 4, _ => exact ⟨x, by simp [World.cell?, q3], x0, x1⟩
   clear hs3 hg3 H2 q2 q3 v1
   go_wp2_with fail
   go_ret
   exact ⟨y, rfl, y0, y1, H3.out.1, H3.out.2⟩
end Go.Proofs.YtconcnndghmdfaaGreatDoor
namespace Go.Proofs.YtconcnndghmdfaaGreatDoor
open Go Go.RowKit
structure BsR (w : World) (g : Nat) (a : Option Addr) (len cap k : Nat) (H M : ByteArray) (wx : World) : Prop where
 s : Src 60 g wx g a len cap
 f : w.grownBy wx none
 r : wx.heap[w.heap.size]? = some (.cells #[.string ⟨#[]⟩, .string ⟨#[]⟩] 24 (0, 0))
 q : wx.heap[k]? = some (.cells #[.string H, .string M] 24 (0, 0))
 gl : w.heap.size < g
 kl : g < k
namespace BsR
variable {w wx wy : World} {g : Nat} {a : Option Addr} {len cap k : Nat} {H M : ByteArray}
theorem step (h : BsR w g a len cap k H M wx) (hs : Src 60 g wy g a len cap) (hg : wx.grownBy wy (some g)) : BsR w g a len cap k H M wy :=
 ⟨hs, grownBy_new h.f hg (by have := h.gl; omega), row_grown h.r hg (by have := h.gl; omega), row_grown h.q hg (by have := h.kl; omega), h.gl, h.kl⟩
theorem below (h : BsR w g a len cap k H M wx) (hb : Below wx.heap.size wx wy) : BsR w g a len cap k H M wy :=
 ⟨h.s.kept (r := none) (grown_below hb none) (fun k hk => by cases hk) (Nat.le_of_lt h.s.lt), grownBy_trans h.f (grown_below hb _), (hb.block _ (Array.getElem?_eq_some_iff.1 h.r).1).trans h.r, (hb.block _ (Array.getElem?_eq_some_iff.1 h.q).1).trans h.q, h.gl, h.kl⟩
theorem alloc (h : BsR w g a len cap k H M wx) (o : Obj) : BsR w g a len cap k H M (wx.alloc o) := h.below ((Below.refl wx.heap.size wx).alloc (Nat.le_refl _) o)
theorem drew (h : BsR w g a len cap k H M wx) : BsR w g a len cap k H M wx.drew := h.below (Below.refl wx.heap.size wx).drew
theorem c0 (h : BsR w g a len cap k H M wx) : wx.cell? ⟨k, 0, none⟩ = some (.string H) := by simp [World.cell?, h.q]
theorem c1 (h : BsR w g a len cap k H M wx) : wx.cell? ⟨k, 1, none⟩ = some (.string M) := by simp [World.cell?, h.q]
theorem r0 (h : BsR w g a len cap k H M wx) : wx.cell? ⟨w.heap.size, 0, none⟩ = some (.string ⟨#[]⟩) := by simp [World.cell?, h.r]
theorem r1 (h : BsR w g a len cap k H M wx) : wx.cell? ⟨w.heap.size, 1, none⟩ = some (.string ⟨#[]⟩) := by simp [World.cell?, h.r]
theorem rf (h : BsR w g a len cap k H M wx) (o : Nat) : wx.frozen? ⟨w.heap.size, o, none⟩ = false := by simp [World.frozen?, h.r]
theorem finR (h : BsR w g a len cap k H M wx) (x y : Value) : ((wx.setCell ⟨w.heap.size, 0, none⟩ x).setCell ⟨w.heap.size, 1, none⟩ y).heap[w.heap.size]? = some (.cells #[x, y] 24 (0, 0)) := keys_set h.r
theorem finF (h : BsR w g a len cap k H M wx) (x y : Value) : w.grownBy ((wx.setCell ⟨w.heap.size, 0, none⟩ x).setCell ⟨w.heap.size, 1, none⟩ y) none := grown_set (grown_set h.f (Nat.le_refl _) _) (Nat.le_refl _) _
theorem qs (h : BsR w g a len cap k H M wx) (x y : Value) : ((wx.setCell ⟨w.heap.size, 0, none⟩ x).setCell ⟨w.heap.size, 1, none⟩ y).heap[k]? = some (.cells #[.string H, .string M] 24 (0, 0)) := by
 have hn : w.heap.size ≠ k := by have := h.gl; have := h.kl; omega
 simp [World.setCell, Array.getElem?_modify, hn, h.q]
theorem k0 (h : BsR w g a len cap k H M wx) (x y : Value) : ((wx.setCell ⟨w.heap.size, 0, none⟩ x).setCell ⟨w.heap.size, 1, none⟩ y).cell? ⟨k, 0, none⟩ = some (.string H) := by
 have := h.qs x y
 simp [World.cell?, this]
theorem k1 (h : BsR w g a len cap k H M wx) (x y : Value) : ((wx.setCell ⟨w.heap.size, 0, none⟩ x).setCell ⟨w.heap.size, 1, none⟩ y).cell? ⟨k, 1, none⟩ = some (.string M) := by
 have := h.qs x y
 simp [World.cell?, this]
end BsR
theorem results_cell_plain {P : Program} {fn : Func} {p x y z : Tmp} {ty : TypeId} (h : fn.results = #[.cell p ty, .tmp x, .tmp y, .tmp z]) (tmps : Array Value) (w : World) (g : Nat) (t : TypeId) (cs : Array Value) (fr : Nat × Nat) (d : TypeDesc)
 (hp : tmps.getD p undef = .pointer (some ⟨g, 0, none⟩)) (hg : w.heap[g]? = some (.cells cs t fr))
 (hu : P.underlying ty = some d) (hd : (match d with | .struct _ | .array _ _ => true | _ => false) = true) (hi : (P.info? ty).map (·.size) = some cs.size) :
 (results fn tmps).run P w = .ok (.tuple #[.agg cs, tmps.getD x undef, tmps.getD y undef, tmps.getD z undef]) w := by
 have hp' : tmps[p]?.getD undef = .pointer (some ⟨g, 0, none⟩) := by simpa using hp
 simp [results, h, hp', asAddr, run_loadVar_row w g t ty cs fr d hg hu hd hi]
theorem results_cell_duo {P : Program} {fn : Func} {p x y : Tmp} {ty : TypeId} (h : fn.results = #[.cell p ty, .tmp x, .tmp y]) (tmps : Array Value) (w : World) (g : Nat) (t : TypeId) (cs : Array Value) (fr : Nat × Nat) (d : TypeDesc)
 (hp : tmps.getD p undef = .pointer (some ⟨g, 0, none⟩)) (hg : w.heap[g]? = some (.cells cs t fr))
 (hu : P.underlying ty = some d) (hd : (match d with | .struct _ | .array _ _ => true | _ => false) = true) (hi : (P.info? ty).map (·.size) = some cs.size) :
 (results fn tmps).run P w = .ok (.tuple #[.agg cs, tmps.getD x undef, tmps.getD y undef]) w := by
 have hp' : tmps[p]?.getD undef = .pointer (some ⟨g, 0, none⟩) := by simpa using hp
 simp [results, h, hp', asAddr, run_loadVar_row w g t ty cs fr d hg hu hd hi]
set_option maxRecDepth 100000 in
set_option maxHeartbeats 3200000 in
theorem drawBlockSeal_any (w : World) (a : Option Addr) (len cap : Nat) (hl : len ≤ 1048576) (hby : BytesIn w w.heap.size a len) :
 Calls Tryz.prog 6 #[.slice a len cap] w fun e w' => ∃ (H M : ByteArray) (id far : Int) (t : ByteArray), e = .returned (.tuple #[.agg #[.string H, .string M], .int .i64 id, .int .i64 far, .string t]) ∧ H.size ≤ 16 ∧ M.size ≤ 33 ∧ -9223372036854775808 ≤ id ∧ id ≤ 9223372036854775807 ∧ t.size ≤ 4001 ∧ w.grownBy w' none := by
 have q0 := hide (heap_alloc_new w (.cells #[.string ⟨#[]⟩, .string ⟨#[]⟩] 24))
 have g0 := hide (grown_alloc (World.grownBy.refl w none) (.cells #[.string ⟨#[]⟩, .string ⟨#[]⟩] 24))
 have HB := hide (show BytesIn (w.alloc (.cells #[.string ⟨#[]⟩, .string ⟨#[]⟩] 24)) (w.alloc (.cells #[.string ⟨#[]⟩, .string ⟨#[]⟩] 24)).heap.size a len from by
  rcases hby.below ((Below.refl w.heap.size w).alloc (Nat.le_refl _) (.cells #[.string ⟨#[]⟩, .string ⟨#[]⟩] 24)) (Nat.le_refl _) with h | ⟨b, off, rfl, h2, h3⟩
  · exact .inl h
  · exact .inr ⟨b, off, rfl, by simp; omega, h3⟩)
 clear hby
 go_enter Tryz.func6, Tryz.ntmps6
 go_wp2_with fail
 refine (source_any _ a len cap hl HB.out).mono ?_
 rintro e w1 ⟨rfl, hs1, hg1⟩
 have hz : (w.alloc (.cells #[.string ⟨#[]⟩, .string ⟨#[]⟩] 24)).heap.size = w.heap.size + 1 := World.size_alloc _ _
 rw [hz] at hs1
 have q1 := hide ((hg1.block w.heap.size (by rw [hz]; omega) (by simp)).trans q0.out)
 have g1 := hide (grownBy_trans g0.out hg1)
 have S1 := hide hs1
 have z1 := hg1.size
 rw [hz] at z1
 clear hs1 hg1 q0 g0 HB hz
 go_wp2_with fail
 refine (src_keys _ _ _ a len cap S1.out (by omega)).mono ?_
 rintro e w2 ⟨H, M, rfl, hH, hM, hs2, hg2⟩
 have K := hide (show BsR w (w.heap.size + 1) a len cap w2.heap.size H M (w2.alloc (.cells #[.string H, .string M] 24)) from by
  have z2 := hg2.size
  have lt1 := S1.out.lt
  have r2 := row_grown q1.out hg2 (by omega)
  exact ⟨hs2.kept (r := none) (grown_alloc (World.grownBy.refl w2 _) _) (fun k hk => by cases hk) (by omega), grown_alloc (grownBy_new g1.out hg2 (by omega)) _,
   (((Below.refl w2.heap.size w2).alloc (Nat.le_refl _) (.cells #[.string H, .string M] 24)).block w.heap.size (by omega)).trans r2, heap_alloc_new w2 _, by omega, by omega⟩)
 clear hs2 hg2 S1 q1 g1
 go_wp2_with fail
 generalize w2.alloc (.cells #[.string H, .string M] 24) = W2 at *
 generalize w2.heap.size = k at *
 refine (src_id _ _ _ a len cap K.out.s (Nat.le_of_lt K.out.s.lt)).mono ?_
 rintro e w3 ⟨id, rfl, i0, i1, hs3, hg3⟩
 have K3 := hide (K.out.step hs3 hg3)
 clear hs3 hg3 K
 go_wp2_with fail
 refine (src_n _ _ _ a len cap 5 (by omega) K3.out.s).mono ?_
 rintro e w4 ⟨far, rfl, v0, v1, hs4, hg4⟩
 have K4 := hide (K3.out.step hs4 hg4)
 clear hs4 hg4 K3
 go_wp2_with fail
 refine (src_one _ _ _ a len cap 10 (by omega) K4.out.s).mono ?_
 rintro e w5 ⟨r, rfl, hs5, hg5⟩
 have K5 := hide (K4.out.step hs5 hg5)
 clear hs5 hg5 K4
 cases r
 · go_wp2_with fail
   have KL := hide K5.out.drew
   have r0 := KL.out.r0
   have r1 := KL.out.r1
   have rf := KL.out.rf
   have c0 := K5.out.c0
   have c1 := K5.out.c1
   go_region_held3 (fun W' => W'.cell? ⟨k, 0, none⟩ = some (.string H) ∧ W'.cell? ⟨k, 1, none⟩ = some (.string M)) (first | exact ⟨KL.out.c0, KL.out.c1⟩ | exact ⟨KL.out.k0 _ _, KL.out.k1 _ _⟩ | go_keep) (first | (go_at_call 22; refine (src_text _ _ _ a len cap KL.out.s (Nat.le_of_lt KL.out.s.lt)).mono ?_; rintro e w9 ⟨t, rfl, ht, hs9, hg9⟩; have KL := hide (KL.out.step hs9 hg9); have r0 := KL.out.r0; have r1 := KL.out.r1; have rf := KL.out.rf; clear hs9 hg9))
   all_goals (
    go_wp2_with fail
    exact bodyPost_ret (results_cell_plain Tryz.results6 _ _ w.heap.size 24 #[.string H, .string M] (0, 0) _ rfl (KL.out.finR _ _) Tryz.underlying24 rfl (by kernel_rfl)) rfl ⟨H, M, id, far, t, rfl, by omega, by omega, i0, i1, ht, KL.out.finF _ _⟩)
 · have K6 := hide (K5.out.alloc (.cells #[.int .i64 (-1), .int .i64 256, .int .i64 257] 2))
   have q6 := hide (heap_alloc_new w5 (.cells #[.int .i64 (-1), .int .i64 256, .int .i64 257] 2))
   have gz := K5.out.s.lt
   go_wp2_with fail
   refine (src_n _ _ _ a len cap 3 (by omega) K6.out.s).mono ?_
   rintro e w7 ⟨v, rfl, x0, x1, hs7, hg7⟩
   have q7 := row_grown q6.out hg7 (by omega)
   have K7 := hide (K6.out.step hs7 hg7)
   obtain ⟨j, rfl⟩ := Int.eq_ofNat_of_zero_le x0
   have hj : j < 3 := by omega
   have hj' : (j : Int) < 3 := by omega
   obtain ⟨y, hy⟩ : ∃ y : Int, w7.cell? ⟨w5.heap.size, j, none⟩ = some (.int .i64 y) := by
    match j, hj with
    | 0, _ => exact ⟨-1, by simp [World.cell?, q7]⟩
    | 1, _ => exact ⟨256, by simp [World.cell?, q7]⟩
    | 2, _ => exact ⟨257, by simp [World.cell?, q7]⟩
   clear hs7 hg7 K6 q6 q7 x1 K5
   go_wp2_with fail
   have KL := hide K7.out.drew
   have r0 := KL.out.r0
   have r1 := KL.out.r1
   have rf := KL.out.rf
   have c0 := K7.out.c0
   have c1 := K7.out.c1
   go_region_held3 (fun W' => W'.cell? ⟨k, 0, none⟩ = some (.string H) ∧ W'.cell? ⟨k, 1, none⟩ = some (.string M)) (first | exact ⟨KL.out.c0, KL.out.c1⟩ | exact ⟨KL.out.k0 _ _, KL.out.k1 _ _⟩ | go_keep) (first | (go_at_call 22; refine (src_text _ _ _ a len cap KL.out.s (Nat.le_of_lt KL.out.s.lt)).mono ?_; rintro e w9 ⟨t, rfl, ht, hs9, hg9⟩; have KL := hide (KL.out.step hs9 hg9); have r0 := KL.out.r0; have r1 := KL.out.r1; have rf := KL.out.rf; clear hs9 hg9))
   all_goals (
    go_wp2_with fail
    exact bodyPost_ret (results_cell_plain Tryz.results6 _ _ w.heap.size 24 #[.string H, .string M] (0, 0) _ rfl (KL.out.finR _ _) Tryz.underlying24 rfl (by kernel_rfl)) rfl ⟨H, M, id, y, t, rfl, by omega, by omega, i0, i1, ht, KL.out.finF _ _⟩)
end Go.Proofs.YtconcnndghmdfaaGreatDoor
namespace Go.Proofs.YtconcnndghmdfaaGreatDoor
open Go.RowKit
structure KeyW (w : World) (H M : ByteArray) (w2 : World) : Prop where
 b : Below (w.heap.size + 1) (w.alloc (.cells #[.string H, .string M] 24)) w2
theorem KeyW.size {w w2 : World} {H M : ByteArray} (h : KeyW w H M w2) : w.heap.size + 1 ≤ w2.heap.size := by have := h.b.size; simpa using this
theorem KeyW.call {w w1 w2 : World} {H M : ByteArray} (h : KeyW w H M w1) (hb : Below w1.heap.size w1 w2) : KeyW w H M w2 := ⟨h.b.trans (hb.mono h.size)⟩
theorem KeyW.call' {w w1 w2 : World} {H M : ByteArray} (h : KeyW w H M w1) (hb : Below w1.drew.heap.size w1.drew w2) : KeyW w H M w2 := ⟨h.b.drew.trans (hb.mono h.size)⟩
theorem KeyW.c0 {w w2 : World} {H M : ByteArray} (h : KeyW w H M w2) : w2.cell? ⟨w.heap.size, 0, none⟩ = some (.string H) := (keys_cells h.b (Nat.lt_succ_self _) (heap_alloc_new w _)).1
theorem KeyW.c1 {w w2 : World} {H M : ByteArray} (h : KeyW w H M w2) : w2.cell? ⟨w.heap.size, 1, none⟩ = some (.string M) := (keys_cells h.b (Nat.lt_succ_self _) (heap_alloc_new w _)).2.1
theorem KeyW.alloc {w w1 : World} {H M : ByteArray} (h : KeyW w H M w1) (o : Obj) : KeyW w H M (w1.alloc o) := ⟨h.b.alloc h.size o⟩
theorem KeyW.drew {w w1 : World} {H M : ByteArray} (h : KeyW w H M w1) : KeyW w H M w1.drew := ⟨h.b.drew⟩
theorem KeyW.low {w w2 : World} {H M : ByteArray} (h : KeyW w H M w2) : Below w.heap.size w w2 := ((Below.refl _ _).alloc (Nat.le_refl _) _).trans (h.b.mono (Nat.le_succ _))
theorem KeyW.one {w w1 : World} {H M : ByteArray} (h : Below (w.alloc (.cells #[.string H, .string M] 24)).heap.size (w.alloc (.cells #[.string H, .string M] 24)) w1) : KeyW w H M w1 := ⟨by simpa using h⟩
set_option maxRecDepth 100000 in
set_option maxHeartbeats 8000000 in
theorem spec_seal0 (H M : ByteArray) (id far : Int) (t : ByteArray) (w : World) (hk : keysOk (H, M) = true) (h0 : 0 ≤ id) (h1 : id ≤ 2000000) (h2 : 0 ≤ far) (h3 : far ≤ 256) (ht : t.size ≤ 4000) :
 Calls Tryz.prog 33 #[.agg #[.string H, .string M], .int .i64 id, .int .i64 far, .string t] w fun e w' => e = .returned (.string (sealB (H, M) id far t)) ∧ Below w.heap.size w w' := by
 obtain ⟨hH, hM⟩ : H.size = 16 ∧ M.size = 32 := by unfold keysOk at hk; simpa using hk
 obtain ⟨N, rfl⟩ := Int.eq_ofNat_of_zero_le h0
 obtain ⟨F, rfl⟩ := Int.eq_ofNat_of_zero_le h2
 have hsz := sealT_size (H, M) (N : Int) (F : Int) t h0 h1 h2 h3 ht
 have hp := packB_few (difB t (F : Int)) (by rw [difB_size]; exact ht)
 have hds : (difB t (F : Int)).size ≤ 4000 := by rw [difB_size]; exact ht
 obtain ⟨num, hnum⟩ : ∃ f : Int → ByteArray, f = fun n => ⟨(encNum (foldNum n)).toArray⟩ := ⟨_, rfl⟩
 have S1 : ∀ (n : Int) (W : World), 0 ≤ n → n ≤ 2000000 → Calls Tryz.prog 39 #[.int .i64 n] W fun e w' => e = .returned (.string (num n)) ∧ Below W.heap.size W w' := fun n W a b => by rw [hnum]; exact spec_putNum n W (by omega) (by omega)
 have S1 := hide S1
 have S3 := hide (fun W => spec_pack0 (difB t (F : Int)) W hds)
 have S4 := hide (fun W => spec_ctrA H (packB (difB t (F : Int))) N W hH (by omega) (by omega))
 have S5 := hide (fun W => spec_mac M (sealT (H, M) (N : Int) (F : Int) t) W (by omega) (by omega))
 have hn1 : (num (N : Int)).size ≤ 4 := by rw [hnum]; exact numB_size _ h0 h1
 have hn2 : (num (F : Int)).size ≤ 4 := by rw [hnum]; exact numB_size _ h2 (by omega)
 have hC : (⟨(ctrL (kB (keyF H)) N (bF (packB (difB t (F : Int)))) (packB (difB t (F : Int))).size).toArray⟩ : ByteArray).size ≤ 17006 := Nat.le_trans (Nat.le_of_eq (hidB_size H N (packB (difB t (F : Int))))) hp
 have HX := macT_size M (sealT (H, M) (N : Int) (F : Int) t)
 have E := hide (show sealB (H, M) (N : Int) (F : Int) t = sealT (H, M) (N : Int) (F : Int) t ++ (macT M (sealT (H, M) (N : Int) (F : Int) t)).extract 0 16 from rfl)
 have ET := hide (show sealT (H, M) (N : Int) (F : Int) t = (num (N : Int) ++ num (F : Int)) ++ ⟨(ctrL (kB (keyF H)) N (bF (packB (difB t (F : Int)))) (packB (difB t (F : Int))).size).toArray⟩ by rw [hnum]; rfl)
 clear hnum
 have hsl : ∀ W : World, (Instr.slice 9 (.string (macT M (sealT (H, M) (N : Int) (F : Int) t))) none (some (.int .i64 16)) none).run Tryz.prog W = .ok (.string ((macT M (sealT (H, M) (N : Int) (F : Int) t)).extract 0 16)) W := fun W => run_front (P := Tryz.prog) W 9 (macT M (sealT (H, M) (N : Int) (F : Int) t)) 16 Tryz.underlying9 (by rw [HX]; decide)
 have hX' : (16 : Int) ≤ ((macT M (sealT (H, M) (N : Int) (F : Int) t)).size : Int) := by rw [HX]; decide
 obtain ⟨D, hD⟩ : ∃ D, D = difB t (F : Int) := ⟨_, rfl⟩
 rw [← hD] at S3 S4 ET hC
 have HD := hide hD
 generalize packB D = PD at *
 generalize (⟨(ctrL (kB (keyF H)) N (bF PD) PD.size).toArray⟩ : ByteArray) = C at *
 generalize sealB (H, M) (N : Int) (F : Int) t = Z at *
 generalize sealT (H, M) (N : Int) (F : Int) t = T at *
 obtain ⟨X, hXe⟩ : ∃ X, X = macT M T := ⟨_, rfl⟩
 rw [← hXe] at S5 E hsl hX'
 have hX16 : (X.extract 0 16).size ≤ 16 := by rw [ByteArray.size_extract]; omega
 clear hXe HX hD
 have ET := ET.out
 subst ET
 have hq1 : ¬ 9223372036854775807 < (num (N : Int)).size + (num (F : Int)).size := by omega
 have hq2 : ¬ 9223372036854775807 < (num (N : Int)).size + (num (F : Int)).size + C.size := by omega
 have DB := hide (show (0 : Int) < (F : Int) → D = ⟨((List.range t.size).map (difF (bF t) F)).toArray⟩ from fun h => HD.out.trans (if_pos h))
 have DN := hide (show ¬ (0 : Int) < (F : Int) → D = t from fun h => HD.out.trans (if_neg h))
 clear HD hsz hp hds
 have q0 := Below.refl w.heap.size w
 by_cases hf : (0 : Int) < (F : Int)
 · have SD := hide (fun W => spec_differA t F W (by omega) (by omega) (by omega))
   rw [← DB.out hf] at SD
   go_enter Tryz.func33, Tryz.ntmps33
   go_wp2_with fail
   refine (SD.out _).mono ?_
   rintro e w1 ⟨rfl, hb1⟩
   simp at hb1
   have HB : KeyW w H M w1 := ⟨hb1⟩
   have c0 := HB.c0
   have c1 := HB.c1
   clear SD hb1
   go_wp2_with fail
   go_region_held3 (fun W' => W'.cell? ⟨w.heap.size, 0, none⟩ = some (.string H) ∧ W'.cell? ⟨w.heap.size, 1, none⟩ = some (.string M)) (first | exact ⟨c0, c1⟩ | exact ⟨HB.drew.c0, HB.drew.c1⟩ | exact ⟨(HB.alloc _).c0, (HB.alloc _).c1⟩ | go_keep) (first | (go_at_call 39; refine (S1.out _ _ (by omega) (by omega)).mono ?_; rintro e w2 ⟨rfl, hb2⟩; have HB := (show KeyW w H M w2 by first | exact HB.call hb2 | exact HB.call' hb2); have c0 := HB.c0; have c1 := HB.c1; clear hb2) | (go_at_call 59; refine (S3.out _).mono ?_; rintro e w2 ⟨rfl, hb2⟩; have HB := (show KeyW w H M w2 by first | exact HB.call hb2 | exact HB.call' hb2); have c0 := HB.c0; have c1 := HB.c1; clear hb2) | (go_at_call 58; refine (S4.out _).mono ?_; rintro e w2 ⟨rfl, hb2⟩; have HB := (show KeyW w H M w2 by first | exact HB.call hb2 | exact HB.call' hb2); have c0 := HB.c0; have c1 := HB.c1; clear hb2))
   all_goals (
    go_wp2_with fail
    refine (S5.out _).mono ?_; rintro e w2 ⟨rfl, hb2⟩; have HB := (show KeyW w H M w2 by first | exact HB.call hb2 | exact HB.call' hb2); have c0 := HB.c0; have c1 := HB.c1; clear hb2
    go_wp2_with fail
    go_ret
    exact ⟨by rw [E.out]; first | done | rfl, ((Below.refl _ _).alloc (Nat.le_refl _) _).trans (HB.b.mono (Nat.le_succ _))⟩)
 · have e := DN.out hf
   subst e
   go_enter Tryz.func33, Tryz.ntmps33
   go_wp2_with fail
   have HB : KeyW w H M (w.alloc (.cells #[.string H, .string M] 24)) := ⟨Below.refl _ _⟩
   have c0 := HB.c0
   have c1 := HB.c1
   go_region_held3 (fun W' => W'.cell? ⟨w.heap.size, 0, none⟩ = some (.string H) ∧ W'.cell? ⟨w.heap.size, 1, none⟩ = some (.string M)) (first | exact ⟨c0, c1⟩ | exact ⟨HB.drew.c0, HB.drew.c1⟩ | exact ⟨(HB.alloc _).c0, (HB.alloc _).c1⟩ | go_keep) (first | (go_at_call 39; refine (S1.out _ _ (by omega) (by omega)).mono ?_; rintro e w2 ⟨rfl, hb2⟩; have HB := (show KeyW w H M w2 by first | exact HB.call hb2 | exact HB.call' hb2); have c0 := HB.c0; have c1 := HB.c1; clear hb2) | (go_at_call 59; refine (S3.out _).mono ?_; rintro e w2 ⟨rfl, hb2⟩; have HB := (show KeyW w H M w2 by first | exact HB.call hb2 | exact HB.call' hb2); have c0 := HB.c0; have c1 := HB.c1; clear hb2) | (go_at_call 58; refine (S4.out _).mono ?_; rintro e w2 ⟨rfl, hb2⟩; have HB := (show KeyW w H M w2 by first | exact HB.call hb2 | exact HB.call' hb2); have c0 := HB.c0; have c1 := HB.c1; clear hb2))
   all_goals (
    go_wp2_with fail
    refine (S5.out _).mono ?_; rintro e w2 ⟨rfl, hb2⟩; have HB := (show KeyW w H M w2 by first | exact HB.call hb2 | exact HB.call' hb2); have c0 := HB.c0; have c1 := HB.c1; clear hb2
    go_wp2_with fail
    go_ret
    exact ⟨by rw [E.out]; first | done | rfl, ((Below.refl _ _).alloc (Nat.le_refl _) _).trans (HB.b.mono (Nat.le_succ _))⟩)
end Go.Proofs.YtconcnndghmdfaaGreatDoor

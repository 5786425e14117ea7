/- The draw of a token: l06Token (written by mkdrawtok.py). -/
import Derived.Test.YtdoodkabmeojmaaDrawMat
import Derived.Test.YtdoodkabmeojmaaSrcE
import Derived.Test.YtdoodkabmeojmaaTokC
namespace Go.Proofs.Ytdoodkabmeojmaa
open Go.RowKit
theorem grown_new_set {w w1 : World} {g z i : Nat} (h : w.grownBy w1 (some g)) (hz : w.heap.size ≤ z) (v : Value) : w.grownBy (w1.setCell ⟨z, i, none⟩ v) (some g) :=
  ⟨h.os, h.tape, h.output, by have := h.size; simpa [World.setCell] using this, fun k hk hr => by
    rw [Below.heap_setCell _ _ _ _ (by show k ≠ z; omega)]; exact h.block k hk hr⟩
/-- A token that is being drawn: the source, the result's block, the token's block. -/
structure TokS (T Ts B : Nat) (w : World) (g : Nat) (a : Option Addr) (len cap z0 z1 : Nat) (x : Tok) (wx : World) : Prop where
  src : Src Ts B wx g a len cap
  grown : w.grownBy wx (some g)
  old : wx.heap[z0]? = some (.cells #[.int .i64 0, .int .i64 0, .int .i64 0] T (0, 0))
  tok : wx.heap[z1]? = some (.cells #[.int .i64 x.b, .int .i64 x.m, .int .i64 x.f] T (0, 0))
  lt : g < w.heap.size
  hz0 : w.heap.size ≤ z0
  hz1 : z0 < z1
  hB : B ≤ w.heap.size
theorem blk_lt {w : World} {z : Nat} {o : Obj} (h : w.heap[z]? = some o) : z < w.heap.size := (Array.getElem?_eq_some_iff.1 h).1
theorem TokS.call {T Ts B : Nat} {w : World} {g : Nat} {a : Option Addr} {len cap z0 z1 : Nat} {x : Tok} {wx wy : World} (h : TokS T Ts B w g a len cap z0 z1 x wx) (hs : Src Ts B wy g a len cap) (hg : wx.grownBy wy (some g)) : TokS T Ts B w g a len cap z0 z1 x wy :=
  ⟨hs, grownBy_trans h.grown hg, (hg.block z0 (blk_lt h.old) (fun e => by have := h.lt; have := h.hz0; have := Option.some.inj e; omega)).trans h.old, (hg.block z1 (blk_lt h.tok) (fun e => by have := h.lt; have := h.hz0; have := h.hz1; have := Option.some.inj e; omega)).trans h.tok, h.lt, h.hz0, h.hz1, h.hB⟩
theorem TokS.alloc {T Ts B : Nat} {w : World} {g : Nat} {a : Option Addr} {len cap z0 z1 : Nat} {x : Tok} {wx : World} (h : TokS T Ts B w g a len cap z0 z1 x wx) (o : Obj) : TokS T Ts B w g a len cap z0 z1 x (wx.alloc o) :=
  ⟨h.src.kept (grownBy_alloc (World.grownBy.refl wx none) o) (fun k hk => by cases hk) (Nat.le_trans h.hB h.grown.size), grownBy_alloc h.grown o, (Below.heap_alloc _ _ _ (blk_lt h.old)).trans h.old, (Below.heap_alloc _ _ _ (blk_lt h.tok)).trans h.tok, h.lt, h.hz0, h.hz1, h.hB⟩
theorem TokS.set {T Ts B : Nat} {w : World} {g : Nat} {a : Option Addr} {len cap z0 z1 : Nat} {x : Tok} {wx : World} (h : TokS T Ts B w g a len cap z0 z1 x wx) (y : Int) :
    TokS T Ts B w g a len cap z0 z1 ⟨y, x.m, x.f⟩ (wx.setCell ⟨z1, 0, none⟩ (.int .i64 y)) ∧ TokS T Ts B w g a len cap z0 z1 ⟨x.b, y, x.f⟩ (wx.setCell ⟨z1, 1, none⟩ (.int .i64 y)) ∧ TokS T Ts B w g a len cap z0 z1 ⟨x.b, x.m, y⟩ (wx.setCell ⟨z1, 2, none⟩ (.int .i64 y)) := by
  have hl := h.lt
  have h0 := h.hz0
  have h1 := h.hz1
  have hs : ∀ i, Src Ts B (wx.setCell ⟨z1, i, none⟩ (.int .i64 y)) g a len cap := fun i => h.src.kept (grownBy_set (i := i) (World.grownBy.refl wx (some z1)) _) (fun k hk => by cases hk; exact ⟨by have := h.hB; omega, by omega⟩) (Nat.le_trans h.hB h.grown.size)
  have ho : ∀ i, (wx.setCell ⟨z1, i, none⟩ (.int .i64 y)).heap[z0]? = some (.cells #[.int .i64 0, .int .i64 0, .int .i64 0] T (0, 0)) := fun i => (Below.heap_setCell _ _ _ _ (by show z0 ≠ z1; omega)).trans h.old
  refine ⟨⟨hs 0, grown_new_set h.grown (by omega) _, ho 0, ?_, hl, h0, h1, h.hB⟩, ⟨hs 1, grown_new_set h.grown (by omega) _, ho 1, ?_, hl, h0, h1, h.hB⟩, ⟨hs 2, grown_new_set h.grown (by omega) _, ho 2, ?_, hl, h0, h1, h.hB⟩⟩
  · rw [heap_setCell_same wx z1 0 _ T _ h.tok]; rfl
  · rw [heap_setCell_same wx z1 1 _ T _ h.tok]; rfl
  · rw [heap_setCell_same wx z1 2 _ T _ h.tok]; rfl
theorem tri_of {w : World} {g T : Nat} {x0 x1 x2 : Value} (h : w.heap[g]? = some (.cells #[x0, x1, x2] T (0, 0))) :
    (w.cell? ⟨g, 0, none⟩ = some x0 ∧ w.cell? ⟨g, 1, none⟩ = some x1 ∧ w.cell? ⟨g, 2, none⟩ = some x2) ∧ (∀ o, w.frozen? ⟨g, o, none⟩ = false) := by
  refine ⟨⟨?_, ?_, ?_⟩, fun o => ?_⟩
  · simp [World.cell?, h]
  · simp [World.cell?, h]
  · simp [World.cell?, h]
  · simp [World.frozen?, h]
theorem ar_five (y : Int) (k : Nat) (hk : k < 5) : ∃ x : Int, (#[.int .i64 2, .int .i64 3, .int .i64 66, .int .i64 67, .int .i64 y] : Array Value)[k]? = some (.int .i64 x) := by
  match k, hk with
  | 0, _ => exact ⟨2, rfl⟩
  | 1, _ => exact ⟨3, rfl⟩
  | 2, _ => exact ⟨66, rfl⟩
  | 3, _ => exact ⟨67, rfl⟩
  | 4, _ => exact ⟨y, rfl⟩
theorem ar_four (y : Int) (k : Nat) (hk : k < 4) : ∃ x : Int, (#[.int .i64 0, .int .i64 1024, .int .i64 1025, .int .i64 y] : Array Value)[k]? = some (.int .i64 x) := by
  match k, hk with
  | 0, _ => exact ⟨0, rfl⟩
  | 1, _ => exact ⟨1024, rfl⟩
  | 2, _ => exact ⟨1025, rfl⟩
  | 3, _ => exact ⟨y, rfl⟩
theorem ar_three (k : Nat) (hk : k < 3) : ∃ x : Int, (#[.int .i64 (-1), .int .i64 255, .int .i64 256] : Array Value)[k]? = some (.int .i64 x) := by
  match k, hk with
  | 0, _ => exact ⟨-1, rfl⟩
  | 1, _ => exact ⟨255, rfl⟩
  | 2, _ => exact ⟨256, rfl⟩
theorem tok_end {P : Program} {fn : Func} {T z0 : Nat} {p : Tmp} {d : TypeDesc} (h : fn.results = #[.cell p T]) (tmps : Array Value) (wx : World) (b m f : Int) (hp : tmps.getD p undef = .pointer (some ⟨z0, 0, none⟩)) (hold : wx.heap[z0]? = some (.cells #[.int .i64 0, .int .i64 0, .int .i64 0] T (0, 0)))
    (hu : P.underlying T = some d) (hd : (match d with | .struct _ | .array _ _ => true | _ => false) = true) (hi : (P.info? T).map (·.size) = some 3) :
    (results fn tmps).run P (((wx.setCell ⟨z0, 0, none⟩ (.int .i64 b)).setCell ⟨z0, 1, none⟩ (.int .i64 m)).setCell ⟨z0, 2, none⟩ (.int .i64 f)) = .ok (.agg #[.int .i64 b, .int .i64 m, .int .i64 f]) (((wx.setCell ⟨z0, 0, none⟩ (.int .i64 b)).setCell ⟨z0, 1, none⟩ (.int .i64 m)).setCell ⟨z0, 2, none⟩ (.int .i64 f)) := by
  have h1 := heap_setCell_same wx z0 0 _ T (.int .i64 b) hold
  have h2 := heap_setCell_same _ z0 1 _ T (.int .i64 m) h1
  have h3 := heap_setCell_same _ z0 2 _ T (.int .i64 f) h2
  exact results_cell_row h tmps _ z0 T #[.int .i64 b, .int .i64 m, .int .i64 f] (0, 0) d hp h3 hu hd hi
set_option maxRecDepth 100000 in
set_option maxHeartbeats 1600000 in
theorem src_token (B : Nat) (w : World) (g : Nat) (a : Option Addr) (len cap : Nat) (hs : Src 84 B w g a len cap) (hB : B ≤ w.heap.size) :
    Calls Try.prog 54 #[.pointer (some ⟨g, 0, none⟩)] w fun e w' => ∃ x : Tok, e = .returned (.agg #[.int .i64 x.b, .int .i64 x.m, .int .i64 x.f]) ∧ Src 84 B w' g a len cap ∧ w.grownBy w' (some g) := by
  have hgl := hs.lt
  have S1 := hide (hs.kept (grownBy_alloc (World.grownBy.refl w none) (.cells #[.int .i64 0, .int .i64 0, .int .i64 0] 40)) (fun k hk => by cases hk) hB)
  have G1 := hide (grownBy_alloc (World.grownBy.refl w (some g)) (.cells #[.int .i64 0, .int .i64 0, .int .i64 0] 40))
  have O1 := hide (heap_alloc_new w (.cells #[.int .i64 0, .int .i64 0, .int .i64 0] 40))
  clear hs
  go_enter Try.func54, Try.ntmps54
  go_wp2_with fail
  generalize w.alloc (.cells #[.int .i64 0, .int .i64 0, .int .i64 0] 40) = W1 at *
  refine (src_n _ _ _ a len cap 256 (by omega) S1.out).mono ?_
  rintro e w2 ⟨y, rfl, y0, y1, hs2, hg2⟩
  have K2 := hide (show TokS 40 84 B w g a len cap w.heap.size w2.heap.size ⟨y, 0, 0⟩ (w2.alloc (.cells #[.int .i64 y, .int .i64 0, .int .i64 0] 40)) from
    have hG := grownBy_trans G1.out hg2
    have hO := (hg2.block w.heap.size (blk_lt O1.out) (fun e => by have := Option.some.inj e; omega)).trans O1.out
    ⟨hs2.kept (grownBy_alloc (World.grownBy.refl w2 none) _) (fun k hk => by cases hk) (Nat.le_trans hB hG.size), grownBy_alloc hG _, (Below.heap_alloc _ _ _ (blk_lt hO)).trans hO, heap_alloc_new w2 _, hgl, Nat.le_refl _, blk_lt hO, hB⟩)
  obtain ⟨z0, hz0⟩ : ∃ z, z = w.heap.size := ⟨_, rfl⟩
  clear hs2 hg2 S1 G1 O1 y1
  go_wp2_with fail
  generalize w2.alloc (.cells #[.int .i64 y, .int .i64 0, .int .i64 0] 40) = W2 at *
  generalize w2.heap.size = z1 at *
  rw [← hz0] at K2 ⊢
  clear hz0
  refine (src_one _ _ _ a len cap 2 (by omega) K2.out.src).mono ?_
  rintro e w3 ⟨r, rfl, hs3, hg3⟩
  have K3 := hide (K2.out.call hs3 hg3)
  clear K2 hs3 hg3
  cases r with
  | false =>
    have K4 := K3
    clear K3
    go_wp2_with fail
    refine (src_one _ _ _ a len cap 20 (by omega) K4.out.src).mono ?_
    rintro e w5 ⟨r5, rfl, hs5, hg5⟩
    have K5 := hide (K4.out.call hs5 hg5)
    clear K4 hs5 hg5
    cases r5 with
    | false =>
      obtain ⟨⟨e0, e1, e2⟩, ef⟩ := tri_of K5.out.tok
      obtain ⟨⟨o0, o1, o2⟩, of_⟩ := tri_of K5.out.old
      have q0 := of_ 0
      have q1 := of_ 1
      have q2 := of_ 2
      simp only at e0 e1 e2
      clear ef of_
      go_wp2_with fail
      have hz := K5.out
      exact bodyPost_ret (tok_end Try.results54 _ _ _ _ _ rfl hz.old Try.underlying40 rfl (by kernel_rfl)) rfl ⟨⟨y, 0, 0⟩, rfl, ((hz.src.kept (grownBy_set (i := 0) (World.grownBy.refl _ (some z0)) _) (fun k hk => by cases hk; exact ⟨by have := hz.hB; have := hz.hz0; omega, by have := hz.lt; have := hz.hz0; omega⟩) (Nat.le_trans hz.hB hz.grown.size)).kept (grownBy_set (i := 1) (World.grownBy.refl _ (some z0)) _) (fun k hk => by cases hk; exact ⟨by have := hz.hB; have := hz.hz0; omega, by have := hz.lt; have := hz.hz0; omega⟩) (by simpa [World.setCell] using Nat.le_trans hz.hB hz.grown.size)).kept (grownBy_set (i := 2) (World.grownBy.refl _ (some z0)) _) (fun k hk => by cases hk; exact ⟨by have := hz.hB; have := hz.hz0; omega, by have := hz.lt; have := hz.hz0; omega⟩) (by simpa [World.setCell] using Nat.le_trans hz.hB hz.grown.size), grown_new_set (grown_new_set (grown_new_set hz.grown hz.hz0 _) hz.hz0 _) hz.hz0 _⟩
    | true =>
      go_wp2_with fail
      refine (src_n _ _ _ a len cap 3 (by omega) K5.out.src).mono ?_
      rintro e w6 ⟨c, rfl, c0, c1, hs6, hg6⟩
      have K6 := hide (K5.out.call hs6 hg6)
      clear K5 hs6 hg6 c1
      by_cases hc0 : c = 0
      · have d0 : (c == 0) = true := by rw [hc0]; rfl
        clear hc0
        go_wp2_with fail
        refine (src_edge _ _ _ a len cap K6.out.src).mono ?_
        rintro e w7 ⟨ye, rfl, _, _, hs7, hg7⟩
        have K7 := hide ((K6.out.call hs7 hg7).alloc (.cells #[.int .i64 2, .int .i64 3, .int .i64 66, .int .i64 67, .int .i64 ye] 2))
        have HH := hide (heap_alloc_new w7 (.cells #[.int .i64 2, .int .i64 3, .int .i64 66, .int .i64 67, .int .i64 ye] 2))
        have hzg : w7.heap.size ≠ g := by have := (K6.out.call hs7 hg7).grown.size; omega
        clear K6 hs7 hg7
        go_wp2_with fail
        generalize w7.alloc (.cells #[.int .i64 2, .int .i64 3, .int .i64 66, .int .i64 67, .int .i64 ye] 2) = W7 at *
        generalize w7.heap.size = zz at *
        refine (src_n _ _ _ a len cap 5 (by omega) K7.out.src).mono ?_
        rintro e w8 ⟨u, rfl, u0, u1, hs8, hg8⟩
        obtain ⟨kk, rfl⟩ := Int.eq_ofNat_of_zero_le u0
        have hkk : kk < 5 := by omega
        have hkk' : (kk : Int) < 5 := by omega
        obtain ⟨xv, hxv⟩ := ar_five ye kk hkk
        have cz : w8.cell? ⟨zz, kk, none⟩ = some (.int .i64 xv) := by
          refine hg8.cell (a := ⟨zz, kk, none⟩) ?_ (fun e => hzg (Option.some.inj e))
          rw [cell_of_row _ _ _ _ _ _ HH.out]; exact hxv
        have K8 := hide (K7.out.call hs8 hg8)
        obtain ⟨⟨e0, e1, e2⟩, ef⟩ := tri_of K8.out.tok
        have ef1 := ef 1
        have K9 := hide ((K8.out.set xv).2.1)
        clear hs8 hg8 hxv u1 HH ef K7
        obtain ⟨⟨g0, g1, g2⟩, gf⟩ := tri_of K9.out.tok
        obtain ⟨⟨o0, o1, o2⟩, of_⟩ := tri_of K9.out.old
        have q0 := of_ 0
        have q1 := of_ 1
        have q2 := of_ 2
        simp only at e0 e1 e2 g0 g1 g2
        clear gf of_
        go_wp2_with fail
        have hz := K9.out
        exact bodyPost_ret (tok_end Try.results54 _ _ _ _ _ rfl hz.old Try.underlying40 rfl (by kernel_rfl)) rfl ⟨⟨y, xv, 0⟩, rfl, ((hz.src.kept (grownBy_set (i := 0) (World.grownBy.refl _ (some z0)) _) (fun k hk => by cases hk; exact ⟨by have := hz.hB; have := hz.hz0; omega, by have := hz.lt; have := hz.hz0; omega⟩) (Nat.le_trans hz.hB hz.grown.size)).kept (grownBy_set (i := 1) (World.grownBy.refl _ (some z0)) _) (fun k hk => by cases hk; exact ⟨by have := hz.hB; have := hz.hz0; omega, by have := hz.lt; have := hz.hz0; omega⟩) (by simpa [World.setCell] using Nat.le_trans hz.hB hz.grown.size)).kept (grownBy_set (i := 2) (World.grownBy.refl _ (some z0)) _) (fun k hk => by cases hk; exact ⟨by have := hz.hB; have := hz.hz0; omega, by have := hz.lt; have := hz.hz0; omega⟩) (by simpa [World.setCell] using Nat.le_trans hz.hB hz.grown.size), grown_new_set (grown_new_set (grown_new_set hz.grown hz.hz0 _) hz.hz0 _) hz.hz0 _⟩
      · have d0 : (c == 0) = false := by rw [beq_eq_false_iff_ne]; exact hc0
        by_cases hc1 : c = 1
        · have d1 : (c == 1) = true := by rw [hc1]; rfl
          clear hc0 hc1
          go_wp2_with fail
          refine (src_edge _ _ _ a len cap K6.out.src).mono ?_
          rintro e w7 ⟨ye, rfl, _, _, hs7, hg7⟩
          have K7 := hide ((K6.out.call hs7 hg7).alloc (.cells #[.int .i64 0, .int .i64 1024, .int .i64 1025, .int .i64 ye] 2))
          have HH := hide (heap_alloc_new w7 (.cells #[.int .i64 0, .int .i64 1024, .int .i64 1025, .int .i64 ye] 2))
          have hzg : w7.heap.size ≠ g := by have := (K6.out.call hs7 hg7).grown.size; omega
          clear K6 hs7 hg7
          go_wp2_with fail
          generalize w7.alloc (.cells #[.int .i64 0, .int .i64 1024, .int .i64 1025, .int .i64 ye] 2) = W7 at *
          generalize w7.heap.size = zz at *
          refine (src_n _ _ _ a len cap 4 (by omega) K7.out.src).mono ?_
          rintro e w8 ⟨u, rfl, u0, u1, hs8, hg8⟩
          obtain ⟨kk, rfl⟩ := Int.eq_ofNat_of_zero_le u0
          have hkk : kk < 4 := by omega
          have hkk' : (kk : Int) < 4 := by omega
          obtain ⟨xv, hxv⟩ := ar_four ye kk hkk
          have cz : w8.cell? ⟨zz, kk, none⟩ = some (.int .i64 xv) := by
            refine hg8.cell (a := ⟨zz, kk, none⟩) ?_ (fun e => hzg (Option.some.inj e))
            rw [cell_of_row _ _ _ _ _ _ HH.out]; exact hxv
          have K8 := hide (K7.out.call hs8 hg8)
          obtain ⟨⟨e0, e1, e2⟩, ef⟩ := tri_of K8.out.tok
          have ef2 := ef 2
          have K9 := hide ((K8.out.set xv).2.2)
          clear hs8 hg8 hxv u1 HH ef K7
          obtain ⟨⟨g0, g1, g2⟩, gf⟩ := tri_of K9.out.tok
          obtain ⟨⟨o0, o1, o2⟩, of_⟩ := tri_of K9.out.old
          have q0 := of_ 0
          have q1 := of_ 1
          have q2 := of_ 2
          simp only at e0 e1 e2 g0 g1 g2
          clear gf of_
          go_wp2_with fail
          have hz := K9.out
          exact bodyPost_ret (tok_end Try.results54 _ _ _ _ _ rfl hz.old Try.underlying40 rfl (by kernel_rfl)) rfl ⟨⟨y, 0, xv⟩, rfl, ((hz.src.kept (grownBy_set (i := 0) (World.grownBy.refl _ (some z0)) _) (fun k hk => by cases hk; exact ⟨by have := hz.hB; have := hz.hz0; omega, by have := hz.lt; have := hz.hz0; omega⟩) (Nat.le_trans hz.hB hz.grown.size)).kept (grownBy_set (i := 1) (World.grownBy.refl _ (some z0)) _) (fun k hk => by cases hk; exact ⟨by have := hz.hB; have := hz.hz0; omega, by have := hz.lt; have := hz.hz0; omega⟩) (by simpa [World.setCell] using Nat.le_trans hz.hB hz.grown.size)).kept (grownBy_set (i := 2) (World.grownBy.refl _ (some z0)) _) (fun k hk => by cases hk; exact ⟨by have := hz.hB; have := hz.hz0; omega, by have := hz.lt; have := hz.hz0; omega⟩) (by simpa [World.setCell] using Nat.le_trans hz.hB hz.grown.size), grown_new_set (grown_new_set (grown_new_set hz.grown hz.hz0 _) hz.hz0 _) hz.hz0 _⟩
        · have d1 : (c == 1) = false := by rw [beq_eq_false_iff_ne]; exact hc1
          clear hc0 hc1
          have K7 := hide (K6.out.alloc (.cells #[.int .i64 (-1), .int .i64 255, .int .i64 256] 2))
          have HH := hide (heap_alloc_new w6 (.cells #[.int .i64 (-1), .int .i64 255, .int .i64 256] 2))
          have hzg : w6.heap.size ≠ g := by have := K6.out.grown.size; omega
          clear K6
          go_wp2_with fail
          generalize w6.alloc (.cells #[.int .i64 (-1), .int .i64 255, .int .i64 256] 2) = W7 at *
          generalize w6.heap.size = zz at *
          refine (src_n _ _ _ a len cap 3 (by omega) K7.out.src).mono ?_
          rintro e w8 ⟨u, rfl, u0, u1, hs8, hg8⟩
          obtain ⟨kk, rfl⟩ := Int.eq_ofNat_of_zero_le u0
          have hkk : kk < 3 := by omega
          have hkk' : (kk : Int) < 3 := by omega
          obtain ⟨xv, hxv⟩ := ar_three kk hkk
          have cz : w8.cell? ⟨zz, kk, none⟩ = some (.int .i64 xv) := by
            refine hg8.cell (a := ⟨zz, kk, none⟩) ?_ (fun e => hzg (Option.some.inj e))
            rw [cell_of_row _ _ _ _ _ _ HH.out]; exact hxv
          have K8 := hide (K7.out.call hs8 hg8)
          obtain ⟨⟨e0, e1, e2⟩, ef⟩ := tri_of K8.out.tok
          have ef0 := ef 0
          have K9 := hide ((K8.out.set xv).1)
          clear hs8 hg8 hxv u1 HH ef K7
          obtain ⟨⟨g0, g1, g2⟩, gf⟩ := tri_of K9.out.tok
          obtain ⟨⟨o0, o1, o2⟩, of_⟩ := tri_of K9.out.old
          have q0 := of_ 0
          have q1 := of_ 1
          have q2 := of_ 2
          simp only at e0 e1 e2 g0 g1 g2
          clear gf of_
          go_wp2_with fail
          have hz := K9.out
          exact bodyPost_ret (tok_end Try.results54 _ _ _ _ _ rfl hz.old Try.underlying40 rfl (by kernel_rfl)) rfl ⟨⟨xv, 0, 0⟩, rfl, ((hz.src.kept (grownBy_set (i := 0) (World.grownBy.refl _ (some z0)) _) (fun k hk => by cases hk; exact ⟨by have := hz.hB; have := hz.hz0; omega, by have := hz.lt; have := hz.hz0; omega⟩) (Nat.le_trans hz.hB hz.grown.size)).kept (grownBy_set (i := 1) (World.grownBy.refl _ (some z0)) _) (fun k hk => by cases hk; exact ⟨by have := hz.hB; have := hz.hz0; omega, by have := hz.lt; have := hz.hz0; omega⟩) (by simpa [World.setCell] using Nat.le_trans hz.hB hz.grown.size)).kept (grownBy_set (i := 2) (World.grownBy.refl _ (some z0)) _) (fun k hk => by cases hk; exact ⟨by have := hz.hB; have := hz.hz0; omega, by have := hz.lt; have := hz.hz0; omega⟩) (by simpa [World.setCell] using Nat.le_trans hz.hB hz.grown.size), grown_new_set (grown_new_set (grown_new_set hz.grown hz.hz0 _) hz.hz0 _) hz.hz0 _⟩
  | true =>
    go_wp2_with fail
    refine (src_n _ _ _ a len cap 5 (by omega) K3.out.src).mono ?_
    rintro e wa ⟨p, rfl, p0, p1, hsa, hga⟩
    have Ka := hide (K3.out.call hsa hga)
    have hp5 : p < 5 := by omega
    clear K3 hsa hga p1
    go_wp2_with fail
    refine (src_n _ _ _ a len cap 4 (by omega) Ka.out.src).mono ?_
    rintro e wb ⟨q, rfl, qq0, qq1, hsb, hgb⟩
    have Kb := hide (Ka.out.call hsb hgb)
    have hq4 : q < 4 := by omega
    obtain ⟨⟨c0, c1, c2⟩, cf⟩ := tri_of Kb.out.tok
    have cf0 := cf 0
    have cf1 := cf 1
    have cf2 := cf 2
    have K4 := hide ((((Kb.out.set 0).1.set (3 + p)).2.1.set (1 + q)).2.2)
    simp only at c0 c1 c2 K4
    clear Ka hsb hgb qq1 cf Kb
    go_wp2_with fail
    clear c0 c1 c2 cf0 cf1 cf2
    generalize ((wb.setCell ⟨z1, 0, none⟩ (.int .i64 0)).setCell ⟨z1, 1, none⟩ (.int .i64 (3 + p))).setCell ⟨z1, 2, none⟩ (.int .i64 (1 + q)) = W4 at *
    refine (src_one _ _ _ a len cap 20 (by omega) K4.out.src).mono ?_
    rintro e w5 ⟨r5, rfl, hs5, hg5⟩
    have K5 := hide (K4.out.call hs5 hg5)
    clear K4 hs5 hg5
    cases r5 with
    | false =>
      obtain ⟨⟨e0, e1, e2⟩, ef⟩ := tri_of K5.out.tok
      obtain ⟨⟨o0, o1, o2⟩, of_⟩ := tri_of K5.out.old
      have q0 := of_ 0
      have q1 := of_ 1
      have q2 := of_ 2
      simp only at e0 e1 e2
      clear ef of_
      go_wp2_with fail
      have hz := K5.out
      exact bodyPost_ret (tok_end Try.results54 _ _ _ _ _ rfl hz.old Try.underlying40 rfl (by kernel_rfl)) rfl ⟨⟨0, (3 + p), (1 + q)⟩, rfl, ((hz.src.kept (grownBy_set (i := 0) (World.grownBy.refl _ (some z0)) _) (fun k hk => by cases hk; exact ⟨by have := hz.hB; have := hz.hz0; omega, by have := hz.lt; have := hz.hz0; omega⟩) (Nat.le_trans hz.hB hz.grown.size)).kept (grownBy_set (i := 1) (World.grownBy.refl _ (some z0)) _) (fun k hk => by cases hk; exact ⟨by have := hz.hB; have := hz.hz0; omega, by have := hz.lt; have := hz.hz0; omega⟩) (by simpa [World.setCell] using Nat.le_trans hz.hB hz.grown.size)).kept (grownBy_set (i := 2) (World.grownBy.refl _ (some z0)) _) (fun k hk => by cases hk; exact ⟨by have := hz.hB; have := hz.hz0; omega, by have := hz.lt; have := hz.hz0; omega⟩) (by simpa [World.setCell] using Nat.le_trans hz.hB hz.grown.size), grown_new_set (grown_new_set (grown_new_set hz.grown hz.hz0 _) hz.hz0 _) hz.hz0 _⟩
    | true =>
      go_wp2_with fail
      refine (src_n _ _ _ a len cap 3 (by omega) K5.out.src).mono ?_
      rintro e w6 ⟨c, rfl, c0, c1, hs6, hg6⟩
      have K6 := hide (K5.out.call hs6 hg6)
      clear K5 hs6 hg6 c1
      by_cases hc0 : c = 0
      · have d0 : (c == 0) = true := by rw [hc0]; rfl
        clear hc0
        go_wp2_with fail
        refine (src_edge _ _ _ a len cap K6.out.src).mono ?_
        rintro e w7 ⟨ye, rfl, _, _, hs7, hg7⟩
        have K7 := hide ((K6.out.call hs7 hg7).alloc (.cells #[.int .i64 2, .int .i64 3, .int .i64 66, .int .i64 67, .int .i64 ye] 2))
        have HH := hide (heap_alloc_new w7 (.cells #[.int .i64 2, .int .i64 3, .int .i64 66, .int .i64 67, .int .i64 ye] 2))
        have hzg : w7.heap.size ≠ g := by have := (K6.out.call hs7 hg7).grown.size; omega
        clear K6 hs7 hg7
        go_wp2_with fail
        generalize w7.alloc (.cells #[.int .i64 2, .int .i64 3, .int .i64 66, .int .i64 67, .int .i64 ye] 2) = W7 at *
        generalize w7.heap.size = zz at *
        refine (src_n _ _ _ a len cap 5 (by omega) K7.out.src).mono ?_
        rintro e w8 ⟨u, rfl, u0, u1, hs8, hg8⟩
        obtain ⟨kk, rfl⟩ := Int.eq_ofNat_of_zero_le u0
        have hkk : kk < 5 := by omega
        have hkk' : (kk : Int) < 5 := by omega
        obtain ⟨xv, hxv⟩ := ar_five ye kk hkk
        have cz : w8.cell? ⟨zz, kk, none⟩ = some (.int .i64 xv) := by
          refine hg8.cell (a := ⟨zz, kk, none⟩) ?_ (fun e => hzg (Option.some.inj e))
          rw [cell_of_row _ _ _ _ _ _ HH.out]; exact hxv
        have K8 := hide (K7.out.call hs8 hg8)
        obtain ⟨⟨e0, e1, e2⟩, ef⟩ := tri_of K8.out.tok
        have ef1 := ef 1
        have K9 := hide ((K8.out.set xv).2.1)
        clear hs8 hg8 hxv u1 HH ef K7
        obtain ⟨⟨g0, g1, g2⟩, gf⟩ := tri_of K9.out.tok
        obtain ⟨⟨o0, o1, o2⟩, of_⟩ := tri_of K9.out.old
        have q0 := of_ 0
        have q1 := of_ 1
        have q2 := of_ 2
        simp only at e0 e1 e2 g0 g1 g2
        clear gf of_
        go_wp2_with fail
        have hz := K9.out
        exact bodyPost_ret (tok_end Try.results54 _ _ _ _ _ rfl hz.old Try.underlying40 rfl (by kernel_rfl)) rfl ⟨⟨0, xv, (1 + q)⟩, rfl, ((hz.src.kept (grownBy_set (i := 0) (World.grownBy.refl _ (some z0)) _) (fun k hk => by cases hk; exact ⟨by have := hz.hB; have := hz.hz0; omega, by have := hz.lt; have := hz.hz0; omega⟩) (Nat.le_trans hz.hB hz.grown.size)).kept (grownBy_set (i := 1) (World.grownBy.refl _ (some z0)) _) (fun k hk => by cases hk; exact ⟨by have := hz.hB; have := hz.hz0; omega, by have := hz.lt; have := hz.hz0; omega⟩) (by simpa [World.setCell] using Nat.le_trans hz.hB hz.grown.size)).kept (grownBy_set (i := 2) (World.grownBy.refl _ (some z0)) _) (fun k hk => by cases hk; exact ⟨by have := hz.hB; have := hz.hz0; omega, by have := hz.lt; have := hz.hz0; omega⟩) (by simpa [World.setCell] using Nat.le_trans hz.hB hz.grown.size), grown_new_set (grown_new_set (grown_new_set hz.grown hz.hz0 _) hz.hz0 _) hz.hz0 _⟩
      · have d0 : (c == 0) = false := by rw [beq_eq_false_iff_ne]; exact hc0
        by_cases hc1 : c = 1
        · have d1 : (c == 1) = true := by rw [hc1]; rfl
          clear hc0 hc1
          go_wp2_with fail
          refine (src_edge _ _ _ a len cap K6.out.src).mono ?_
          rintro e w7 ⟨ye, rfl, _, _, hs7, hg7⟩
          have K7 := hide ((K6.out.call hs7 hg7).alloc (.cells #[.int .i64 0, .int .i64 1024, .int .i64 1025, .int .i64 ye] 2))
          have HH := hide (heap_alloc_new w7 (.cells #[.int .i64 0, .int .i64 1024, .int .i64 1025, .int .i64 ye] 2))
          have hzg : w7.heap.size ≠ g := by have := (K6.out.call hs7 hg7).grown.size; omega
          clear K6 hs7 hg7
          go_wp2_with fail
          generalize w7.alloc (.cells #[.int .i64 0, .int .i64 1024, .int .i64 1025, .int .i64 ye] 2) = W7 at *
          generalize w7.heap.size = zz at *
          refine (src_n _ _ _ a len cap 4 (by omega) K7.out.src).mono ?_
          rintro e w8 ⟨u, rfl, u0, u1, hs8, hg8⟩
          obtain ⟨kk, rfl⟩ := Int.eq_ofNat_of_zero_le u0
          have hkk : kk < 4 := by omega
          have hkk' : (kk : Int) < 4 := by omega
          obtain ⟨xv, hxv⟩ := ar_four ye kk hkk
          have cz : w8.cell? ⟨zz, kk, none⟩ = some (.int .i64 xv) := by
            refine hg8.cell (a := ⟨zz, kk, none⟩) ?_ (fun e => hzg (Option.some.inj e))
            rw [cell_of_row _ _ _ _ _ _ HH.out]; exact hxv
          have K8 := hide (K7.out.call hs8 hg8)
          obtain ⟨⟨e0, e1, e2⟩, ef⟩ := tri_of K8.out.tok
          have ef2 := ef 2
          have K9 := hide ((K8.out.set xv).2.2)
          clear hs8 hg8 hxv u1 HH ef K7
          obtain ⟨⟨g0, g1, g2⟩, gf⟩ := tri_of K9.out.tok
          obtain ⟨⟨o0, o1, o2⟩, of_⟩ := tri_of K9.out.old
          have q0 := of_ 0
          have q1 := of_ 1
          have q2 := of_ 2
          simp only at e0 e1 e2 g0 g1 g2
          clear gf of_
          go_wp2_with fail
          have hz := K9.out
          exact bodyPost_ret (tok_end Try.results54 _ _ _ _ _ rfl hz.old Try.underlying40 rfl (by kernel_rfl)) rfl ⟨⟨0, (3 + p), xv⟩, rfl, ((hz.src.kept (grownBy_set (i := 0) (World.grownBy.refl _ (some z0)) _) (fun k hk => by cases hk; exact ⟨by have := hz.hB; have := hz.hz0; omega, by have := hz.lt; have := hz.hz0; omega⟩) (Nat.le_trans hz.hB hz.grown.size)).kept (grownBy_set (i := 1) (World.grownBy.refl _ (some z0)) _) (fun k hk => by cases hk; exact ⟨by have := hz.hB; have := hz.hz0; omega, by have := hz.lt; have := hz.hz0; omega⟩) (by simpa [World.setCell] using Nat.le_trans hz.hB hz.grown.size)).kept (grownBy_set (i := 2) (World.grownBy.refl _ (some z0)) _) (fun k hk => by cases hk; exact ⟨by have := hz.hB; have := hz.hz0; omega, by have := hz.lt; have := hz.hz0; omega⟩) (by simpa [World.setCell] using Nat.le_trans hz.hB hz.grown.size), grown_new_set (grown_new_set (grown_new_set hz.grown hz.hz0 _) hz.hz0 _) hz.hz0 _⟩
        · have d1 : (c == 1) = false := by rw [beq_eq_false_iff_ne]; exact hc1
          clear hc0 hc1
          have K7 := hide (K6.out.alloc (.cells #[.int .i64 (-1), .int .i64 255, .int .i64 256] 2))
          have HH := hide (heap_alloc_new w6 (.cells #[.int .i64 (-1), .int .i64 255, .int .i64 256] 2))
          have hzg : w6.heap.size ≠ g := by have := K6.out.grown.size; omega
          clear K6
          go_wp2_with fail
          generalize w6.alloc (.cells #[.int .i64 (-1), .int .i64 255, .int .i64 256] 2) = W7 at *
          generalize w6.heap.size = zz at *
          refine (src_n _ _ _ a len cap 3 (by omega) K7.out.src).mono ?_
          rintro e w8 ⟨u, rfl, u0, u1, hs8, hg8⟩
          obtain ⟨kk, rfl⟩ := Int.eq_ofNat_of_zero_le u0
          have hkk : kk < 3 := by omega
          have hkk' : (kk : Int) < 3 := by omega
          obtain ⟨xv, hxv⟩ := ar_three kk hkk
          have cz : w8.cell? ⟨zz, kk, none⟩ = some (.int .i64 xv) := by
            refine hg8.cell (a := ⟨zz, kk, none⟩) ?_ (fun e => hzg (Option.some.inj e))
            rw [cell_of_row _ _ _ _ _ _ HH.out]; exact hxv
          have K8 := hide (K7.out.call hs8 hg8)
          obtain ⟨⟨e0, e1, e2⟩, ef⟩ := tri_of K8.out.tok
          have ef0 := ef 0
          have K9 := hide ((K8.out.set xv).1)
          clear hs8 hg8 hxv u1 HH ef K7
          obtain ⟨⟨g0, g1, g2⟩, gf⟩ := tri_of K9.out.tok
          obtain ⟨⟨o0, o1, o2⟩, of_⟩ := tri_of K9.out.old
          have q0 := of_ 0
          have q1 := of_ 1
          have q2 := of_ 2
          simp only at e0 e1 e2 g0 g1 g2
          clear gf of_
          go_wp2_with fail
          have hz := K9.out
          exact bodyPost_ret (tok_end Try.results54 _ _ _ _ _ rfl hz.old Try.underlying40 rfl (by kernel_rfl)) rfl ⟨⟨xv, (3 + p), (1 + q)⟩, rfl, ((hz.src.kept (grownBy_set (i := 0) (World.grownBy.refl _ (some z0)) _) (fun k hk => by cases hk; exact ⟨by have := hz.hB; have := hz.hz0; omega, by have := hz.lt; have := hz.hz0; omega⟩) (Nat.le_trans hz.hB hz.grown.size)).kept (grownBy_set (i := 1) (World.grownBy.refl _ (some z0)) _) (fun k hk => by cases hk; exact ⟨by have := hz.hB; have := hz.hz0; omega, by have := hz.lt; have := hz.hz0; omega⟩) (by simpa [World.setCell] using Nat.le_trans hz.hB hz.grown.size)).kept (grownBy_set (i := 2) (World.grownBy.refl _ (some z0)) _) (fun k hk => by cases hk; exact ⟨by have := hz.hB; have := hz.hz0; omega, by have := hz.lt; have := hz.hz0; omega⟩) (by simpa [World.setCell] using Nat.le_trans hz.hB hz.grown.size), grown_new_set (grown_new_set (grown_new_set hz.grown hz.hz0 _) hz.hz0 _) hz.hz0 _⟩
end Go.Proofs.Ytdoodkabmeojmaa

/- The walk over the model's RangeDecode. -/
import Derived.Test.YtdoodkabmeojmaaRangeD
import Derived.Test.YtdoodkabmeojmaaRangeE
import Derived.OwnWalk
import Derived.Deep.AppendLies
namespace Go.Proofs.Ytdoodkabmeojmaa
open Go.RowKit
theorem drun_snoc (tb : Nat → Nat) : ∀ l s x c, drun tb s x (l ++ [c]) = (step (drun tb s x l).1 c (dbit (drun tb s x l).1 (drun tb s x l).2 c), dx tb (drun tb s x l).1 (drun tb s x l).2 c)
  | [], _, _, _ => rfl
  | _ :: l, _, _, c => drun_snoc tb l _ _ c
theorem dbits_snoc (tb : Nat → Nat) : ∀ l s x c, dbits tb s x (l ++ [c]) = dbits tb s x l ++ [dbit (drun tb s x l).1 (drun tb s x l).2 c]
  | [], _, _, _ => rfl
  | d :: l, s, x, c => by
    show dbit s x d :: dbits tb (step s d (dbit s x d)) (dx tb s x d) (l ++ [c]) = _
    rw [dbits_snoc tb l]; rfl
theorem drun_ok (tb : Nat → Nat) : ∀ l s x, RcOk s → x < 18446744073709551616 → RcOk (drun tb s x l).1 ∧ (drun tb s x l).2 < 18446744073709551616 ∧ (drun tb s x l).1.n ≤ s.n + l.length
  | [], _, _, h, hx => ⟨h, hx, Nat.le_refl _⟩
  | c :: l, s, x, h, hx => by
    have h1 : dx tb s x c < 18446744073709551616 := by
      unfold dx
      split
      · exact Nat.mod_lt _ (by decide)
      · unfold dx1; split <;> omega
    obtain ⟨a, b, d⟩ := drun_ok tb l (step s c (dbit s x c)) (dx tb s x c) (step_ok _ _ _ h) h1
    have h2 : (step s c (dbit s x c)).n ≤ s.n + 1 := by have := norm_n_le (part1 s c (dbit s x c)); rw [part1_n] at this; exact this
    refine ⟨a, b, ?_⟩
    show (drun tb (step s c (dbit s x c)) (dx tb s x c) l).1.n ≤ s.n + (l.length + 1)
    omega
/-- Contexts in memory. -/
def CtxAt (w : World) (B : Nat) (v : Value) (l : List Int) : Prop :=
  ∃ a cap, v = .slice a l.length cap ∧ l.length ≤ cap ∧ (l = [] ∨ ∃ r o, a = some ⟨r, o, none⟩ ∧ r < B ∧ ∀ j x, l[j]? = some x → w.cell? ⟨r, o + j, none⟩ = some (.int .i64 x))
theorem CtxAt.below {w w' : World} {B : Nat} {v : Value} {l : List Int} (h : CtxAt w B v l) (hb : Below B w w') : CtxAt w' B v l := by
  obtain ⟨a, cap, e, hc, h⟩ := h
  refine ⟨a, cap, e, hc, ?_⟩
  rcases h with h | ⟨r, o, e2, hr, hcell⟩
  · exact .inl h
  · exact .inr ⟨r, o, e2, hr, fun j x hx => (hb.cell (p := ⟨r, o + j, none⟩) hr).trans (hcell j x hx)⟩
theorem CtxAt.wide {w : World} {B C : Nat} {v : Value} {l : List Int} (h : CtxAt w B v l) (hb : B ≤ C) : CtxAt w C v l := by
  obtain ⟨a, cap, e, hc, h⟩ := h
  refine ⟨a, cap, e, hc, ?_⟩
  rcases h with h | ⟨r, o, e2, hr, hcell⟩
  · exact .inl h
  · exact .inr ⟨r, o, e2, Nat.lt_of_lt_of_le hr hb, hcell⟩
def ctxN (l : List Int) : List Nat := l.map Int.toNat
/-- RangeDecode. -/
def decS (t : ByteArray) (l : List Int) : List Bool := if t.size ≤ 20000 ∧ l.length ≤ 400 ∧ ∀ x ∈ l, ctxOk x = true then dbits (tbN t) rc0 (pv (tbN t) 4) (ctxN l) else []
theorem Try.infoBool : (Try.prog.info? 4).map (fun i => (i.zero, i.size, i.bytes)) = some (some (.bool false), 1, 1) := by kernel_rfl
set_option maxRecDepth 100000 in
set_option maxHeartbeats 1600000 in
theorem spec_rangeDecode (t : ByteArray) (v : Value) (l : List Int) (w : World) (hts : t.size ≤ 9223372036854775807) (hlen : l.length ≤ 9223372036854775807) (hb : CtxAt w w.heap.size v l) :
    Calls Try.prog 13 #[.string t, v] w fun e w' => ∃ o, e = .returned o ∧ w'.ownsRow w.heap.size 4 1 o (decS t l).length ((decS t l).map Value.bool) ∧ Below w.heap.size w w' := by
  obtain ⟨a, cap, rfl, hcap, hbits⟩ := hb
  obtain ⟨i0, hi, hz0, hz1, hz2⟩ := info_parts Try.infoBool
  have HB := hide hbits
  clear hbits
  have hown0 := hide (show (w.alloc (.cells #[] 4)).ownsRow w.heap.size 4 1 (.slice (some ⟨w.heap.size, 0, none⟩) 0 0) 0 [] by
    have h := World.ownsRow_made (e := 4) (size := 1) (base := w.heap.size) w #[] 0 (Nat.le_refl _) (by decide) (by simp)
    simpa using h)
  have hb0 := hide ((Below.refl w.heap.size w).alloc (Nat.le_refl _) (.cells #[] 4))
  by_cases h20 : t.size ≤ 20000
  · have h20' : ¬ (20000 : Int) < (t.size : Int) := by omega
    by_cases h400 : l.length ≤ 400
    · have h4' : ¬ (400 : Int) < (l.length : Int) := by omega
      go_enter Try.func13, Try.ntmps13
      go_wp2_with fail
      have HC0 := hide (show ∀ r o, r < w.heap.size → (w.alloc (.cells #[] 4)).cell? ⟨r, o, none⟩ = w.cell? ⟨r, o, none⟩ from fun r o hr => hb0.out.cell (p := ⟨r, o, none⟩) hr)
      have hsz0 : (w.alloc (.cells #[] 4)).heap.size = w.heap.size + 1 := by simp
      have HS0 := hide hsz0
      generalize w.alloc (.cells #[] 4) = W0 at *
      clear hsz0
      go_loop [6] (fun i => ∃ k : Nat, k ≤ l.length ∧ i = .int .i64 k ∧ Hid (∀ j x, j < k → l[j]? = some x → ctxOk x = true)) (fun i => l.length - (intOf i).toNat)
      case atStart => exact ⟨0, by omega, rfl, fun j x hj _ => by omega⟩
      case round =>
        obtain ⟨k, hk, rfl, hok⟩ := hrel
        by_cases hlt : k < l.length
        · have hlt' : (k : Int) < (l.length : Int) := by omega
          obtain ⟨x, hx⟩ : ∃ x, l[k]? = some x := ⟨_, List.getElem?_eq_getElem hlt⟩
          obtain h0 | ⟨r, o, rfl, hr, hcells⟩ := HB.out
          · rw [h0] at hlt; simp at hlt
          have x1 := (HC0.out r (o + k) hr).trans (hcells k x hx)
          have HX := hide hx
          clear hcells hx
          cases hcx : ctxOk x with
          | true =>
            have hd := hide (show true = decide (0 ≤ x ∧ x < 1600) from hcx.symm)
            have hok' := hide (show ∀ j y, j < k + 1 → l[j]? = some y → ctxOk y = true from fun j y hj hy => by
              by_cases e : j = k
              · subst e; rw [HX.out] at hy; rw [← Option.some.inj hy]; exact hcx
              · exact hok.out j y (by omega) hy)
            clear hcx hok HX
            go_wp2_with (first | (go_at_call 37; refine (spec_context x true _ hd.out).mono ?_; rintro e w1 ⟨rfl, rfl⟩))
            go_round
            case rel => exact ⟨k + 1, by omega, by go_num, hok'⟩
            case measure => simp [intOf]; omega
          | false =>
            have hd := hide (show false = decide (0 ≤ x ∧ x < 1600) from hcx.symm)
            have hE := hide (show decS t l = [] from if_neg (fun h => by
              have := h.2.2 x (List.mem_of_getElem? HX.out)
              rw [hcx] at this; cases this))
            clear hcx hok HX
            go_wp2_with (first | (go_at_call 37; refine (spec_context x false _ hd.out).mono ?_; rintro e w1 ⟨rfl, rfl⟩))
            go_ret
            exact ⟨_, rfl, by rw [hE.out]; exact hown0.out, hb0.out⟩
        · have hlt' : ¬ (k : Int) < (l.length : Int) := by omega
          have hall : ∀ x ∈ l, ctxOk x = true := fun x hx => by
            obtain ⟨j, hj⟩ := List.getElem?_of_mem hx
            exact hok.out j x (by have := (List.getElem?_eq_some_iff.1 hj).1; omega) hj
          have hE := hide (show decS t l = dbits (tbN t) rc0 (pv (tbN t) 4) (ctxN l) from if_pos ⟨h20, h400, hall⟩)
          have HALL := hide hall
          clear hall hok
          go_wp2_with fail
          refine (spec_decode0 t W0 hts).mono ?_
          rintro e w1 ⟨g, rfl, hg1, hdec, hb1⟩
          have hown1 := hide (hown0.out.kept (below_grownBy hb1) (Classical.em _))
          have B1 := hide (hb0.out.trans (hb1.mono hb0.out.size))
          have HD := hide hdec
          obtain ⟨gc, hgc⟩ : ∃ x, x = W0.heap.size := ⟨_, rfl⟩
          rw [← hgc] at HD hg1
          have hgc1 : w.heap.size < gc := by have := HS0.out; omega
          clear hdec hb1 hown0 hb0 HC0 hgc HS0
          go_wp2_with fail
          go_loopw [5, 8] (fun ov i wx => ∃ k : Nat, k ≤ l.length ∧ i = .int .i64 k ∧ wx.ownsRow w.heap.size 4 1 ov k ((dbits (tbN t) rc0 (pv (tbN t) 4) (ctxN (l.take k))).map Value.bool) ∧ ov.ownBlock ≠ some g ∧ ov.ownBlock ≠ some gc ∧ Hid (Dec wx g gc t (drun (tbN t) rc0 (pv (tbN t) 4) (ctxN (l.take k))).1 (drun (tbN t) rc0 (pv (tbN t) 4) (ctxN (l.take k))).2) ∧ Hid (Below w.heap.size w wx)) (fun _ i _ => l.length - (intOf i).toNat)
          case atStart => exact ⟨0, by omega, rfl, hown1.out, by simp [Value.ownBlock]; omega, by simp [Value.ownBlock]; omega, HD, B1⟩
          case round =>
            clear hown1 HD B1
            obtain ⟨k, hk, rfl, hown, hn1, hn2, hdec, hbel⟩ := hrel
            by_cases hlt : k < l.length
            · have hlt' : (k : Int) < (l.length : Int) := by omega
              obtain ⟨x, hx⟩ : ∃ x, l[k]? = some x := ⟨_, List.getElem?_eq_getElem hlt⟩
              obtain h0 | ⟨r, o, rfl, hr, hcells⟩ := HB.out
              · rw [h0] at hlt; simp at hlt
              have x1 := (hbel.out.cell (p := ⟨r, o + k, none⟩) hr).trans (hcells k x hx)
              have hxo := of_decide_eq_true (HALL.out x (List.mem_of_getElem? hx))
              obtain ⟨c, rfl⟩ := Int.eq_ofNat_of_zero_le hxo.1
              have htk : ctxN (l.take (k + 1)) = ctxN (l.take k) ++ [c] := by
                unfold ctxN
                rw [List.take_succ_eq_append_getElem hlt, List.map_append]
                rw [List.getElem?_eq_getElem hlt] at hx
                rw [Option.some.inj hx]; rfl
              have hst := hide (drun_snoc (tbN t) (ctxN (l.take k)) rc0 (pv (tbN t) 4) c)
              have hbt := hide (dbits_snoc (tbN t) (ctxN (l.take k)) rc0 (pv (tbN t) 4) c)
              rw [← htk] at hst hbt
              have hp4 : pv (tbN t) 4 < 18446744073709551616 := Nat.lt_of_lt_of_le (pv_lt (tbN t) (tbN_lt t) 4) (by decide)
              obtain ⟨q1, q2, q3⟩ := drun_ok (tbN t) (ctxN (l.take k)) rc0 (pv (tbN t) 4) rc0_ok hp4
              have q4 : (drun (tbN t) rc0 (pv (tbN t) 4) (ctxN (l.take k))).1.n ≤ 90000 := by
                have h2 : (ctxN (l.take k)).length ≤ k := by unfold ctxN; rw [List.length_map]; exact List.length_take_le _ _
                have h3 : rc0.n = 0 := rfl
                omega
              have SD := hide (spec_dbit g gc c _ t _ wr q1 q4 (by omega) q2 hts hdec.out (by omega))
              obtain ⟨bit, hbit⟩ : ∃ b, b = dbit (drun (tbN t) rc0 (pv (tbN t) 4) (ctxN (l.take k))).1 (drun (tbN t) rc0 (pv (tbN t) 4) (ctxN (l.take k))).2 c := ⟨_, rfl⟩
              rw [← hbit] at SD hst hbt
              have hdlt := hdec.out.1.lt
              have hdlt2 := hdec.out.2.lt
              clear hx hcells q1 q2 q3 q4 hp4 htk hbit
              generalize hD : drun (tbN t) rc0 (pv (tbN t) 4) (ctxN (l.take k)) = D at *
              clear hD hdec
              go_wp2_with fail
              refine SD.out.mono ?_
              rintro e w2 ⟨rfl, hd2, htwo⟩
              have hown2 := htwo.own hown hn1 hn2
              have hb2 := hide (hbel.out.trans (htwo.below (by omega) (by omega) hbel.out.size))
              have hd3 := hide hd2
              have hz2s := htwo.size
              have hbs2 := hb2.out.size
              clear SD hd2 htwo hown hbel x1
              go_wp2_with (at_builtin; refine wpList_append_lies _ rfl _ _ 29 rfl w.heap.size 4 i0 (.bool false) 1 1 Try.underlying29 hi hz0 hz1 hz2 rfl (by omega) u5 k _ rfl (hown2.alloc _) ⟨w2.heap.size, 0, none⟩ 1 1 [.bool bit] rfl rfl (one_cell w2 _ _) (by intro u hu; simp at hu; subst hu; rfl) (by omega) (by unfold maxLen; omega) (by omega) (by simp; omega) (w2.heap.size + 1) (by simp) ?_)
              intro g' cap' w3 hown' hg' hat' hlt3
              have R1 : w3.ownsRow w.heap.size 4 1 (.slice (some ⟨g', 0, none⟩) (k + 1) cap') (k + 1) ((dbits (tbN t) rc0 (pv (tbN t) 4) (ctxN (l.take (k + 1)))).map Value.bool) := by
                rw [hbt.out, List.map_append]; exact hown'
              have R2 : (Value.slice (some ⟨g', 0, none⟩) (k + 1) cap').ownBlock ≠ some g ∧ (Value.slice (some ⟨g', 0, none⟩) (k + 1) cap').ownBlock ≠ some gc := by
                refine ⟨fun e => ?_, fun e => ?_⟩
                · have e1 : g' = g := by simpa [Value.ownBlock] using e
                  subst e1
                  rcases hat' with h | h
                  · exact hn1 h
                  · omega
                · have e1 : g' = gc := by simpa [Value.ownBlock] using e
                  subst e1
                  rcases hat' with h | h
                  · exact hn2 h
                  · omega
              have R4 := hide (show Dec w3 g gc t (drun (tbN t) rc0 (pv (tbN t) 4) (ctxN (l.take (k + 1)))).1 (drun (tbN t) rc0 (pv (tbN t) 4) (ctxN (l.take (k + 1)))).2 by
                rw [hst.out]
                exact ⟨(hd3.out.1.alloc _).of_block (hg'.block g (by simp; omega) (fun e => hn1 e.symm)), (hd3.out.2.alloc _).of_block (hg'.block gc (by simp; omega) (fun e => hn2 e.symm))⟩)
              have R5 := hide ((hb2.out.alloc hbs2 _).grown hg' (by simp; omega) (fun x hx => (hown2.lt x hx).1))
              clear hown' hg' hat' hlt3 hown2 hb2 hd3 hst hbt
              go_wp2_with fail
              go_roundw
              case rel => exact ⟨k + 1, by omega, by go_num, R1, R2.1, R2.2, R4, R5⟩
              case measure => simp [intOf]; omega
            · have hlt' : ¬ (k : Int) < (l.length : Int) := by omega
              rw [List.take_of_length_le (by omega)] at hown
              have ek : k = (decS t l).length := by rw [hE.out, dbits_len]; simp [ctxN]; omega
              rw [← hE.out] at hown
              rw [ek] at hown
              have HO := hide hown
              clear ek hown
              go_wp2_with fail
              go_ret
              exact ⟨_, rfl, HO.out, hbel.out⟩
    · have h4' : (400 : Int) < (l.length : Int) := by omega
      have hE : decS t l = [] := if_neg (fun h => h400 h.2.1)
      rw [hE]
      clear hE HB
      go_enter Try.func13, Try.ntmps13
      go_wp2_with fail
      go_ret
      exact ⟨_, rfl, hown0.out, hb0.out⟩
  · have h20' : (20000 : Int) < (t.size : Int) := by omega
    have hE : decS t l = [] := if_neg (fun h => h20 h.1)
    rw [hE]
    clear hE HB
    go_enter Try.func13, Try.ntmps13
    go_wp2_with fail
    go_ret
    exact ⟨_, rfl, hown0.out, hb0.out⟩
end Go.Proofs.Ytdoodkabmeojmaa

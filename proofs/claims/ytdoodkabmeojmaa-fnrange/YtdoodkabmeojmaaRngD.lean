/- The walk over the program's RangeDecode. -/
import Derived.Test.YtdoodkabmeojmaaRngG
import Derived.Test.YtdoodkabmeojmaaRngF
namespace Go.Proofs.Ytdoodkabmeojmaa
open Go.RowKit
theorem nil_own {w : World} {base e size : Nat} : w.ownsRow base e size (.slice none 0 0) 0 [] := ⟨by simp, .inl ⟨rfl, rfl⟩⟩
set_option maxRecDepth 100000 in
set_option maxHeartbeats 1600000 in
theorem imp_rangeDecode (t : ByteArray) (v : Value) (l : List Int) (w : World) (hts : t.size ≤ 9223372036854775807) (hlen : l.length ≤ 9223372036854775807) (hb : CtxAt w w.heap.size v l) :
    Calls Try.prog 11 #[.string t, v] w fun e w' => ∃ o, e = .returned o ∧ w'.ownsRow w.heap.size 4 1 o (decS t l).length ((decS t l).map Value.bool) ∧ Below w.heap.size w w' := by
  have hb0 := hide hb
  obtain ⟨a, cap, rfl, hcap, hbits⟩ := hb
  obtain ⟨i0, hi, hz0, hz1, hz2⟩ := info_parts Try.infoBool
  have HB := hide hbits
  clear hbits
  have hcap' : (l.length : Int) ≤ (cap : Int) := by omega
  by_cases h20 : t.size ≤ 20000
  · have h20' : ¬ (20000 : Int) < (t.size : Int) := by omega
    have h20d : decide ((20000 : Int) < (t.size : Int)) = false := decide_eq_false h20'
    by_cases h400 : l.length ≤ 400
    · have h4' : ¬ (400 : Int) < (l.length : Int) := by omega
      have h4d : decide ((400 : Int) < (l.length : Int)) = false := decide_eq_false h4'
      by_cases hall : ctxsOk l
      · have hE := hide (show decS t l = dbits (tbN t) rc0 (pv (tbN t) 4) (ctxN l) from if_pos ⟨h20, h400, hall⟩)
        have SC := hide (imp_containsCtx _ l true w hlen hb0.out ⟨fun _ => hall, fun _ => rfl⟩)
        have HALL := hide hall
        clear hall
        go_enter Try.func11, Try.ntmps11
        go_wp2_with fail
        refine SC.out.mono ?_
        rintro e w1 ⟨rfl, rfl⟩
        clear SC
        go_wp2_with fail
        refine (imp_newDecoder t _ hts).mono ?_
        rintro e w1 ⟨g, rfl, hg1, hdec, hb1⟩
        have HD := hide hdec
        have B1 := hide hb1
        clear hdec hb1
        go_wp2_with fail
        go_loopw [6, 25] (fun ov i wx => ∃ k : Nat, k ≤ l.length ∧ i = .int .i64 k ∧ wx.ownsRow w.heap.size 4 1 ov k ((dbits (tbN t) rc0 (pv (tbN t) 4) (ctxN (l.take k))).map Value.bool) ∧ ov.ownBlock ≠ some g ∧ Hid (DecP wx g t (drun (tbN t) rc0 (pv (tbN t) 4) (ctxN (l.take k))).1 (drun (tbN t) rc0 (pv (tbN t) 4) (ctxN (l.take k))).2) ∧ Hid (Below w.heap.size w wx)) (fun _ i _ => l.length - (intOf i).toNat)
        case atStart => exact ⟨0, by omega, rfl, nil_own, by simp [Value.ownBlock], HD, B1⟩
        case round =>
          clear HD B1
          obtain ⟨k, hk, rfl, hown, hn1, hdec, hbel⟩ := hrel
          by_cases hlt : k < l.length
          · have hlt' : (k : Int) < (l.length : Int) := by omega
            obtain ⟨x, hx⟩ : ∃ x, l[k]? = some x := ⟨_, List.getElem?_eq_getElem hlt⟩
            obtain h0 | ⟨r, o, rfl, hr, hcells⟩ := HB.out
            · rw [h0] at hlt; simp at hlt
            have x1 := (hbel.out.cell (p := ⟨r, o + k, none⟩) hr).trans (hcells k x hx)
            have hxo := of_decide_eq_true (HALL.out x (List.mem_of_getElem? hx))
            obtain ⟨c, rfl⟩ := Int.eq_ofNat_of_zero_le hxo.1
            have htk : ctxN (l.take (k + 1)) = ctxN (l.take k) ++ [c] := by
              unfold ctxN
              rw [List.take_succ_eq_append_getElem hlt, List.map_append]
              rw [List.getElem?_eq_getElem hlt] at hx
              rw [Option.some.inj hx]; rfl
            have hst := hide (drun_snoc (tbN t) (ctxN (l.take k)) rc0 (pv (tbN t) 4) c)
            have hbt := hide (dbits_snoc (tbN t) (ctxN (l.take k)) rc0 (pv (tbN t) 4) c)
            rw [← htk] at hst hbt
            have hp4 : pv (tbN t) 4 < 18446744073709551616 := Nat.lt_of_lt_of_le (pv_lt (tbN t) (tbN_lt t) 4) (by decide)
            obtain ⟨q1, q2, q3⟩ := drun_ok (tbN t) (ctxN (l.take k)) rc0 (pv (tbN t) 4) rc0_ok hp4
            have SD := hide (imp_get g c _ t _ wr q1 (by omega) q2 hts hdec.out)
            obtain ⟨bit, hbit⟩ : ∃ b, b = dbit (drun (tbN t) rc0 (pv (tbN t) 4) (ctxN (l.take k))).1 (drun (tbN t) rc0 (pv (tbN t) 4) (ctxN (l.take k))).2 c := ⟨_, rfl⟩
            rw [← hbit] at SD hst hbt
            have hdlt : g < wr.heap.size := World.rowIs.lt hdec.out
            clear hx hcells q1 q2 q3 hp4 htk hbit
            generalize hD : drun (tbN t) rc0 (pv (tbN t) 4) (ctxN (l.take k)) = D at *
            clear hD hdec
            go_wp2_with fail
            refine SD.out.mono ?_
            rintro e w2 ⟨rfl, hd2, hg2⟩
            have hown2 := hown.kept hg2 (.inr hn1)
            have hb2 := hide (hbel.out.trans (grownBy_below hg2 hg1 hbel.out.size))
            have hd3 := hide hd2
            have hz2s := hg2.size
            have hbs2 := hb2.out.size
            clear SD hd2 hg2 hown hbel x1
            go_wp2_with (at_builtin; refine wpList_append_lies _ rfl _ _ 29 rfl w.heap.size 4 i0 (.bool false) 1 1 Try.underlying29 hi hz0 hz1 hz2 rfl (by omega) u6 k _ rfl (hown2.alloc _) ⟨w2.heap.size, 0, none⟩ 1 1 [.bool bit] rfl rfl (one_cell w2 _ _) (by intro u hu; simp at hu; subst hu; rfl) (by omega) (by unfold maxLen; omega) (by omega) (by simp; omega) (w2.heap.size + 1) (by simp) ?_)
            intro g' cap' w3 hown' hg' hat' hlt3
            have R1 : w3.ownsRow w.heap.size 4 1 (.slice (some ⟨g', 0, none⟩) (k + 1) cap') (k + 1) ((dbits (tbN t) rc0 (pv (tbN t) 4) (ctxN (l.take (k + 1)))).map Value.bool) := by
              rw [hbt.out, List.map_append]; exact hown'
            have R2 : (Value.slice (some ⟨g', 0, none⟩) (k + 1) cap').ownBlock ≠ some g := by
              intro e
              have e1 : g' = g := by simpa [Value.ownBlock] using e
              subst e1
              rcases hat' with h | h
              · exact hn1 h
              · omega
            have R4 := hide (show DecP w3 g t (drun (tbN t) rc0 (pv (tbN t) 4) (ctxN (l.take (k + 1)))).1 (drun (tbN t) rc0 (pv (tbN t) 4) (ctxN (l.take (k + 1)))).2 by
              rw [hst.out]
              exact (World.rowIs.alloc hd3.out _).of_block (hg'.block g (by simp; omega) (fun e => hn1 e.symm)))
            have R5 := hide ((hb2.out.alloc hbs2 _).grown hg' (by simp; omega) (fun x hx => (hown2.lt x hx).1))
            clear hown' hg' hat' hlt3 hown2 hb2 hd3 hst hbt
            go_wp2_with fail
            go_roundw
            case rel => exact ⟨k + 1, by omega, by go_num, R1, R2, R4, R5⟩
            case measure => simp [intOf]; omega
          · have hlt' : ¬ (k : Int) < (l.length : Int) := by omega
            rw [List.take_of_length_le (by omega)] at hown
            have ek : k = (decS t l).length := by rw [hE.out, dbits_len]; simp [ctxN]; omega
            rw [← hE.out] at hown
            rw [ek] at hown
            have HO := hide hown
            clear ek hown
            go_wp2_with fail
            go_ret
            exact ⟨_, rfl, HO.out, hbel.out⟩
      · have hE := hide (show decS t l = [] from if_neg (fun h => hall h.2.2))
        have SC := hide (imp_containsCtx _ l false w hlen hb0.out ⟨fun h => (by cases h), fun h => absurd h hall⟩)
        clear hall
        go_enter Try.func11, Try.ntmps11
        go_wp2_with fail
        refine SC.out.mono ?_
        rintro e w1 ⟨rfl, rfl⟩
        clear SC
        go_wp2_with fail
        go_ret
        exact ⟨_, rfl, by rw [hE.out]; exact nil_own, Below.refl _ _⟩
    · have h4' : (400 : Int) < (l.length : Int) := by omega
      have h4d : decide ((400 : Int) < (l.length : Int)) = true := decide_eq_true h4'
      have hE := hide (show decS t l = [] from if_neg (fun h => h400 h.2.1))
      go_enter Try.func11, Try.ntmps11
      go_wp2_with fail
      go_ret
      exact ⟨_, rfl, by rw [hE.out]; exact nil_own, Below.refl _ _⟩
  · have h20' : (20000 : Int) < (t.size : Int) := by omega
    have h20d : decide ((20000 : Int) < (t.size : Int)) = true := decide_eq_true h20'
    have hE := hide (show decS t l = [] from if_neg (fun h => h20 h.1))
    go_enter Try.func11, Try.ntmps11
    go_wp2_with fail
    go_ret
    exact ⟨_, rfl, by rw [hE.out]; exact nil_own, Below.refl _ _⟩
end Go.Proofs.Ytdoodkabmeojmaa

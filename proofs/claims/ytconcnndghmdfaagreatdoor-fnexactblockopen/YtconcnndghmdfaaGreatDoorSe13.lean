/- The walk over the model's bit. -/
import Derived.Test.YtconcnndghmdfaaGreatDoorSe12
import Derived.Test.YtconcnndghmdfaaGreatDoorSe9
namespace Go.Proofs.YtconcnndghmdfaaGreatDoor
open Go.RowKit
theorem Tryz.infoB8r : (Tryz.prog.info? 5).map (fun i => (i.zero, i.size, i.bytes)) = some (some (.int .u8 0), 1, 1) := by kernel_rfl
set_option maxRecDepth 100000 in
set_option maxHeartbeats 3200000 in
theorem spec_bit (base g gc c : Nat) (one : Bool) (s : RC) (w : World) (hok : RcOk s) (hn : s.n ≤ 90000) (hc : c < 1600) (hcod : Cod w base g gc s) (hbg : base ≤ g) (hbc : base ≤ gc) (hne : g ≠ gc) :
    Calls Tryz.prog 125 #[.pointer (some ⟨g, 0, none⟩), .int .i64 (c : Int), .bool one] w fun e w' => e = .returned (.tuple #[]) ∧ Cod w' base g gc (step s c one) ∧ Below base w w' := by
  obtain ⟨i0, hi0, hz0, hz1, hz2⟩ := info_parts Tryz.infoB8r
  obtain ⟨P, hP⟩ : ∃ P, P = part1 s c one := ⟨_, rfl⟩
  have hpo := part1_ok s c one hok
  rw [← hP] at hpo
  have HPS := hide hP
  have HNOK := hide (norm_ok P hpo.1 hpo.2.1 hpo.2.2.1 (by rw [hpo.2.2.2.2]; exact hpo.2.2.2.1))
  have HPN := hide (show P.n ≤ 100000 by rw [hpo.2.2.2.2]; omega)
  obtain ⟨b1, b2⟩ := bound_in s c hok
  have hlo := hok.lo
  have hhi := hok.hi
  have hch := hok.ch c
  have hfit := hide hok.fit
  obtain ⟨ov, hr, ho, hcr, hd1, hd2⟩ := hcod
  obtain ⟨z, hz⟩ : ∃ z, z = s.size := ⟨_, rfl⟩
  obtain ⟨l, hl⟩ : ∃ l, l = s.low % 4294967296 := ⟨_, rfl⟩
  obtain ⟨p, hp⟩ : ∃ p, p = s.ch c := ⟨_, rfl⟩
  obtain ⟨q, hq⟩ : ∃ q, q = z / 2048 := ⟨_, rfl⟩
  obtain ⟨b, hb⟩ : ∃ b, b = bound s c := ⟨_, rfl⟩
  have hbq : q * p = b := by rw [hq, hp, hz, hb]; rfl
  rw [← hb, ← hz] at b2
  rw [← hb] at b1
  rw [← hz] at hlo hhi
  rw [← hp] at hch
  rw [← hl, ← hz] at hr
  have c1 := cod_low hr
  have c2 := cod_size hr
  have c3 := cod_ch hr
  have cc : w.cell? ⟨gc, c, none⟩ = some (.int .u64 (p : Nat)) := by rw [hcr.cell (i := c) hc, u64V, hp]
  have fc := hcr.frozen c
  have f1 := hr.frozen 1
  have f2 := hr.frozen 2
  have hc' : (c : Int) < 1600 := by omega
  have k1 : (z : Int) / 2048 = (q : Int) := by omega
  have k2 : IntKind.u64.wrap ((q : Int) * (p : Int)) = (b : Int) := by
    have e : (q : Int) * (p : Int) = (b : Int) := by rw [← hbq]; simp
    rw [e, IntKind.wrap_u64]; omega
  have hl32 : l < 4294967296 := by omega
  cases one
  · obtain ⟨p2, hp2⟩ : ∃ x, x = p + (2048 - p) / 32 := ⟨_, rfl⟩
    obtain ⟨pd, hpd⟩ : ∃ x, x = 2048 - p := ⟨_, rfl⟩
    obtain ⟨pe, hpe⟩ : ∃ x, x = (2048 - p) / 32 := ⟨_, rfl⟩
    have k3 : 2048 - (p : Int) = (pd : Int) := by omega
    have k4 : (pd : Int) / 32 = (pe : Int) := by omega
    have k5 : (p : Int) + (pe : Int) = (p2 : Int) := by omega
    have HPP := hide (show P = ⟨b, setCh s.ch c p2, s.low, s.n⟩ by rw [hP, hp2, hb, hp]; rfl)
    have HL := hide hl
    have hl2 : ¬ (4294967296 : Int) ≤ (l : Int) := by omega
    have HR := hide (And.intro hr (And.intro ho hcr))
    clear hP hz hl hp hq hb hbq hp2 hpd hpe hr ho hcr hpo
    go_enter Tryz.func125, Tryz.ntmps125
    go_wp2_with fail
    obtain ⟨hr, ho, hcr⟩ := HR.out
    have HCOD := hide (show Cod ((w.setCell ⟨g, 2, none⟩ (.int .u64 (b : Int))).setCell ⟨gc, c, none⟩ (.int .u64 (p2 : Int))) base g gc P by
      rw [HPP.out]
      refine ⟨ov, ?_, (ho.far hd1).far hd2, set_u64 (hcr.setOther (by simp; omega) _), hd1, hd2⟩
      show World.rowIs _ g _ 4 (codV ov (s.low % 4294967296) b gc)
      rw [← HL.out]
      exact ((cod_set hr).2.2 b).setOther (by simp; omega) _)
    have HBEL := hide (((Below.refl base w).setCell (p := ⟨g, 2, none⟩) hbg (.int .u64 (b : Int))).setCell (p := ⟨gc, c, none⟩) hbc (.int .u64 (p2 : Int)))
    generalize (w.setCell ⟨g, 2, none⟩ (.int .u64 (b : Int))).setCell ⟨gc, c, none⟩ (.int .u64 (p2 : Int)) = W1 at *
    clear HR hr ho hcr c1 c2 c3 cc fc f1 f2 k1 k2 k3 k4 k5 hl2 hfit hd1 hd2 hl32 HL HPP
    go_loopw [81] (fun _ wx => ∃ t : RC, Hid (t = P ∨ (t = norm P ∧ P.size < 16777216)) ∧ Cod wx base g gc t ∧ Below base w wx) (fun _ wx => if sizeW wx g < 16777216 then 1 else 0)
    case atStart => exact ⟨P, .inl rfl, HCOD.out, HBEL.out⟩
    case round =>
      clear HCOD HBEL
      obtain ⟨t, ht, hcod, hbel⟩ := hrel
      obtain ⟨ov, hr, ho, hc, hd1, hd2⟩ := hcod
      have c2 := cod_size hr
      have hsw := hide (sizeW_of c2)
      by_cases hsz : t.size < 16777216
      · have htP : t = P := by
          rcases ht.out with h | ⟨h, h2⟩
          · exact h
          · rw [h] at hsz; exact absurd hsz (by have := HNOK.out.lo; omega)
        obtain ⟨l, hl⟩ : ∃ l, l = t.low % 4294967296 := ⟨_, rfl⟩
        obtain ⟨z, hz⟩ : ∃ z, z = t.size := ⟨_, rfl⟩
        obtain ⟨n, hn⟩ : ∃ n, n = t.n := ⟨_, rfl⟩
        rw [← hl, ← hz] at hr
        rw [← hn] at ho
        rw [← hz] at c2 hsw hsz
        have c0 := cod_out hr
        have c1 := cod_low hr
        have f0 := hr.frozen 0
        have hl32 : l < 4294967296 := by omega
        obtain ⟨b, hb⟩ : ∃ b : UInt8, b = UInt8.ofNat (l / 16777216) := ⟨_, rfl⟩
        have hbn : b.toNat = l / 16777216 := by rw [hb, UInt8.toNat_ofNat']; omega
        obtain ⟨y, hy⟩ : ∃ y, y = l / 16777216 := ⟨_, rfl⟩
        have m1 : (l : Int) / 16777216 = (y : Int) := by omega
        have m2 : IntKind.u8.wrap (y : Int) = (y : Int) := by rw [IntKind.wrap_u8]; omega
        have hy8 : (y : Int) ≤ 255 := by omega
        have hsz' : (z : Int) < 16777216 := by omega
        have HT := hide (And.intro htP (And.intro hl (And.intro hz (And.intro hn (And.intro hbn hy)))))
        have hnb := hide (show n ≤ 100000 by rw [hn, htP]; exact HPN.out)
        clear hl hz hn hb hbn hy htP
        go_wp2_with fail
        refine wp_region_held_drew (S := fun w' => w'.cell? ⟨g, 1, none⟩ = some (.int .u64 (l : Nat))) (by kernel_rfl) c1 (fun hHeld => ?_)
        refine takeD (i := 0) (v := .pointer (some ⟨g, 0, none⟩)) (some 86) rfl rfl (by kernel_rfl) (by kernel_rfl) (by kernel_rfl) (fun _ _ _ h => h) (Or.inl ⟨by rfl, fun w hSw => by go_simp⟩) hHeld ?_
        simp only [Act.put, List.setIfInBounds_toArray, List.set_cons_zero, List.set_cons_succ]
        refine takeD (i := 1) (v := .pointer (some ⟨g, 0, none⟩)) (some 87) rfl rfl (by kernel_rfl) (by kernel_rfl) (by kernel_rfl) (fun _ _ _ h => h) (Or.inl ⟨by rfl, fun w hSw => by go_simp⟩) hHeld ?_
        simp only [Act.put, List.setIfInBounds_toArray, List.set_cons_zero, List.set_cons_succ]
        refine takeD (i := 2) (v := .pointer (some ⟨g, 0, none⟩)) (some 88) rfl rfl (by kernel_rfl) (by kernel_rfl) (by kernel_rfl) (fun _ _ _ h => h) (Or.inl ⟨by rfl, fun w hSw => by go_simp⟩) hHeld ?_
        simp only [Act.put, List.setIfInBounds_toArray, List.set_cons_zero, List.set_cons_succ]
        refine takeD (i := 3) (v := .pointer (some ⟨g, 0, none⟩)) (some 89) rfl rfl (by kernel_rfl) (by kernel_rfl) (by kernel_rfl) (fun _ _ _ h => h) (Or.inl ⟨by rfl, fun w hSw => by go_simp⟩) hHeld ?_
        simp only [Act.put, List.setIfInBounds_toArray, List.set_cons_zero, List.set_cons_succ]
        refine takeD (i := 5) (v := .pointer (some ⟨g, 0, none⟩)) (some 91) rfl rfl (by kernel_rfl) (by kernel_rfl) (by kernel_rfl) (fun _ _ _ h => h) (Or.inl ⟨by rfl, fun w hSw => by go_simp⟩) hHeld ?_
        simp only [Act.put, List.setIfInBounds_toArray, List.set_cons_zero, List.set_cons_succ]
        refine takeD (i := 6) (v := .pointer (some ⟨g, 0, none⟩)) (some 92) rfl rfl (by kernel_rfl) (by kernel_rfl) (by kernel_rfl) (fun _ _ _ h => h) (Or.inl ⟨by rfl, fun w hSw => by go_simp⟩) hHeld ?_
        simp only [Act.put, List.setIfInBounds_toArray, List.set_cons_zero, List.set_cons_succ]
        refine takeD (i := 7) (v := .pointer (some ⟨g, 1, none⟩)) (some 93) rfl rfl (by kernel_rfl) (by kernel_rfl) (by kernel_rfl) (fun _ _ _ h => h) (Or.inl ⟨by rfl, fun w hSw => by go_simp⟩) hHeld ?_
        simp only [Act.put, List.setIfInBounds_toArray, List.set_cons_zero, List.set_cons_succ]
        refine takeD (i := 8) (v := .int .u64 (l : Int)) (some 94) rfl rfl (by kernel_rfl) (by kernel_rfl) (by kernel_rfl) (fun _ _ _ h => h) (Or.inl ⟨by rfl, fun w hSw => by go_simp⟩) hHeld ?_
        simp only [Act.put, List.setIfInBounds_toArray, List.set_cons_zero, List.set_cons_succ]
        refine takeD (i := 9) (v := .int .u64 (y : Int)) (some 95) rfl rfl (by kernel_rfl) (by kernel_rfl) (by kernel_rfl) (fun _ _ _ h => h) (Or.inl ⟨by rfl, fun w hSw => by go_simp⟩) hHeld ?_
        simp only [Act.put, List.setIfInBounds_toArray, List.set_cons_zero, List.set_cons_succ]
        refine takeD (i := 10) (v := .int .u8 (y : Int)) (some 96) rfl rfl (by kernel_rfl) (by kernel_rfl) (by kernel_rfl) (fun _ _ _ h => h) (Or.inl ⟨by rfl, fun w hSw => by go_simp⟩) hHeld ?_
        simp only [Act.put, List.setIfInBounds_toArray, List.set_cons_zero, List.set_cons_succ]
        have ra := hr.drew.alloc (.cells #[.int .u8 (y : Int)] 5)
        have ca0 : (wr.drew.alloc (.cells #[.int .u8 (y : Int)] 5)).cell? ⟨g, 0, none⟩ = some ov := cod_out ra
        have ca1 : (wr.drew.alloc (.cells #[.int .u8 (y : Int)] 5)).cell? ⟨g, 1, none⟩ = some (.int .u64 (l : Nat)) := cod_low ra
        have oa := World.ownsRow.alloc (World.ownsRow.drew ho) (.cells #[.int .u8 (y : Int)] 5)
        have hba := hbel.drew.alloc (show base ≤ wr.drew.heap.size by have := hr.lt; exact Nat.le_trans hbg (Nat.le_of_lt this)) (.cells #[.int .u8 (y : Int)] 5)
        have cha := hc.drew.alloc (.cells #[.int .u8 (y : Int)] 5)
        have AA := hide (And.intro oa (And.intro hba cha))
        have hglt := hr.lt
        clear oa hba cha
        refine wpAnyH_ready (rs := [4, 11]) (by kernel_rfl) (by simp) ?_
        refine AllReadyH.cons rfl (fun KK hK => ?_) (AllReadyH.cons rfl (fun KK hK => ?_) AllReadyH.nil)
        · go_simp
          refine hK.out _ _ c1 (fun hHeld => ?_)
          clear hK KK
          refine wpAnyH_ready (rs := [11]) (by kernel_rfl) (by simp) ?_
          refine AllReadyH.cons rfl (fun KK hK => ?_) AllReadyH.nil
          go_simp
          refine hK.out _ _ ca1 (fun hHeld => ?_)
          clear hK KK
          refine wpAnyH_ready (rs := [12]) (by kernel_rfl) (by simp) ?_
          refine AllReadyH.cons rfl (fun KK hK => ?_) AllReadyH.nil
          refine step_append_D _ (some 98) rfl rfl (.tmp 90) (.tmp 97) 22 rfl base 5 i0 (.int .u8 0) 1 1 Tryz.underlying22 hi0 hz0 hz1 hz2 rfl (by omega) ov n _ rfl AA.out.1 ⟨wr.heap.size, 0, none⟩ 1 1 [.int .u8 (y : Int)] rfl rfl (one_cell wr.drew _ _) (one_oneCell .u8 _) (by omega) (by have := hnb.out; unfold maxLen; omega) (by have := hnb.out; omega) (by have := hr.lt; simp; omega) (wr.heap.size + 1) (by simp) ?_
          intro g' cap' w2 hown' hgr' hat' hlt'
          have r2 := ra.of_block (hgr'.block g (by simp; omega) (fun e => hd1 e.symm))
          simp only [Act.put, List.setIfInBounds_toArray, List.set_cons_zero, List.set_cons_succ]
          refine hK.out _ _ (cod_low r2) (fun hHeld => ?_)
          clear hK KK
          refine takeD (i := 13) (v := .pointer (some ⟨g, 0, none⟩)) (some 99) rfl rfl (by kernel_rfl) (by kernel_rfl) (by kernel_rfl) (fun _ _ _ h => h) (Or.inl ⟨by rfl, fun w hSw => by go_simp⟩) hHeld ?_
          simp only [Act.put, List.setIfInBounds_toArray, List.set_cons_zero, List.set_cons_succ]
          refine takeD (i := 14) (v := .pointer (some ⟨g, 0, none⟩)) (some 100) rfl rfl (by kernel_rfl) (by kernel_rfl) (by kernel_rfl) (fun _ _ _ h => h) (Or.inl ⟨by rfl, fun w hSw => by go_simp⟩) hHeld ?_
          simp only [Act.put, List.setIfInBounds_toArray, List.set_cons_zero, List.set_cons_succ]
          have c20 := cod_out r2
          have f20 := r2.frozen 0
          refine wpAnyH_ready (rs := [15]) (by kernel_rfl) (by simp) ?_
          refine AllReadyH.cons rfl (fun KK hK => ?_) AllReadyH.nil
          go_simp
          have r3 := (cod_set r2).1 (.slice (some ⟨g', 0, none⟩) (n + 1) cap')
          refine hK.out _ _ (cod_low r3) (fun hHeld => ?_)
          clear hK KK
          refine wpAnyH_done (by kernel_rfl) ?_ _
          have rc3 := (AA.out.2.2.of_block (hgr'.block gc (by have := AA.out.2.2.lt; exact this) (fun e => hd2 e.symm))).setOther (a := ⟨g, 0, none⟩) (fun e => hne e.symm) (.slice (some ⟨g', 0, none⟩) (n + 1) cap')
          have hg'g : (Value.slice (some ⟨g', 0, none⟩) (n + 1) cap').ownBlock ≠ some g := by
            intro e
            have e1 : g' = g := by simpa [Value.ownBlock] using e
            rcases hat' with h | h
            · exact hd1 (by rw [h, e1])
            · omega
          have hg'c : (Value.slice (some ⟨g', 0, none⟩) (n + 1) cap').ownBlock ≠ some gc := by
            intro e
            have e1 : g' = gc := by simpa [Value.ownBlock] using e
            rcases hat' with h | h
            · exact hd2 (by rw [h, e1])
            · have := hc.lt; omega
          have ho3 := (ownB_snoc b (y := y) (by have := HT.out; omega) hown').far (g := g) (k := 0) (x := .slice (some ⟨g', 0, none⟩) (n + 1) cap') hg'g
          have hb3 := (AA.out.2.1.grown hgr' (by have := hr.lt; simp; omega) (fun x hx => (World.ownsRow.lt AA.out.1 x hx).1)).setCell (p := ⟨g, 0, none⟩) hbg (.slice (some ⟨g', 0, none⟩) (n + 1) cap')
          obtain ⟨l2, hl2⟩ : ∃ x, x = 256 * l % 4294967296 := ⟨_, rfl⟩
          obtain ⟨z2, hz2'⟩ : ∃ x, x = 256 * z := ⟨_, rfl⟩
          have a1 : bits .and .u64 ((l : Int) * 256) 4294967295 = (l2 : Int) := by
            have h := and64 (256 * l) (by omega)
            rw [show ((256 * l : Nat) : Int) = (l : Int) * 256 by omega] at h
            rw [h, hl2]
          have a2 : (z : Int) * 256 = (z2 : Int) := by omega
          have HLZ := hide (And.intro hl2 hz2')
          clear hl2 hz2' hown' hgr' hat' hlt' c20 f20 r2 AA ra ca0 ca1 c0 c1 f0 c2 hr ho hc hbel m1 m2
          generalize w2.setCell ⟨g, 0, none⟩ (.slice (some ⟨g', 0, none⟩) (n + 1) cap') = W3 at *
          have d1 := cod_low r3
          have d2 := cod_size r3
          have e1 := r3.frozen 1
          have e2 := r3.frozen 2
          go_wp2_with fail
          have r4 := (cod_set ((cod_set r3).2.1 l2)).2.2 z2
          have s4 := sizeW_of (cod_size r4)
          refine ⟨⟨norm P, ?_, ⟨_, ?_, ?_, ?_, hg'g, hg'c⟩, (hb3.setCell (p := ⟨g, 1, none⟩) hbg _).setCell (p := ⟨g, 2, none⟩) hbg _⟩, ?_⟩
          · have hT := HT.out
            exact .inr ⟨rfl, by rw [← hT.1, ← hT.2.2.1]; exact hsz⟩
          · have hT := HT.out
            have hP : P.size < 16777216 := by rw [← hT.1, ← hT.2.2.1]; exact hsz
            rw [norm, if_pos hP]
            show World.rowIs _ g _ 4 (codV _ (256 * P.low % 4294967296) (256 * P.size) gc)
            rw [← hT.1, ← hT.2.2.1, (low_shift t.low).2, ← hT.2.1, ← HLZ.out.1, ← HLZ.out.2]
            exact r4
          · have hT := HT.out
            have hP : P.size < 16777216 := by rw [← hT.1, ← hT.2.2.1]; exact hsz
            rw [norm, if_pos hP]
            show ownB _ base _ (P.n + 1) (byN (P.n + 1) (256 * P.low / 4294967296))
            rw [← hT.1, ← hT.2.2.2.1, (low_shift t.low).1, ← hT.2.1, ← hT.2.2.2.2.1]
            refine ((ho3.far (g := g) (k := 1) hg'g).far (g := g) (k := 2) hg'g).congr (fun j hj => ?_)
            rw [byN_snoc n _ b j hj]
          · have hT := HT.out
            have hP : P.size < 16777216 := by rw [← hT.1, ← hT.2.2.1]; exact hsz
            rw [norm, if_pos hP]
            show World.rowIs _ gc _ 1600 (u64V P.ch)
            rw [← hT.1]
            exact (rc3.setOther (a := ⟨g, 1, none⟩) (fun e => hne e.symm) _).setOther (a := ⟨g, 2, none⟩) (fun e => hne e.symm) _
          · rw [s4, hsw.out, if_pos hsz, if_neg (by have hT := HT.out; have h := HNOK.out.lo; rw [norm, if_pos (by rw [← hT.1, ← hT.2.2.1]; exact hsz)] at h; have h' : 16777216 ≤ 256 * P.size := h; rw [← hT.1, ← hT.2.2.1] at h'; have := HLZ.out.2; omega)]
            omega
        · go_simp
          refine hK.out _ _ ca1 (fun hHeld => ?_)
          clear hK KK
          refine wpAnyH_ready (rs := [4]) (by kernel_rfl) (by simp) ?_
          refine AllReadyH.cons rfl (fun KK hK => ?_) AllReadyH.nil
          go_simp
          refine hK.out _ _ ca1 (fun hHeld => ?_)
          clear hK KK
          refine wpAnyH_ready (rs := [12]) (by kernel_rfl) (by simp) ?_
          refine AllReadyH.cons rfl (fun KK hK => ?_) AllReadyH.nil
          refine step_append_D _ (some 98) rfl rfl (.tmp 90) (.tmp 97) 22 rfl base 5 i0 (.int .u8 0) 1 1 Tryz.underlying22 hi0 hz0 hz1 hz2 rfl (by omega) ov n _ rfl AA.out.1 ⟨wr.heap.size, 0, none⟩ 1 1 [.int .u8 (y : Int)] rfl rfl (one_cell wr.drew _ _) (one_oneCell .u8 _) (by omega) (by have := hnb.out; unfold maxLen; omega) (by have := hnb.out; omega) (by have := hr.lt; simp; omega) (wr.heap.size + 1) (by simp) ?_
          intro g' cap' w2 hown' hgr' hat' hlt'
          have r2 := ra.of_block (hgr'.block g (by simp; omega) (fun e => hd1 e.symm))
          simp only [Act.put, List.setIfInBounds_toArray, List.set_cons_zero, List.set_cons_succ]
          refine hK.out _ _ (cod_low r2) (fun hHeld => ?_)
          clear hK KK
          refine takeD (i := 13) (v := .pointer (some ⟨g, 0, none⟩)) (some 99) rfl rfl (by kernel_rfl) (by kernel_rfl) (by kernel_rfl) (fun _ _ _ h => h) (Or.inl ⟨by rfl, fun w hSw => by go_simp⟩) hHeld ?_
          simp only [Act.put, List.setIfInBounds_toArray, List.set_cons_zero, List.set_cons_succ]
          refine takeD (i := 14) (v := .pointer (some ⟨g, 0, none⟩)) (some 100) rfl rfl (by kernel_rfl) (by kernel_rfl) (by kernel_rfl) (fun _ _ _ h => h) (Or.inl ⟨by rfl, fun w hSw => by go_simp⟩) hHeld ?_
          simp only [Act.put, List.setIfInBounds_toArray, List.set_cons_zero, List.set_cons_succ]
          have c20 := cod_out r2
          have f20 := r2.frozen 0
          refine wpAnyH_ready (rs := [15]) (by kernel_rfl) (by simp) ?_
          refine AllReadyH.cons rfl (fun KK hK => ?_) AllReadyH.nil
          go_simp
          have r3 := (cod_set r2).1 (.slice (some ⟨g', 0, none⟩) (n + 1) cap')
          refine hK.out _ _ (cod_low r3) (fun hHeld => ?_)
          clear hK KK
          refine wpAnyH_done (by kernel_rfl) ?_ _
          have rc3 := (AA.out.2.2.of_block (hgr'.block gc (by have := AA.out.2.2.lt; exact this) (fun e => hd2 e.symm))).setOther (a := ⟨g, 0, none⟩) (fun e => hne e.symm) (.slice (some ⟨g', 0, none⟩) (n + 1) cap')
          have hg'g : (Value.slice (some ⟨g', 0, none⟩) (n + 1) cap').ownBlock ≠ some g := by
            intro e
            have e1 : g' = g := by simpa [Value.ownBlock] using e
            rcases hat' with h | h
            · exact hd1 (by rw [h, e1])
            · omega
          have hg'c : (Value.slice (some ⟨g', 0, none⟩) (n + 1) cap').ownBlock ≠ some gc := by
            intro e
            have e1 : g' = gc := by simpa [Value.ownBlock] using e
            rcases hat' with h | h
            · exact hd2 (by rw [h, e1])
            · have := hc.lt; omega
          have ho3 := (ownB_snoc b (y := y) (by have := HT.out; omega) hown').far (g := g) (k := 0) (x := .slice (some ⟨g', 0, none⟩) (n + 1) cap') hg'g
          have hb3 := (AA.out.2.1.grown hgr' (by have := hr.lt; simp; omega) (fun x hx => (World.ownsRow.lt AA.out.1 x hx).1)).setCell (p := ⟨g, 0, none⟩) hbg (.slice (some ⟨g', 0, none⟩) (n + 1) cap')
          obtain ⟨l2, hl2⟩ : ∃ x, x = 256 * l % 4294967296 := ⟨_, rfl⟩
          obtain ⟨z2, hz2'⟩ : ∃ x, x = 256 * z := ⟨_, rfl⟩
          have a1 : bits .and .u64 ((l : Int) * 256) 4294967295 = (l2 : Int) := by
            have h := and64 (256 * l) (by omega)
            rw [show ((256 * l : Nat) : Int) = (l : Int) * 256 by omega] at h
            rw [h, hl2]
          have a2 : (z : Int) * 256 = (z2 : Int) := by omega
          have HLZ := hide (And.intro hl2 hz2')
          clear hl2 hz2' hown' hgr' hat' hlt' c20 f20 r2 AA ra ca0 ca1 c0 c1 f0 c2 hr ho hc hbel m1 m2
          generalize w2.setCell ⟨g, 0, none⟩ (.slice (some ⟨g', 0, none⟩) (n + 1) cap') = W3 at *
          have d1 := cod_low r3
          have d2 := cod_size r3
          have e1 := r3.frozen 1
          have e2 := r3.frozen 2
          go_wp2_with fail
          have r4 := (cod_set ((cod_set r3).2.1 l2)).2.2 z2
          have s4 := sizeW_of (cod_size r4)
          refine ⟨⟨norm P, ?_, ⟨_, ?_, ?_, ?_, hg'g, hg'c⟩, (hb3.setCell (p := ⟨g, 1, none⟩) hbg _).setCell (p := ⟨g, 2, none⟩) hbg _⟩, ?_⟩
          · have hT := HT.out
            exact .inr ⟨rfl, by rw [← hT.1, ← hT.2.2.1]; exact hsz⟩
          · have hT := HT.out
            have hP : P.size < 16777216 := by rw [← hT.1, ← hT.2.2.1]; exact hsz
            rw [norm, if_pos hP]
            show World.rowIs _ g _ 4 (codV _ (256 * P.low % 4294967296) (256 * P.size) gc)
            rw [← hT.1, ← hT.2.2.1, (low_shift t.low).2, ← hT.2.1, ← HLZ.out.1, ← HLZ.out.2]
            exact r4
          · have hT := HT.out
            have hP : P.size < 16777216 := by rw [← hT.1, ← hT.2.2.1]; exact hsz
            rw [norm, if_pos hP]
            show ownB _ base _ (P.n + 1) (byN (P.n + 1) (256 * P.low / 4294967296))
            rw [← hT.1, ← hT.2.2.2.1, (low_shift t.low).1, ← hT.2.1, ← hT.2.2.2.2.1]
            refine ((ho3.far (g := g) (k := 1) hg'g).far (g := g) (k := 2) hg'g).congr (fun j hj => ?_)
            rw [byN_snoc n _ b j hj]
          · have hT := HT.out
            have hP : P.size < 16777216 := by rw [← hT.1, ← hT.2.2.1]; exact hsz
            rw [norm, if_pos hP]
            show World.rowIs _ gc _ 1600 (u64V P.ch)
            rw [← hT.1]
            exact (rc3.setOther (a := ⟨g, 1, none⟩) (fun e => hne e.symm) _).setOther (a := ⟨g, 2, none⟩) (fun e => hne e.symm) _
          · rw [s4, hsw.out, if_pos hsz, if_neg (by have hT := HT.out; have h := HNOK.out.lo; rw [norm, if_pos (by rw [← hT.1, ← hT.2.2.1]; exact hsz)] at h; have h' : 16777216 ≤ 256 * P.size := h; rw [← hT.1, ← hT.2.2.1] at h'; have := HLZ.out.2; omega)]
            omega
      · have hsz' : ¬ (t.size : Int) < 16777216 := by omega
        have htS := hide (show t = norm P by
          rcases ht.out with h | ⟨h, _⟩
          · rw [norm, if_neg (by rw [← h]; exact hsz), h]
          · exact h)
        have hfin := hide (show Cod wr base g gc t from ⟨ov, hr, ho, hc, hd1, hd2⟩)
        obtain ⟨z, hz⟩ : ∃ z, z = t.size := ⟨_, rfl⟩
        rw [← hz] at c2 hsz'
        clear hr ho hc hd1 hd2 hsz hsw hz
        go_wp2_with fail
        go_end0
        exact ⟨rfl, by show Cod wr base g gc (norm (part1 s c _)); rw [← HPS.out, ← htS.out]; exact hfin.out, hbel⟩

  · obtain ⟨pe, hpe⟩ : ∃ x, x = p / 32 := ⟨_, rfl⟩
    obtain ⟨p2, hp2⟩ : ∃ x, x = p - p / 32 := ⟨_, rfl⟩
    obtain ⟨l1, hl1⟩ : ∃ x, x = l + b := ⟨_, rfl⟩
    obtain ⟨z1, hz1'⟩ : ∃ x, x = z - b := ⟨_, rfl⟩
    have k3 : (l : Int) + (b : Int) = (l1 : Int) := by omega
    have k4 : (z : Int) - (b : Int) = (z1 : Int) := by omega
    have k5 : (p : Int) / 32 = (pe : Int) := by omega
    have k6 : (p : Int) - (pe : Int) = (p2 : Int) := by omega
    have HPP := hide (show P = ⟨z1, setCh s.ch c p2, s.low + b, s.n⟩ by rw [hP, hp2, hz1', hz, hb, hp]; rfl)
    have HL := hide (show l = s.low % 4294967296 ∧ l1 = l + b ∧ z1 = z - b from ⟨hl, hl1, hz1'⟩)
    have hl1b : l1 < 8589934592 := by omega
    have HR := hide (And.intro hr (And.intro ho hcr))
    have HF := hide (show s.low + b < 4294967296 * 256 ^ s.n by have := hfit.out; omega)
    have HBQ := hide (show b ≤ 4294967295 by omega)
    clear hP hz hl hp hq hb hbq hp2 hpe hr ho hcr hpo hl1 hz1' hfit
    by_cases hov : l1 < 4294967296
    · have hov' : ¬ (4294967296 : Int) ≤ (l1 : Int) := by omega
      go_enter Tryz.func125, Tryz.ntmps125
      go_wp2_with fail
      obtain ⟨hr, ho, hcr⟩ := HR.out
      have HCOD := hide (show Cod (((w.setCell ⟨g, 1, none⟩ (.int .u64 (l1 : Int))).setCell ⟨g, 2, none⟩ (.int .u64 (z1 : Int))).setCell ⟨gc, c, none⟩ (.int .u64 (p2 : Int))) base g gc P by
        have hLL := HL.out
        have hBB := HBQ.out
        rw [HPP.out]
        refine ⟨ov, ?_, ?_, set_u64 ((hcr.setOther (by simp; omega) _).setOther (by simp; omega) _), hd1, hd2⟩
        · show World.rowIs _ g _ 4 (codV ov ((s.low + b) % 4294967296) z1 gc)
          rw [show (s.low + b) % 4294967296 = l1 by omega]
          exact ((cod_set ((cod_set hr).2.1 l1)).2.2 z1).setOther (by simp; omega) _
        · show ownB _ base ov s.n (byN s.n ((s.low + b) / 4294967296))
          rw [show (s.low + b) / 4294967296 = s.low / 4294967296 by omega]
          exact ((ho.far hd1).far hd1).far hd2)
      have HBEL := hide ((((Below.refl base w).setCell (p := ⟨g, 1, none⟩) hbg (.int .u64 (l1 : Int))).setCell (p := ⟨g, 2, none⟩) hbg (.int .u64 (z1 : Int))).setCell (p := ⟨gc, c, none⟩) hbc (.int .u64 (p2 : Int)))
      generalize ((w.setCell ⟨g, 1, none⟩ (.int .u64 (l1 : Int))).setCell ⟨g, 2, none⟩ (.int .u64 (z1 : Int))).setCell ⟨gc, c, none⟩ (.int .u64 (p2 : Int)) = W1 at *
      clear HR hr ho hcr c1 c2 c3 cc fc f1 f2 k1 k2 k3 k4 k5 k6 hov' hd1 hd2 hl32 HL HPP HF HBQ
      go_loopw [81] (fun _ wx => ∃ t : RC, Hid (t = P ∨ (t = norm P ∧ P.size < 16777216)) ∧ Cod wx base g gc t ∧ Below base w wx) (fun _ wx => if sizeW wx g < 16777216 then 1 else 0)
      case atStart => exact ⟨P, .inl rfl, HCOD.out, HBEL.out⟩
      case round =>
        clear HCOD HBEL
        obtain ⟨t, ht, hcod, hbel⟩ := hrel
        obtain ⟨ov, hr, ho, hc, hd1, hd2⟩ := hcod
        have c2 := cod_size hr
        have hsw := hide (sizeW_of c2)
        by_cases hsz : t.size < 16777216
        · have htP : t = P := by
            rcases ht.out with h | ⟨h, h2⟩
            · exact h
            · rw [h] at hsz; exact absurd hsz (by have := HNOK.out.lo; omega)
          obtain ⟨l, hl⟩ : ∃ l, l = t.low % 4294967296 := ⟨_, rfl⟩
          obtain ⟨z, hz⟩ : ∃ z, z = t.size := ⟨_, rfl⟩
          obtain ⟨n, hn⟩ : ∃ n, n = t.n := ⟨_, rfl⟩
          rw [← hl, ← hz] at hr
          rw [← hn] at ho
          rw [← hz] at c2 hsw hsz
          have c0 := cod_out hr
          have c1 := cod_low hr
          have f0 := hr.frozen 0
          have hl32 : l < 4294967296 := by omega
          obtain ⟨b, hb⟩ : ∃ b : UInt8, b = UInt8.ofNat (l / 16777216) := ⟨_, rfl⟩
          have hbn : b.toNat = l / 16777216 := by rw [hb, UInt8.toNat_ofNat']; omega
          obtain ⟨y, hy⟩ : ∃ y, y = l / 16777216 := ⟨_, rfl⟩
          have m1 : (l : Int) / 16777216 = (y : Int) := by omega
          have m2 : IntKind.u8.wrap (y : Int) = (y : Int) := by rw [IntKind.wrap_u8]; omega
          have hy8 : (y : Int) ≤ 255 := by omega
          have hsz' : (z : Int) < 16777216 := by omega
          have HT := hide (And.intro htP (And.intro hl (And.intro hz (And.intro hn (And.intro hbn hy)))))
          have hnb := hide (show n ≤ 100000 by rw [hn, htP]; exact HPN.out)
          clear hl hz hn hb hbn hy htP
          go_wp2_with fail
          refine wp_region_held_drew (S := fun w' => w'.cell? ⟨g, 1, none⟩ = some (.int .u64 (l : Nat))) (by kernel_rfl) c1 (fun hHeld => ?_)
          refine takeD (i := 0) (v := .pointer (some ⟨g, 0, none⟩)) (some 86) rfl rfl (by kernel_rfl) (by kernel_rfl) (by kernel_rfl) (fun _ _ _ h => h) (Or.inl ⟨by rfl, fun w hSw => by go_simp⟩) hHeld ?_
          simp only [Act.put, List.setIfInBounds_toArray, List.set_cons_zero, List.set_cons_succ]
          refine takeD (i := 1) (v := .pointer (some ⟨g, 0, none⟩)) (some 87) rfl rfl (by kernel_rfl) (by kernel_rfl) (by kernel_rfl) (fun _ _ _ h => h) (Or.inl ⟨by rfl, fun w hSw => by go_simp⟩) hHeld ?_
          simp only [Act.put, List.setIfInBounds_toArray, List.set_cons_zero, List.set_cons_succ]
          refine takeD (i := 2) (v := .pointer (some ⟨g, 0, none⟩)) (some 88) rfl rfl (by kernel_rfl) (by kernel_rfl) (by kernel_rfl) (fun _ _ _ h => h) (Or.inl ⟨by rfl, fun w hSw => by go_simp⟩) hHeld ?_
          simp only [Act.put, List.setIfInBounds_toArray, List.set_cons_zero, List.set_cons_succ]
          refine takeD (i := 3) (v := .pointer (some ⟨g, 0, none⟩)) (some 89) rfl rfl (by kernel_rfl) (by kernel_rfl) (by kernel_rfl) (fun _ _ _ h => h) (Or.inl ⟨by rfl, fun w hSw => by go_simp⟩) hHeld ?_
          simp only [Act.put, List.setIfInBounds_toArray, List.set_cons_zero, List.set_cons_succ]
          refine takeD (i := 5) (v := .pointer (some ⟨g, 0, none⟩)) (some 91) rfl rfl (by kernel_rfl) (by kernel_rfl) (by kernel_rfl) (fun _ _ _ h => h) (Or.inl ⟨by rfl, fun w hSw => by go_simp⟩) hHeld ?_
          simp only [Act.put, List.setIfInBounds_toArray, List.set_cons_zero, List.set_cons_succ]
          refine takeD (i := 6) (v := .pointer (some ⟨g, 0, none⟩)) (some 92) rfl rfl (by kernel_rfl) (by kernel_rfl) (by kernel_rfl) (fun _ _ _ h => h) (Or.inl ⟨by rfl, fun w hSw => by go_simp⟩) hHeld ?_
          simp only [Act.put, List.setIfInBounds_toArray, List.set_cons_zero, List.set_cons_succ]
          refine takeD (i := 7) (v := .pointer (some ⟨g, 1, none⟩)) (some 93) rfl rfl (by kernel_rfl) (by kernel_rfl) (by kernel_rfl) (fun _ _ _ h => h) (Or.inl ⟨by rfl, fun w hSw => by go_simp⟩) hHeld ?_
          simp only [Act.put, List.setIfInBounds_toArray, List.set_cons_zero, List.set_cons_succ]
          refine takeD (i := 8) (v := .int .u64 (l : Int)) (some 94) rfl rfl (by kernel_rfl) (by kernel_rfl) (by kernel_rfl) (fun _ _ _ h => h) (Or.inl ⟨by rfl, fun w hSw => by go_simp⟩) hHeld ?_
          simp only [Act.put, List.setIfInBounds_toArray, List.set_cons_zero, List.set_cons_succ]
          refine takeD (i := 9) (v := .int .u64 (y : Int)) (some 95) rfl rfl (by kernel_rfl) (by kernel_rfl) (by kernel_rfl) (fun _ _ _ h => h) (Or.inl ⟨by rfl, fun w hSw => by go_simp⟩) hHeld ?_
          simp only [Act.put, List.setIfInBounds_toArray, List.set_cons_zero, List.set_cons_succ]
          refine takeD (i := 10) (v := .int .u8 (y : Int)) (some 96) rfl rfl (by kernel_rfl) (by kernel_rfl) (by kernel_rfl) (fun _ _ _ h => h) (Or.inl ⟨by rfl, fun w hSw => by go_simp⟩) hHeld ?_
          simp only [Act.put, List.setIfInBounds_toArray, List.set_cons_zero, List.set_cons_succ]
          have ra := hr.drew.alloc (.cells #[.int .u8 (y : Int)] 5)
          have ca0 : (wr.drew.alloc (.cells #[.int .u8 (y : Int)] 5)).cell? ⟨g, 0, none⟩ = some ov := cod_out ra
          have ca1 : (wr.drew.alloc (.cells #[.int .u8 (y : Int)] 5)).cell? ⟨g, 1, none⟩ = some (.int .u64 (l : Nat)) := cod_low ra
          have oa := World.ownsRow.alloc (World.ownsRow.drew ho) (.cells #[.int .u8 (y : Int)] 5)
          have hba := hbel.drew.alloc (show base ≤ wr.drew.heap.size by have := hr.lt; exact Nat.le_trans hbg (Nat.le_of_lt this)) (.cells #[.int .u8 (y : Int)] 5)
          have cha := hc.drew.alloc (.cells #[.int .u8 (y : Int)] 5)
          have AA := hide (And.intro oa (And.intro hba cha))
          have hglt := hr.lt
          clear oa hba cha
          refine wpAnyH_ready (rs := [4, 11]) (by kernel_rfl) (by simp) ?_
          refine AllReadyH.cons rfl (fun KK hK => ?_) (AllReadyH.cons rfl (fun KK hK => ?_) AllReadyH.nil)
          · go_simp
            refine hK.out _ _ c1 (fun hHeld => ?_)
            clear hK KK
            refine wpAnyH_ready (rs := [11]) (by kernel_rfl) (by simp) ?_
            refine AllReadyH.cons rfl (fun KK hK => ?_) AllReadyH.nil
            go_simp
            refine hK.out _ _ ca1 (fun hHeld => ?_)
            clear hK KK
            refine wpAnyH_ready (rs := [12]) (by kernel_rfl) (by simp) ?_
            refine AllReadyH.cons rfl (fun KK hK => ?_) AllReadyH.nil
            refine step_append_D _ (some 98) rfl rfl (.tmp 90) (.tmp 97) 22 rfl base 5 i0 (.int .u8 0) 1 1 Tryz.underlying22 hi0 hz0 hz1 hz2 rfl (by omega) ov n _ rfl AA.out.1 ⟨wr.heap.size, 0, none⟩ 1 1 [.int .u8 (y : Int)] rfl rfl (one_cell wr.drew _ _) (one_oneCell .u8 _) (by omega) (by have := hnb.out; unfold maxLen; omega) (by have := hnb.out; omega) (by have := hr.lt; simp; omega) (wr.heap.size + 1) (by simp) ?_
            intro g' cap' w2 hown' hgr' hat' hlt'
            have r2 := ra.of_block (hgr'.block g (by simp; omega) (fun e => hd1 e.symm))
            simp only [Act.put, List.setIfInBounds_toArray, List.set_cons_zero, List.set_cons_succ]
            refine hK.out _ _ (cod_low r2) (fun hHeld => ?_)
            clear hK KK
            refine takeD (i := 13) (v := .pointer (some ⟨g, 0, none⟩)) (some 99) rfl rfl (by kernel_rfl) (by kernel_rfl) (by kernel_rfl) (fun _ _ _ h => h) (Or.inl ⟨by rfl, fun w hSw => by go_simp⟩) hHeld ?_
            simp only [Act.put, List.setIfInBounds_toArray, List.set_cons_zero, List.set_cons_succ]
            refine takeD (i := 14) (v := .pointer (some ⟨g, 0, none⟩)) (some 100) rfl rfl (by kernel_rfl) (by kernel_rfl) (by kernel_rfl) (fun _ _ _ h => h) (Or.inl ⟨by rfl, fun w hSw => by go_simp⟩) hHeld ?_
            simp only [Act.put, List.setIfInBounds_toArray, List.set_cons_zero, List.set_cons_succ]
            have c20 := cod_out r2
            have f20 := r2.frozen 0
            refine wpAnyH_ready (rs := [15]) (by kernel_rfl) (by simp) ?_
            refine AllReadyH.cons rfl (fun KK hK => ?_) AllReadyH.nil
            go_simp
            have r3 := (cod_set r2).1 (.slice (some ⟨g', 0, none⟩) (n + 1) cap')
            refine hK.out _ _ (cod_low r3) (fun hHeld => ?_)
            clear hK KK
            refine wpAnyH_done (by kernel_rfl) ?_ _
            have rc3 := (AA.out.2.2.of_block (hgr'.block gc (by have := AA.out.2.2.lt; exact this) (fun e => hd2 e.symm))).setOther (a := ⟨g, 0, none⟩) (fun e => hne e.symm) (.slice (some ⟨g', 0, none⟩) (n + 1) cap')
            have hg'g : (Value.slice (some ⟨g', 0, none⟩) (n + 1) cap').ownBlock ≠ some g := by
              intro e
              have e1 : g' = g := by simpa [Value.ownBlock] using e
              rcases hat' with h | h
              · exact hd1 (by rw [h, e1])
              · omega
            have hg'c : (Value.slice (some ⟨g', 0, none⟩) (n + 1) cap').ownBlock ≠ some gc := by
              intro e
              have e1 : g' = gc := by simpa [Value.ownBlock] using e
              rcases hat' with h | h
              · exact hd2 (by rw [h, e1])
              · have := hc.lt; omega
            have ho3 := (ownB_snoc b (y := y) (by have := HT.out; omega) hown').far (g := g) (k := 0) (x := .slice (some ⟨g', 0, none⟩) (n + 1) cap') hg'g
            have hb3 := (AA.out.2.1.grown hgr' (by have := hr.lt; simp; omega) (fun x hx => (World.ownsRow.lt AA.out.1 x hx).1)).setCell (p := ⟨g, 0, none⟩) hbg (.slice (some ⟨g', 0, none⟩) (n + 1) cap')
            obtain ⟨l2, hl2⟩ : ∃ x, x = 256 * l % 4294967296 := ⟨_, rfl⟩
            obtain ⟨z2, hz2'⟩ : ∃ x, x = 256 * z := ⟨_, rfl⟩
            have a1 : bits .and .u64 ((l : Int) * 256) 4294967295 = (l2 : Int) := by
              have h := and64 (256 * l) (by omega)
              rw [show ((256 * l : Nat) : Int) = (l : Int) * 256 by omega] at h
              rw [h, hl2]
            have a2 : (z : Int) * 256 = (z2 : Int) := by omega
            have HLZ := hide (And.intro hl2 hz2')
            clear hl2 hz2' hown' hgr' hat' hlt' c20 f20 r2 AA ra ca0 ca1 c0 c1 f0 c2 hr ho hc hbel m1 m2
            generalize w2.setCell ⟨g, 0, none⟩ (.slice (some ⟨g', 0, none⟩) (n + 1) cap') = W3 at *
            have d1 := cod_low r3
            have d2 := cod_size r3
            have e1 := r3.frozen 1
            have e2 := r3.frozen 2
            go_wp2_with fail
            have r4 := (cod_set ((cod_set r3).2.1 l2)).2.2 z2
            have s4 := sizeW_of (cod_size r4)
            refine ⟨⟨norm P, ?_, ⟨_, ?_, ?_, ?_, hg'g, hg'c⟩, (hb3.setCell (p := ⟨g, 1, none⟩) hbg _).setCell (p := ⟨g, 2, none⟩) hbg _⟩, ?_⟩
            · have hT := HT.out
              exact .inr ⟨rfl, by rw [← hT.1, ← hT.2.2.1]; exact hsz⟩
            · have hT := HT.out
              have hP : P.size < 16777216 := by rw [← hT.1, ← hT.2.2.1]; exact hsz
              rw [norm, if_pos hP]
              show World.rowIs _ g _ 4 (codV _ (256 * P.low % 4294967296) (256 * P.size) gc)
              rw [← hT.1, ← hT.2.2.1, (low_shift t.low).2, ← hT.2.1, ← HLZ.out.1, ← HLZ.out.2]
              exact r4
            · have hT := HT.out
              have hP : P.size < 16777216 := by rw [← hT.1, ← hT.2.2.1]; exact hsz
              rw [norm, if_pos hP]
              show ownB _ base _ (P.n + 1) (byN (P.n + 1) (256 * P.low / 4294967296))
              rw [← hT.1, ← hT.2.2.2.1, (low_shift t.low).1, ← hT.2.1, ← hT.2.2.2.2.1]
              refine ((ho3.far (g := g) (k := 1) hg'g).far (g := g) (k := 2) hg'g).congr (fun j hj => ?_)
              rw [byN_snoc n _ b j hj]
            · have hT := HT.out
              have hP : P.size < 16777216 := by rw [← hT.1, ← hT.2.2.1]; exact hsz
              rw [norm, if_pos hP]
              show World.rowIs _ gc _ 1600 (u64V P.ch)
              rw [← hT.1]
              exact (rc3.setOther (a := ⟨g, 1, none⟩) (fun e => hne e.symm) _).setOther (a := ⟨g, 2, none⟩) (fun e => hne e.symm) _
            · rw [s4, hsw.out, if_pos hsz, if_neg (by have hT := HT.out; have h := HNOK.out.lo; rw [norm, if_pos (by rw [← hT.1, ← hT.2.2.1]; exact hsz)] at h; have h' : 16777216 ≤ 256 * P.size := h; rw [← hT.1, ← hT.2.2.1] at h'; have := HLZ.out.2; omega)]
              omega
          · go_simp
            refine hK.out _ _ ca1 (fun hHeld => ?_)
            clear hK KK
            refine wpAnyH_ready (rs := [4]) (by kernel_rfl) (by simp) ?_
            refine AllReadyH.cons rfl (fun KK hK => ?_) AllReadyH.nil
            go_simp
            refine hK.out _ _ ca1 (fun hHeld => ?_)
            clear hK KK
            refine wpAnyH_ready (rs := [12]) (by kernel_rfl) (by simp) ?_
            refine AllReadyH.cons rfl (fun KK hK => ?_) AllReadyH.nil
            refine step_append_D _ (some 98) rfl rfl (.tmp 90) (.tmp 97) 22 rfl base 5 i0 (.int .u8 0) 1 1 Tryz.underlying22 hi0 hz0 hz1 hz2 rfl (by omega) ov n _ rfl AA.out.1 ⟨wr.heap.size, 0, none⟩ 1 1 [.int .u8 (y : Int)] rfl rfl (one_cell wr.drew _ _) (one_oneCell .u8 _) (by omega) (by have := hnb.out; unfold maxLen; omega) (by have := hnb.out; omega) (by have := hr.lt; simp; omega) (wr.heap.size + 1) (by simp) ?_
            intro g' cap' w2 hown' hgr' hat' hlt'
            have r2 := ra.of_block (hgr'.block g (by simp; omega) (fun e => hd1 e.symm))
            simp only [Act.put, List.setIfInBounds_toArray, List.set_cons_zero, List.set_cons_succ]
            refine hK.out _ _ (cod_low r2) (fun hHeld => ?_)
            clear hK KK
            refine takeD (i := 13) (v := .pointer (some ⟨g, 0, none⟩)) (some 99) rfl rfl (by kernel_rfl) (by kernel_rfl) (by kernel_rfl) (fun _ _ _ h => h) (Or.inl ⟨by rfl, fun w hSw => by go_simp⟩) hHeld ?_
            simp only [Act.put, List.setIfInBounds_toArray, List.set_cons_zero, List.set_cons_succ]
            refine takeD (i := 14) (v := .pointer (some ⟨g, 0, none⟩)) (some 100) rfl rfl (by kernel_rfl) (by kernel_rfl) (by kernel_rfl) (fun _ _ _ h => h) (Or.inl ⟨by rfl, fun w hSw => by go_simp⟩) hHeld ?_
            simp only [Act.put, List.setIfInBounds_toArray, List.set_cons_zero, List.set_cons_succ]
            have c20 := cod_out r2
            have f20 := r2.frozen 0
            refine wpAnyH_ready (rs := [15]) (by kernel_rfl) (by simp) ?_
            refine AllReadyH.cons rfl (fun KK hK => ?_) AllReadyH.nil
            go_simp
            have r3 := (cod_set r2).1 (.slice (some ⟨g', 0, none⟩) (n + 1) cap')
            refine hK.out _ _ (cod_low r3) (fun hHeld => ?_)
            clear hK KK
            refine wpAnyH_done (by kernel_rfl) ?_ _
            have rc3 := (AA.out.2.2.of_block (hgr'.block gc (by have := AA.out.2.2.lt; exact this) (fun e => hd2 e.symm))).setOther (a := ⟨g, 0, none⟩) (fun e => hne e.symm) (.slice (some ⟨g', 0, none⟩) (n + 1) cap')
            have hg'g : (Value.slice (some ⟨g', 0, none⟩) (n + 1) cap').ownBlock ≠ some g := by
              intro e
              have e1 : g' = g := by simpa [Value.ownBlock] using e
              rcases hat' with h | h
              · exact hd1 (by rw [h, e1])
              · omega
            have hg'c : (Value.slice (some ⟨g', 0, none⟩) (n + 1) cap').ownBlock ≠ some gc := by
              intro e
              have e1 : g' = gc := by simpa [Value.ownBlock] using e
              rcases hat' with h | h
              · exact hd2 (by rw [h, e1])
              · have := hc.lt; omega
            have ho3 := (ownB_snoc b (y := y) (by have := HT.out; omega) hown').far (g := g) (k := 0) (x := .slice (some ⟨g', 0, none⟩) (n + 1) cap') hg'g
            have hb3 := (AA.out.2.1.grown hgr' (by have := hr.lt; simp; omega) (fun x hx => (World.ownsRow.lt AA.out.1 x hx).1)).setCell (p := ⟨g, 0, none⟩) hbg (.slice (some ⟨g', 0, none⟩) (n + 1) cap')
            obtain ⟨l2, hl2⟩ : ∃ x, x = 256 * l % 4294967296 := ⟨_, rfl⟩
            obtain ⟨z2, hz2'⟩ : ∃ x, x = 256 * z := ⟨_, rfl⟩
            have a1 : bits .and .u64 ((l : Int) * 256) 4294967295 = (l2 : Int) := by
              have h := and64 (256 * l) (by omega)
              rw [show ((256 * l : Nat) : Int) = (l : Int) * 256 by omega] at h
              rw [h, hl2]
            have a2 : (z : Int) * 256 = (z2 : Int) := by omega
            have HLZ := hide (And.intro hl2 hz2')
            clear hl2 hz2' hown' hgr' hat' hlt' c20 f20 r2 AA ra ca0 ca1 c0 c1 f0 c2 hr ho hc hbel m1 m2
            generalize w2.setCell ⟨g, 0, none⟩ (.slice (some ⟨g', 0, none⟩) (n + 1) cap') = W3 at *
            have d1 := cod_low r3
            have d2 := cod_size r3
            have e1 := r3.frozen 1
            have e2 := r3.frozen 2
            go_wp2_with fail
            have r4 := (cod_set ((cod_set r3).2.1 l2)).2.2 z2
            have s4 := sizeW_of (cod_size r4)
            refine ⟨⟨norm P, ?_, ⟨_, ?_, ?_, ?_, hg'g, hg'c⟩, (hb3.setCell (p := ⟨g, 1, none⟩) hbg _).setCell (p := ⟨g, 2, none⟩) hbg _⟩, ?_⟩
            · have hT := HT.out
              exact .inr ⟨rfl, by rw [← hT.1, ← hT.2.2.1]; exact hsz⟩
            · have hT := HT.out
              have hP : P.size < 16777216 := by rw [← hT.1, ← hT.2.2.1]; exact hsz
              rw [norm, if_pos hP]
              show World.rowIs _ g _ 4 (codV _ (256 * P.low % 4294967296) (256 * P.size) gc)
              rw [← hT.1, ← hT.2.2.1, (low_shift t.low).2, ← hT.2.1, ← HLZ.out.1, ← HLZ.out.2]
              exact r4
            · have hT := HT.out
              have hP : P.size < 16777216 := by rw [← hT.1, ← hT.2.2.1]; exact hsz
              rw [norm, if_pos hP]
              show ownB _ base _ (P.n + 1) (byN (P.n + 1) (256 * P.low / 4294967296))
              rw [← hT.1, ← hT.2.2.2.1, (low_shift t.low).1, ← hT.2.1, ← hT.2.2.2.2.1]
              refine ((ho3.far (g := g) (k := 1) hg'g).far (g := g) (k := 2) hg'g).congr (fun j hj => ?_)
              rw [byN_snoc n _ b j hj]
            · have hT := HT.out
              have hP : P.size < 16777216 := by rw [← hT.1, ← hT.2.2.1]; exact hsz
              rw [norm, if_pos hP]
              show World.rowIs _ gc _ 1600 (u64V P.ch)
              rw [← hT.1]
              exact (rc3.setOther (a := ⟨g, 1, none⟩) (fun e => hne e.symm) _).setOther (a := ⟨g, 2, none⟩) (fun e => hne e.symm) _
            · rw [s4, hsw.out, if_pos hsz, if_neg (by have hT := HT.out; have h := HNOK.out.lo; rw [norm, if_pos (by rw [← hT.1, ← hT.2.2.1]; exact hsz)] at h; have h' : 16777216 ≤ 256 * P.size := h; rw [← hT.1, ← hT.2.2.1] at h'; have := HLZ.out.2; omega)]
              omega
        · have hsz' : ¬ (t.size : Int) < 16777216 := by omega
          have htS := hide (show t = norm P by
            rcases ht.out with h | ⟨h, _⟩
            · rw [norm, if_neg (by rw [← h]; exact hsz), h]
            · exact h)
          have hfin := hide (show Cod wr base g gc t from ⟨ov, hr, ho, hc, hd1, hd2⟩)
          obtain ⟨z, hz⟩ : ∃ z, z = t.size := ⟨_, rfl⟩
          rw [← hz] at c2 hsz'
          clear hr ho hc hd1 hd2 hsz hsw hz
          go_wp2_with fail
          go_end0
          exact ⟨rfl, by show Cod wr base g gc (norm (part1 s c _)); rw [← HPS.out, ← htS.out]; exact hfin.out, hbel⟩
    · have hov' : (4294967296 : Int) ≤ (l1 : Int) := by omega
      obtain ⟨l3, hl3⟩ : ∃ x, x = l1 - 4294967296 := ⟨_, rfl⟩
      have k7 : (l1 : Int) - 4294967296 = (l3 : Int) := by omega
      have HL3 := hide hl3
      clear hl3
      go_enter Tryz.func125, Tryz.ntmps125
      go_wp2_with fail
      obtain ⟨hr, ho, hcr⟩ := HR.out
      have hn0 : 0 < s.n := by
        rcases Nat.eq_zero_or_pos s.n with h | h
        · have hF := HF.out
          have hLL := HL.out
          rw [h] at hF
          have hF' : s.low + b < 4294967296 * 1 := hF
          omega
        · exact h
      obtain ⟨go, cap, rfl, hgo1, hgo2⟩ := ho.form hn0
      have hVV : s.low / 4294967296 + 1 < 256 ^ s.n ∧ (s.low + b) / 4294967296 = s.low / 4294967296 + 1 ∧ (s.low + b) % 4294967296 = l3 := by
        have hF := HF.out
        have hLL := HL.out
        have h3 := HL3.out
        have hBB := HBQ.out
        have e : (s.low + b) / 4294967296 = s.low / 4294967296 + 1 := by omega
        refine ⟨?_, e, by omega⟩
        rw [← e]
        exact Nat.div_lt_of_lt_mul hF
      have hgg : go ≠ g := fun e => hd1 (by simp [Value.ownBlock, e])
      have hgc : go ≠ gc := fun e => hd2 (by simp [Value.ownBlock, e])
      have ra := (cod_set (((cod_set ((cod_set hr).2.1 l1)).2.2 z1).setOther (a := ⟨gc, c, none⟩) hne (.int .u64 (p2 : Int)))).2.1 l3
      have oa := (((ho.far (k := 1) (x := .int .u64 (l1 : Int)) hd1).far (k := 2) (x := .int .u64 (z1 : Int)) hd1).far (k := c) (x := .int .u64 (p2 : Int)) hd2).far (k := 1) (x := .int .u64 (l3 : Int)) hd1
      have ca := (set_u64 (k := c) (X := p2) ((hcr.setOther (a := ⟨g, 1, none⟩) (fun e => hne e.symm) (.int .u64 (l1 : Int))).setOther (a := ⟨g, 2, none⟩) (fun e => hne e.symm) (.int .u64 (z1 : Int)))).setOther (a := ⟨g, 1, none⟩) (fun e => hne e.symm) (.int .u64 (l3 : Int))
      have ba := ((((Below.refl base w).setCell (p := ⟨g, 1, none⟩) hbg (.int .u64 (l1 : Int))).setCell (p := ⟨g, 2, none⟩) hbg (.int .u64 (z1 : Int))).setCell (p := ⟨gc, c, none⟩) hbc (.int .u64 (p2 : Int))).setCell (p := ⟨g, 1, none⟩) hbg (.int .u64 (l3 : Int))
      generalize (((w.setCell ⟨g, 1, none⟩ (.int .u64 (l1 : Int))).setCell ⟨g, 2, none⟩ (.int .u64 (z1 : Int))).setCell ⟨gc, c, none⟩ (.int .u64 (p2 : Int))).setCell ⟨g, 1, none⟩ (.int .u64 (l3 : Int)) = W0 at *
      refine (spec_carry base g gc go s.n cap l3 z1 (s.low / 4294967296) W0 hn0 (by omega) hVV.1 ra oa hgg).mono ?_
      rintro e W1 ⟨rfl, ob, hgr⟩
      have HCOD := hide (show Cod W1 base g gc P by
        rw [HPP.out]
        refine ⟨_, ?_, ?_, ca.of_block (hgr.block gc ca.lt (fun e => hgc (by simpa using e.symm))), hd1, hd2⟩
        · show World.rowIs _ g _ 4 (codV _ ((s.low + b) % 4294967296) z1 gc)
          rw [hVV.2.2]
          exact ra.of_block (hgr.block g ra.lt (fun e => hgg (by simpa using e.symm)))
        · show ownB _ base _ s.n (byN s.n ((s.low + b) / 4294967296))
          rw [hVV.2.1]
          exact ob)
      have HBEL := hide (ba.trans (grownBy_below hgr hgo1 (by have := ra.lt; omega)))
      clear HR hr ho hcr c1 c2 c3 cc fc f1 f2 k1 k2 k3 k4 k5 k6 k7 hov' hd1 hd2 hl32 HL HPP HF HBQ HL3 hVV ra oa ca ba ob hgr
      go_wp2_with fail
      go_loopw [81] (fun _ wx => ∃ t : RC, Hid (t = P ∨ (t = norm P ∧ P.size < 16777216)) ∧ Cod wx base g gc t ∧ Below base w wx) (fun _ wx => if sizeW wx g < 16777216 then 1 else 0)
      case atStart => exact ⟨P, .inl rfl, HCOD.out, HBEL.out⟩
      case round =>
        clear HCOD HBEL
        obtain ⟨t, ht, hcod, hbel⟩ := hrel
        obtain ⟨ov, hr, ho, hc, hd1, hd2⟩ := hcod
        have c2 := cod_size hr
        have hsw := hide (sizeW_of c2)
        by_cases hsz : t.size < 16777216
        · have htP : t = P := by
            rcases ht.out with h | ⟨h, h2⟩
            · exact h
            · rw [h] at hsz; exact absurd hsz (by have := HNOK.out.lo; omega)
          obtain ⟨l, hl⟩ : ∃ l, l = t.low % 4294967296 := ⟨_, rfl⟩
          obtain ⟨z, hz⟩ : ∃ z, z = t.size := ⟨_, rfl⟩
          obtain ⟨n, hn⟩ : ∃ n, n = t.n := ⟨_, rfl⟩
          rw [← hl, ← hz] at hr
          rw [← hn] at ho
          rw [← hz] at c2 hsw hsz
          have c0 := cod_out hr
          have c1 := cod_low hr
          have f0 := hr.frozen 0
          have hl32 : l < 4294967296 := by omega
          obtain ⟨b, hb⟩ : ∃ b : UInt8, b = UInt8.ofNat (l / 16777216) := ⟨_, rfl⟩
          have hbn : b.toNat = l / 16777216 := by rw [hb, UInt8.toNat_ofNat']; omega
          obtain ⟨y, hy⟩ : ∃ y, y = l / 16777216 := ⟨_, rfl⟩
          have m1 : (l : Int) / 16777216 = (y : Int) := by omega
          have m2 : IntKind.u8.wrap (y : Int) = (y : Int) := by rw [IntKind.wrap_u8]; omega
          have hy8 : (y : Int) ≤ 255 := by omega
          have hsz' : (z : Int) < 16777216 := by omega
          have HT := hide (And.intro htP (And.intro hl (And.intro hz (And.intro hn (And.intro hbn hy)))))
          have hnb := hide (show n ≤ 100000 by rw [hn, htP]; exact HPN.out)
          clear hl hz hn hb hbn hy htP
          go_wp2_with fail
          refine wp_region_held_drew (S := fun w' => w'.cell? ⟨g, 1, none⟩ = some (.int .u64 (l : Nat))) (by kernel_rfl) c1 (fun hHeld => ?_)
          refine takeD (i := 0) (v := .pointer (some ⟨g, 0, none⟩)) (some 86) rfl rfl (by kernel_rfl) (by kernel_rfl) (by kernel_rfl) (fun _ _ _ h => h) (Or.inl ⟨by rfl, fun w hSw => by go_simp⟩) hHeld ?_
          simp only [Act.put, List.setIfInBounds_toArray, List.set_cons_zero, List.set_cons_succ]
          refine takeD (i := 1) (v := .pointer (some ⟨g, 0, none⟩)) (some 87) rfl rfl (by kernel_rfl) (by kernel_rfl) (by kernel_rfl) (fun _ _ _ h => h) (Or.inl ⟨by rfl, fun w hSw => by go_simp⟩) hHeld ?_
          simp only [Act.put, List.setIfInBounds_toArray, List.set_cons_zero, List.set_cons_succ]
          refine takeD (i := 2) (v := .pointer (some ⟨g, 0, none⟩)) (some 88) rfl rfl (by kernel_rfl) (by kernel_rfl) (by kernel_rfl) (fun _ _ _ h => h) (Or.inl ⟨by rfl, fun w hSw => by go_simp⟩) hHeld ?_
          simp only [Act.put, List.setIfInBounds_toArray, List.set_cons_zero, List.set_cons_succ]
          refine takeD (i := 3) (v := .pointer (some ⟨g, 0, none⟩)) (some 89) rfl rfl (by kernel_rfl) (by kernel_rfl) (by kernel_rfl) (fun _ _ _ h => h) (Or.inl ⟨by rfl, fun w hSw => by go_simp⟩) hHeld ?_
          simp only [Act.put, List.setIfInBounds_toArray, List.set_cons_zero, List.set_cons_succ]
          refine takeD (i := 5) (v := .pointer (some ⟨g, 0, none⟩)) (some 91) rfl rfl (by kernel_rfl) (by kernel_rfl) (by kernel_rfl) (fun _ _ _ h => h) (Or.inl ⟨by rfl, fun w hSw => by go_simp⟩) hHeld ?_
          simp only [Act.put, List.setIfInBounds_toArray, List.set_cons_zero, List.set_cons_succ]
          refine takeD (i := 6) (v := .pointer (some ⟨g, 0, none⟩)) (some 92) rfl rfl (by kernel_rfl) (by kernel_rfl) (by kernel_rfl) (fun _ _ _ h => h) (Or.inl ⟨by rfl, fun w hSw => by go_simp⟩) hHeld ?_
          simp only [Act.put, List.setIfInBounds_toArray, List.set_cons_zero, List.set_cons_succ]
          refine takeD (i := 7) (v := .pointer (some ⟨g, 1, none⟩)) (some 93) rfl rfl (by kernel_rfl) (by kernel_rfl) (by kernel_rfl) (fun _ _ _ h => h) (Or.inl ⟨by rfl, fun w hSw => by go_simp⟩) hHeld ?_
          simp only [Act.put, List.setIfInBounds_toArray, List.set_cons_zero, List.set_cons_succ]
          refine takeD (i := 8) (v := .int .u64 (l : Int)) (some 94) rfl rfl (by kernel_rfl) (by kernel_rfl) (by kernel_rfl) (fun _ _ _ h => h) (Or.inl ⟨by rfl, fun w hSw => by go_simp⟩) hHeld ?_
          simp only [Act.put, List.setIfInBounds_toArray, List.set_cons_zero, List.set_cons_succ]
          refine takeD (i := 9) (v := .int .u64 (y : Int)) (some 95) rfl rfl (by kernel_rfl) (by kernel_rfl) (by kernel_rfl) (fun _ _ _ h => h) (Or.inl ⟨by rfl, fun w hSw => by go_simp⟩) hHeld ?_
          simp only [Act.put, List.setIfInBounds_toArray, List.set_cons_zero, List.set_cons_succ]
          refine takeD (i := 10) (v := .int .u8 (y : Int)) (some 96) rfl rfl (by kernel_rfl) (by kernel_rfl) (by kernel_rfl) (fun _ _ _ h => h) (Or.inl ⟨by rfl, fun w hSw => by go_simp⟩) hHeld ?_
          simp only [Act.put, List.setIfInBounds_toArray, List.set_cons_zero, List.set_cons_succ]
          have ra := hr.drew.alloc (.cells #[.int .u8 (y : Int)] 5)
          have ca0 : (wr.drew.alloc (.cells #[.int .u8 (y : Int)] 5)).cell? ⟨g, 0, none⟩ = some ov := cod_out ra
          have ca1 : (wr.drew.alloc (.cells #[.int .u8 (y : Int)] 5)).cell? ⟨g, 1, none⟩ = some (.int .u64 (l : Nat)) := cod_low ra
          have oa := World.ownsRow.alloc (World.ownsRow.drew ho) (.cells #[.int .u8 (y : Int)] 5)
          have hba := hbel.drew.alloc (show base ≤ wr.drew.heap.size by have := hr.lt; exact Nat.le_trans hbg (Nat.le_of_lt this)) (.cells #[.int .u8 (y : Int)] 5)
          have cha := hc.drew.alloc (.cells #[.int .u8 (y : Int)] 5)
          have AA := hide (And.intro oa (And.intro hba cha))
          have hglt := hr.lt
          clear oa hba cha
          refine wpAnyH_ready (rs := [4, 11]) (by kernel_rfl) (by simp) ?_
          refine AllReadyH.cons rfl (fun KK hK => ?_) (AllReadyH.cons rfl (fun KK hK => ?_) AllReadyH.nil)
          · go_simp
            refine hK.out _ _ c1 (fun hHeld => ?_)
            clear hK KK
            refine wpAnyH_ready (rs := [11]) (by kernel_rfl) (by simp) ?_
            refine AllReadyH.cons rfl (fun KK hK => ?_) AllReadyH.nil
            go_simp
            refine hK.out _ _ ca1 (fun hHeld => ?_)
            clear hK KK
            refine wpAnyH_ready (rs := [12]) (by kernel_rfl) (by simp) ?_
            refine AllReadyH.cons rfl (fun KK hK => ?_) AllReadyH.nil
            refine step_append_D _ (some 98) rfl rfl (.tmp 90) (.tmp 97) 22 rfl base 5 i0 (.int .u8 0) 1 1 Tryz.underlying22 hi0 hz0 hz1 hz2 rfl (by omega) ov n _ rfl AA.out.1 ⟨wr.heap.size, 0, none⟩ 1 1 [.int .u8 (y : Int)] rfl rfl (one_cell wr.drew _ _) (one_oneCell .u8 _) (by omega) (by have := hnb.out; unfold maxLen; omega) (by have := hnb.out; omega) (by have := hr.lt; simp; omega) (wr.heap.size + 1) (by simp) ?_
            intro g' cap' w2 hown' hgr' hat' hlt'
            have r2 := ra.of_block (hgr'.block g (by simp; omega) (fun e => hd1 e.symm))
            simp only [Act.put, List.setIfInBounds_toArray, List.set_cons_zero, List.set_cons_succ]
            refine hK.out _ _ (cod_low r2) (fun hHeld => ?_)
            clear hK KK
            refine takeD (i := 13) (v := .pointer (some ⟨g, 0, none⟩)) (some 99) rfl rfl (by kernel_rfl) (by kernel_rfl) (by kernel_rfl) (fun _ _ _ h => h) (Or.inl ⟨by rfl, fun w hSw => by go_simp⟩) hHeld ?_
            simp only [Act.put, List.setIfInBounds_toArray, List.set_cons_zero, List.set_cons_succ]
            refine takeD (i := 14) (v := .pointer (some ⟨g, 0, none⟩)) (some 100) rfl rfl (by kernel_rfl) (by kernel_rfl) (by kernel_rfl) (fun _ _ _ h => h) (Or.inl ⟨by rfl, fun w hSw => by go_simp⟩) hHeld ?_
            simp only [Act.put, List.setIfInBounds_toArray, List.set_cons_zero, List.set_cons_succ]
            have c20 := cod_out r2
            have f20 := r2.frozen 0
            refine wpAnyH_ready (rs := [15]) (by kernel_rfl) (by simp) ?_
            refine AllReadyH.cons rfl (fun KK hK => ?_) AllReadyH.nil
            go_simp
            have r3 := (cod_set r2).1 (.slice (some ⟨g', 0, none⟩) (n + 1) cap')
            refine hK.out _ _ (cod_low r3) (fun hHeld => ?_)
            clear hK KK
            refine wpAnyH_done (by kernel_rfl) ?_ _
            have rc3 := (AA.out.2.2.of_block (hgr'.block gc (by have := AA.out.2.2.lt; exact this) (fun e => hd2 e.symm))).setOther (a := ⟨g, 0, none⟩) (fun e => hne e.symm) (.slice (some ⟨g', 0, none⟩) (n + 1) cap')
            have hg'g : (Value.slice (some ⟨g', 0, none⟩) (n + 1) cap').ownBlock ≠ some g := by
              intro e
              have e1 : g' = g := by simpa [Value.ownBlock] using e
              rcases hat' with h | h
              · exact hd1 (by rw [h, e1])
              · omega
            have hg'c : (Value.slice (some ⟨g', 0, none⟩) (n + 1) cap').ownBlock ≠ some gc := by
              intro e
              have e1 : g' = gc := by simpa [Value.ownBlock] using e
              rcases hat' with h | h
              · exact hd2 (by rw [h, e1])
              · have := hc.lt; omega
            have ho3 := (ownB_snoc b (y := y) (by have := HT.out; omega) hown').far (g := g) (k := 0) (x := .slice (some ⟨g', 0, none⟩) (n + 1) cap') hg'g
            have hb3 := (AA.out.2.1.grown hgr' (by have := hr.lt; simp; omega) (fun x hx => (World.ownsRow.lt AA.out.1 x hx).1)).setCell (p := ⟨g, 0, none⟩) hbg (.slice (some ⟨g', 0, none⟩) (n + 1) cap')
            obtain ⟨l2, hl2⟩ : ∃ x, x = 256 * l % 4294967296 := ⟨_, rfl⟩
            obtain ⟨z2, hz2'⟩ : ∃ x, x = 256 * z := ⟨_, rfl⟩
            have a1 : bits .and .u64 ((l : Int) * 256) 4294967295 = (l2 : Int) := by
              have h := and64 (256 * l) (by omega)
              rw [show ((256 * l : Nat) : Int) = (l : Int) * 256 by omega] at h
              rw [h, hl2]
            have a2 : (z : Int) * 256 = (z2 : Int) := by omega
            have HLZ := hide (And.intro hl2 hz2')
            clear hl2 hz2' hown' hgr' hat' hlt' c20 f20 r2 AA ra ca0 ca1 c0 c1 f0 c2 hr ho hc hbel m1 m2
            generalize w2.setCell ⟨g, 0, none⟩ (.slice (some ⟨g', 0, none⟩) (n + 1) cap') = W3 at *
            have d1 := cod_low r3
            have d2 := cod_size r3
            have e1 := r3.frozen 1
            have e2 := r3.frozen 2
            go_wp2_with fail
            have r4 := (cod_set ((cod_set r3).2.1 l2)).2.2 z2
            have s4 := sizeW_of (cod_size r4)
            refine ⟨⟨norm P, ?_, ⟨_, ?_, ?_, ?_, hg'g, hg'c⟩, (hb3.setCell (p := ⟨g, 1, none⟩) hbg _).setCell (p := ⟨g, 2, none⟩) hbg _⟩, ?_⟩
            · have hT := HT.out
              exact .inr ⟨rfl, by rw [← hT.1, ← hT.2.2.1]; exact hsz⟩
            · have hT := HT.out
              have hP : P.size < 16777216 := by rw [← hT.1, ← hT.2.2.1]; exact hsz
              rw [norm, if_pos hP]
              show World.rowIs _ g _ 4 (codV _ (256 * P.low % 4294967296) (256 * P.size) gc)
              rw [← hT.1, ← hT.2.2.1, (low_shift t.low).2, ← hT.2.1, ← HLZ.out.1, ← HLZ.out.2]
              exact r4
            · have hT := HT.out
              have hP : P.size < 16777216 := by rw [← hT.1, ← hT.2.2.1]; exact hsz
              rw [norm, if_pos hP]
              show ownB _ base _ (P.n + 1) (byN (P.n + 1) (256 * P.low / 4294967296))
              rw [← hT.1, ← hT.2.2.2.1, (low_shift t.low).1, ← hT.2.1, ← hT.2.2.2.2.1]
              refine ((ho3.far (g := g) (k := 1) hg'g).far (g := g) (k := 2) hg'g).congr (fun j hj => ?_)
              rw [byN_snoc n _ b j hj]
            · have hT := HT.out
              have hP : P.size < 16777216 := by rw [← hT.1, ← hT.2.2.1]; exact hsz
              rw [norm, if_pos hP]
              show World.rowIs _ gc _ 1600 (u64V P.ch)
              rw [← hT.1]
              exact (rc3.setOther (a := ⟨g, 1, none⟩) (fun e => hne e.symm) _).setOther (a := ⟨g, 2, none⟩) (fun e => hne e.symm) _
            · rw [s4, hsw.out, if_pos hsz, if_neg (by have hT := HT.out; have h := HNOK.out.lo; rw [norm, if_pos (by rw [← hT.1, ← hT.2.2.1]; exact hsz)] at h; have h' : 16777216 ≤ 256 * P.size := h; rw [← hT.1, ← hT.2.2.1] at h'; have := HLZ.out.2; omega)]
              omega
          · go_simp
            refine hK.out _ _ ca1 (fun hHeld => ?_)
            clear hK KK
            refine wpAnyH_ready (rs := [4]) (by kernel_rfl) (by simp) ?_
            refine AllReadyH.cons rfl (fun KK hK => ?_) AllReadyH.nil
            go_simp
            refine hK.out _ _ ca1 (fun hHeld => ?_)
            clear hK KK
            refine wpAnyH_ready (rs := [12]) (by kernel_rfl) (by simp) ?_
            refine AllReadyH.cons rfl (fun KK hK => ?_) AllReadyH.nil
            refine step_append_D _ (some 98) rfl rfl (.tmp 90) (.tmp 97) 22 rfl base 5 i0 (.int .u8 0) 1 1 Tryz.underlying22 hi0 hz0 hz1 hz2 rfl (by omega) ov n _ rfl AA.out.1 ⟨wr.heap.size, 0, none⟩ 1 1 [.int .u8 (y : Int)] rfl rfl (one_cell wr.drew _ _) (one_oneCell .u8 _) (by omega) (by have := hnb.out; unfold maxLen; omega) (by have := hnb.out; omega) (by have := hr.lt; simp; omega) (wr.heap.size + 1) (by simp) ?_
            intro g' cap' w2 hown' hgr' hat' hlt'
            have r2 := ra.of_block (hgr'.block g (by simp; omega) (fun e => hd1 e.symm))
            simp only [Act.put, List.setIfInBounds_toArray, List.set_cons_zero, List.set_cons_succ]
            refine hK.out _ _ (cod_low r2) (fun hHeld => ?_)
            clear hK KK
            refine takeD (i := 13) (v := .pointer (some ⟨g, 0, none⟩)) (some 99) rfl rfl (by kernel_rfl) (by kernel_rfl) (by kernel_rfl) (fun _ _ _ h => h) (Or.inl ⟨by rfl, fun w hSw => by go_simp⟩) hHeld ?_
            simp only [Act.put, List.setIfInBounds_toArray, List.set_cons_zero, List.set_cons_succ]
            refine takeD (i := 14) (v := .pointer (some ⟨g, 0, none⟩)) (some 100) rfl rfl (by kernel_rfl) (by kernel_rfl) (by kernel_rfl) (fun _ _ _ h => h) (Or.inl ⟨by rfl, fun w hSw => by go_simp⟩) hHeld ?_
            simp only [Act.put, List.setIfInBounds_toArray, List.set_cons_zero, List.set_cons_succ]
            have c20 := cod_out r2
            have f20 := r2.frozen 0
            refine wpAnyH_ready (rs := [15]) (by kernel_rfl) (by simp) ?_
            refine AllReadyH.cons rfl (fun KK hK => ?_) AllReadyH.nil
            go_simp
            have r3 := (cod_set r2).1 (.slice (some ⟨g', 0, none⟩) (n + 1) cap')
            refine hK.out _ _ (cod_low r3) (fun hHeld => ?_)
            clear hK KK
            refine wpAnyH_done (by kernel_rfl) ?_ _
            have rc3 := (AA.out.2.2.of_block (hgr'.block gc (by have := AA.out.2.2.lt; exact this) (fun e => hd2 e.symm))).setOther (a := ⟨g, 0, none⟩) (fun e => hne e.symm) (.slice (some ⟨g', 0, none⟩) (n + 1) cap')
            have hg'g : (Value.slice (some ⟨g', 0, none⟩) (n + 1) cap').ownBlock ≠ some g := by
              intro e
              have e1 : g' = g := by simpa [Value.ownBlock] using e
              rcases hat' with h | h
              · exact hd1 (by rw [h, e1])
              · omega
            have hg'c : (Value.slice (some ⟨g', 0, none⟩) (n + 1) cap').ownBlock ≠ some gc := by
              intro e
              have e1 : g' = gc := by simpa [Value.ownBlock] using e
              rcases hat' with h | h
              · exact hd2 (by rw [h, e1])
              · have := hc.lt; omega
            have ho3 := (ownB_snoc b (y := y) (by have := HT.out; omega) hown').far (g := g) (k := 0) (x := .slice (some ⟨g', 0, none⟩) (n + 1) cap') hg'g
            have hb3 := (AA.out.2.1.grown hgr' (by have := hr.lt; simp; omega) (fun x hx => (World.ownsRow.lt AA.out.1 x hx).1)).setCell (p := ⟨g, 0, none⟩) hbg (.slice (some ⟨g', 0, none⟩) (n + 1) cap')
            obtain ⟨l2, hl2⟩ : ∃ x, x = 256 * l % 4294967296 := ⟨_, rfl⟩
            obtain ⟨z2, hz2'⟩ : ∃ x, x = 256 * z := ⟨_, rfl⟩
            have a1 : bits .and .u64 ((l : Int) * 256) 4294967295 = (l2 : Int) := by
              have h := and64 (256 * l) (by omega)
              rw [show ((256 * l : Nat) : Int) = (l : Int) * 256 by omega] at h
              rw [h, hl2]
            have a2 : (z : Int) * 256 = (z2 : Int) := by omega
            have HLZ := hide (And.intro hl2 hz2')
            clear hl2 hz2' hown' hgr' hat' hlt' c20 f20 r2 AA ra ca0 ca1 c0 c1 f0 c2 hr ho hc hbel m1 m2
            generalize w2.setCell ⟨g, 0, none⟩ (.slice (some ⟨g', 0, none⟩) (n + 1) cap') = W3 at *
            have d1 := cod_low r3
            have d2 := cod_size r3
            have e1 := r3.frozen 1
            have e2 := r3.frozen 2
            go_wp2_with fail
            have r4 := (cod_set ((cod_set r3).2.1 l2)).2.2 z2
            have s4 := sizeW_of (cod_size r4)
            refine ⟨⟨norm P, ?_, ⟨_, ?_, ?_, ?_, hg'g, hg'c⟩, (hb3.setCell (p := ⟨g, 1, none⟩) hbg _).setCell (p := ⟨g, 2, none⟩) hbg _⟩, ?_⟩
            · have hT := HT.out
              exact .inr ⟨rfl, by rw [← hT.1, ← hT.2.2.1]; exact hsz⟩
            · have hT := HT.out
              have hP : P.size < 16777216 := by rw [← hT.1, ← hT.2.2.1]; exact hsz
              rw [norm, if_pos hP]
              show World.rowIs _ g _ 4 (codV _ (256 * P.low % 4294967296) (256 * P.size) gc)
              rw [← hT.1, ← hT.2.2.1, (low_shift t.low).2, ← hT.2.1, ← HLZ.out.1, ← HLZ.out.2]
              exact r4
            · have hT := HT.out
              have hP : P.size < 16777216 := by rw [← hT.1, ← hT.2.2.1]; exact hsz
              rw [norm, if_pos hP]
              show ownB _ base _ (P.n + 1) (byN (P.n + 1) (256 * P.low / 4294967296))
              rw [← hT.1, ← hT.2.2.2.1, (low_shift t.low).1, ← hT.2.1, ← hT.2.2.2.2.1]
              refine ((ho3.far (g := g) (k := 1) hg'g).far (g := g) (k := 2) hg'g).congr (fun j hj => ?_)
              rw [byN_snoc n _ b j hj]
            · have hT := HT.out
              have hP : P.size < 16777216 := by rw [← hT.1, ← hT.2.2.1]; exact hsz
              rw [norm, if_pos hP]
              show World.rowIs _ gc _ 1600 (u64V P.ch)
              rw [← hT.1]
              exact (rc3.setOther (a := ⟨g, 1, none⟩) (fun e => hne e.symm) _).setOther (a := ⟨g, 2, none⟩) (fun e => hne e.symm) _
            · rw [s4, hsw.out, if_pos hsz, if_neg (by have hT := HT.out; have h := HNOK.out.lo; rw [norm, if_pos (by rw [← hT.1, ← hT.2.2.1]; exact hsz)] at h; have h' : 16777216 ≤ 256 * P.size := h; rw [← hT.1, ← hT.2.2.1] at h'; have := HLZ.out.2; omega)]
              omega
        · have hsz' : ¬ (t.size : Int) < 16777216 := by omega
          have htS := hide (show t = norm P by
            rcases ht.out with h | ⟨h, _⟩
            · rw [norm, if_neg (by rw [← h]; exact hsz), h]
            · exact h)
          have hfin := hide (show Cod wr base g gc t from ⟨ov, hr, ho, hc, hd1, hd2⟩)
          obtain ⟨z, hz⟩ : ∃ z, z = t.size := ⟨_, rfl⟩
          rw [← hz] at c2 hsz'
          clear hr ho hc hd1 hd2 hsz hsw hz
          go_wp2_with fail
          go_end0
          exact ⟨rfl, by show Cod wr base g gc (norm (part1 s c _)); rw [← HPS.out, ← htS.out]; exact hfin.out, hbel⟩
end Go.Proofs.YtconcnndghmdfaaGreatDoor

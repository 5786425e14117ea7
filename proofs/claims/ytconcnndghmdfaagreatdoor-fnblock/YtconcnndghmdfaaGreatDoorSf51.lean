/- Put together: SealPb, SealPx, SealHd, SealPn. -/
import Derived.Test.YtconcnndghmdfaaGreatDoorSf50
import Derived.Defers
import Derived.Recover
namespace Go.Proofs.YtconcnndghmdfaaGreatDoor
open Go.RowKit
set_option maxRecDepth 100000 in
set_option maxHeartbeats 3200000 in
theorem imp_blockSeal (H M : ByteArray) (id far : Int) (t : ByteArray) (w : World) (htab : Tab w) (ht : t.size ≤ 9223372036854775807) :
 Calls Tryz.prog 7 #[.agg #[.string H, .string M], .int .i64 id, .int .i64 far, .string t] w fun e w' => e = .returned (.string (sealS (H, M) id far t)) ∧ Below w.heap.size w w' := by
 by_cases hk : keysOk (H, M) = true
 · have SK := hide (fun W => by have h := imp_keysRight H M W; rw [hk] at h; exact h)
   by_cases hi : idOk id = true
   · have SI := hide (fun W => by have h := imp_idRight id W; rw [hi] at h; exact h)
     obtain ⟨h0, h1⟩ : 0 ≤ id ∧ id ≤ 2000000 := by unfold idOk at hi; simpa using hi
     by_cases hr : farOk10 far = true
     · have SR := hide (fun W => by have h := imp_farRight far W; rw [hr] at h; exact h)
       obtain ⟨h2, h3⟩ : 0 ≤ far ∧ far ≤ 256 := by unfold farOk10 at hr; simpa using hr
       by_cases h4 : t.size ≤ 4000
       · rw [show sealS (H, M) id far t = sealB (H, M) id far t from if_pos ⟨hk, hi, h2, h3, h4⟩]
         by_cases hf : 0 < far
         · exact imp_sealGoodF H M id far t w htab hk h0 h1 h2 h3 h4 hf
         · exact imp_sealGoodN H M id far t w htab hk h0 h1 h2 h3 h4 hf
       · have d4 : (4000 : Int) < (t.size : Int) := by omega
         have d5 : decide ((4000 : Int) < (t.size : Int)) = true := decide_eq_true d4
         have E := hide (show sealS (H, M) id far t = ⟨#[]⟩ from if_neg (fun h => h4 h.2.2.2.2))
         clear hk hi hr htab
         go_enter Tryz.func7, Tryz.ntmps7
         go_wp2_with fail
         refine (SK.out _).mono ?_
         rintro e w1 ⟨rfl, hb1⟩
         have HB := KeyW.one hb1
         have c0 := HB.c0
         have c1 := HB.c1
         clear hb1 SK
         go_wp2_with fail
         refine (SI.out _).mono ?_
         rintro e w2 ⟨rfl, hb2⟩
         have HB := HB.call hb2
         have c0 := HB.c0
         have c1 := HB.c1
         clear hb2 SI
         go_wp2_with fail
         refine (SR.out _).mono ?_
         rintro e w3 ⟨rfl, hb3⟩
         have HB := HB.call hb3
         have c0 := HB.c0
         have c1 := HB.c1
         clear hb3 SR
         go_wp2_with fail
         go_ret
         exact ⟨by rw [E.out]; first | done | rfl, HB.low⟩
     · have hr' : farOk10 far = false := Bool.eq_false_iff.2 hr
       have SR := hide (fun W => by have h := imp_farRight far W; rw [hr'] at h; exact h)
       have E := hide (show sealS (H, M) id far t = ⟨#[]⟩ from if_neg (fun h => hr (by unfold farOk10; simp; exact ⟨h.2.2.1, h.2.2.2.1⟩)))
       clear hk hi hr hr' htab
       go_enter Tryz.func7, Tryz.ntmps7
       go_wp2_with fail
       refine (SK.out _).mono ?_
       rintro e w1 ⟨rfl, hb1⟩
       have HB := KeyW.one hb1
       have c0 := HB.c0
       have c1 := HB.c1
       clear hb1 SK
       go_wp2_with fail
       refine (SI.out _).mono ?_
       rintro e w2 ⟨rfl, hb2⟩
       have HB := HB.call hb2
       have c0 := HB.c0
       have c1 := HB.c1
       clear hb2 SI
       go_wp2_with fail
       refine (SR.out _).mono ?_
       rintro e w3 ⟨rfl, hb3⟩
       have HB := HB.call hb3
       have c0 := HB.c0
       have c1 := HB.c1
       clear hb3 SR
       go_wp2_with fail
       go_ret
       exact ⟨by rw [E.out]; first | done | rfl, HB.low⟩
   · have hi' : idOk id = false := Bool.eq_false_iff.2 hi
     have SI := hide (fun W => by have h := imp_idRight id W; rw [hi'] at h; exact h)
     have E := hide (show sealS (H, M) id far t = ⟨#[]⟩ from if_neg (fun h => hi h.2.1))
     clear hk hi hi' htab
     go_enter Tryz.func7, Tryz.ntmps7
     go_wp2_with fail
     refine (SK.out _).mono ?_
     rintro e w1 ⟨rfl, hb1⟩
     have HB := KeyW.one hb1
     have c0 := HB.c0
     have c1 := HB.c1
     clear hb1 SK
     go_wp2_with fail
     refine (SI.out _).mono ?_
     rintro e w2 ⟨rfl, hb2⟩
     have HB := HB.call hb2
     have c0 := HB.c0
     have c1 := HB.c1
     clear hb2 SI
     go_wp2_with fail
     go_ret
     exact ⟨by rw [E.out]; first | done | rfl, HB.low⟩
 · have hk' : keysOk (H, M) = false := Bool.eq_false_iff.2 hk
   have SK := hide (fun W => by have h := imp_keysRight H M W; rw [hk'] at h; exact h)
   have E := hide (show sealS (H, M) id far t = ⟨#[]⟩ from if_neg (fun h => hk h.1))
   clear hk hk' htab
   go_enter Tryz.func7, Tryz.ntmps7
   go_wp2_with fail
   refine (SK.out _).mono ?_
   rintro e w1 ⟨rfl, hb1⟩
   have HB := KeyW.one hb1
   have c0 := HB.c0
   have c1 := HB.c1
   clear hb1 SK
   go_wp2_with fail
   go_ret
   exact ⟨by rw [E.out]; first | done | rfl, HB.low⟩
end Go.Proofs.YtconcnndghmdfaaGreatDoor
namespace Go.Proofs.YtconcnndghmdfaaGreatDoor
open Go.RowKit Go
set_option maxRecDepth 100000 in
theorem catch_idle (p : Addr) (w : World) :
 CallsD Tryz.prog 35 #[.pointer (some p)] .returning w fun e u' w' => e = .returned (.tuple #[]) ∧ u' = .returning ∧ w' = w := by
 refine callsD_of_wpS Tryz.func35 rfl fun c₀ cs hu => ?_
 apply wpS_seq
 apply wpS_region
 simp [wpOpsS, go_sem, recoverD, hu, Tryz.ntmps35, Exit.thenS]
 refine wpS_of_wp ?_
 have hT : (#[Value.pointer (some p)] ++ ((Array.replicate 7 undef).setIfInBounds 1 Value.nilIface).setIfInBounds 0 Value.nilIface) = #[Value.pointer (some p), .nilIface, .nilIface, undef, undef, undef, undef, undef] := rfl
 rw [hT]
 go_wp2_with fail
 cases c₀
 simp_all [bodyPostS, results, Tryz.results35]
set_option maxRecDepth 100000 in
theorem catch_fault (g : Nat) (c : Int) (older : List PanicEntry) (w : World) (r0 : w.cell? ⟨g, 0, none⟩ = some (.string ⟨#[]⟩)) (r1 : w.cell? ⟨g, 1, none⟩ = some (.int .i64 0)) (r2 : w.cell? ⟨g, 2, none⟩ = some (.int .i64 0)) (fz : ∀ o, w.frozen? ⟨g, o, none⟩ = false) :
 CallsD Tryz.prog 35 #[.pointer (some ⟨g, 0, none⟩)] (.panicking ({ v := faultP c, recovered := false } :: older)) w fun e u' w' =>
  e = .returned (.tuple #[]) ∧ u' = .panicking ({ v := faultP c, recovered := true } :: older) ∧ w' = (((w.setCell ⟨g, 0, none⟩ (.string ⟨#[]⟩)).setCell ⟨g, 1, none⟩ (.int .i64 0)).setCell ⟨g, 2, none⟩ (.int .i64 c)) := by
 refine callsD_of_wpS Tryz.func35 rfl fun c₀ cs hu => ?_
 apply wpS_seq
 apply wpS_region
 simp [wpOpsS, go_sem, recoverD, hu, Tryz.ntmps35, Exit.thenS]
 refine wpS_of_wp ?_
 have S := hide (fun W => imp_faultCode c W)
 unfold faultP at *
 have hT : (#[Value.pointer (some ⟨g, 0, none⟩)] ++ ((Array.replicate 7 undef).setIfInBounds 1 (Value.iface 84 (.agg #[.int .i64 c]))).setIfInBounds 0 (Value.iface 84 (.agg #[.int .i64 c]))) = #[Value.pointer (some ⟨g, 0, none⟩), .iface 84 (.agg #[.int .i64 c]), .iface 84 (.agg #[.int .i64 c]), undef, undef, undef, undef, undef] := rfl
 rw [hT]
 go_wp2_with fail
 refine (S.out _).mono ?_
 rintro e w1 ⟨rfl, rfl⟩
 go_wp2_with fail
 cases c₀
 simp_all [bodyPostS, results, Tryz.results35]
set_option maxRecDepth 100000 in
set_option maxHeartbeats 1600000 in
theorem imp_open_long (H M b : ByteArray) (id : Int) (w : World) (hs : 20000 < b.size) (hb : b.size ≤ 9223372036854775807) :
 Calls Tryz.prog 11 #[.agg #[.string H, .string M], .int .i64 id, .string b] w fun e w' => e = .returned (textO ⟨#[]⟩ 2) ∧ Below w.heap.size w w' := by
 have hs' : (20000 : Int) < (b.size : Int) := by omega
 have hmf : ∀ (fn : Fn) (first cap : Array Value) (w : World), (Instr.makeFunc fn first cap).run Tryz.prog w = .ok (.func fn first cap) w := fun _ _ _ _ => rfl
 unfold textO
 go_enter_defers Tryz.func11, Tryz.ntmps11
 go_wp2_with fail
 have hr := heap_alloc_new (w.alloc (.cells #[.string H, .string M] 24)) (.cells #[.string ⟨#[]⟩, .int .i64 0, .int .i64 2] 31)
 rw [World.size_alloc] at hr
 exact ⟨_, results_cell_row Tryz.results11 _ _ (w.heap.size + 1) 31 #[.string ⟨#[]⟩, .int .i64 0, .int .i64 2] (0, 0) _ rfl hr Tryz.underlying31 rfl (by kernel_rfl), rfl, ((Below.refl _ _).alloc (Nat.le_refl _) _).alloc (by simp) _⟩
set_option maxRecDepth 100000 in
set_option maxHeartbeats 1600000 in
theorem imp_open_good (H M b t : ByteArray) (id : Int) (w : World) (hs : b.size ≤ 20000)
 (SO : Hid (∀ W : World, Below w.heap.size w W → Calls Tryz.prog 37 #[.agg #[.string H, .string M], .int .i64 id, .string b] W fun e w' => e = .returned (.string t) ∧ Below W.heap.size W w')) :
 Calls Tryz.prog 11 #[.agg #[.string H, .string M], .int .i64 id, .string b] w fun e w' => e = .returned (textO t 0) ∧ Below w.heap.size w w' := by
 have hs' : ¬ (20000 : Int) < (b.size : Int) := by omega
 have hmf : ∀ (fn : Fn) (first cap : Array Value) (w : World), (Instr.makeFunc fn first cap).run Tryz.prog w = .ok (.func fn first cap) w := fun _ _ _ _ => rfl
 have HB0 : OpW w H M _ := OpW.start (w := w) (H := H) (M := M)
 have c0 := HB0.c0
 have c1 := HB0.c1
 have HB := hide HB0
 clear HB0
 unfold textO
 go_enter_defers Tryz.func11, Tryz.ntmps11
 go_wp2_with fail
 refine (SO.out _ HB.out.low).mono ?_
 rintro e w1 ⟨rfl, hb1⟩
 have HB := hide (HB.out.call hb1)
 clear hb1 c0 c1
 have r0 := HB.out.r0
 have r1 := HB.out.r1
 have r2 := HB.out.r2
 have fz := HB.out.fz
 go_wp2_with fail
 refine leaves_cons (f := 35) (args := #[.pointer (some ⟨w.heap.size + 1, 0, none⟩)]) (by simp) (by simp [go_sem]) ?_
 refine (catch_idle ⟨w.heap.size + 1, 0, none⟩ _).mono ?_
 rintro e u' w'' ⟨rfl, rfl, rfl⟩
 exact ⟨_, results_cell_row Tryz.results11 _ _ (w.heap.size + 1) 31 #[.string t, .int .i64 0, .int .i64 0] (0, 0) _ rfl (HB.out.all _ _ _) Tryz.underlying31 rfl (by kernel_rfl), rfl, HB.out.set3 _ _ _⟩
set_option maxRecDepth 100000 in
set_option maxHeartbeats 1600000 in
theorem imp_open_bad (H M b : ByteArray) (id c : Int) (w : World) (hs : b.size ≤ 20000)
 (SO : Hid (∀ W : World, Below w.heap.size w W → Calls Tryz.prog 37 #[.agg #[.string H, .string M], .int .i64 id, .string b] W fun e w' => e = .panicked [{ v := faultP c, recovered := false }] ∧ Below W.heap.size W w')) :
 Calls Tryz.prog 11 #[.agg #[.string H, .string M], .int .i64 id, .string b] w fun e w' => e = .returned (textO ⟨#[]⟩ c) ∧ Below w.heap.size w w' := by
 have hs' : ¬ (20000 : Int) < (b.size : Int) := by omega
 have hmf : ∀ (fn : Fn) (first cap : Array Value) (w : World), (Instr.makeFunc fn first cap).run Tryz.prog w = .ok (.func fn first cap) w := fun _ _ _ _ => rfl
 have HB0 : OpW w H M _ := OpW.start (w := w) (H := H) (M := M)
 have c0 := HB0.c0
 have c1 := HB0.c1
 have HB := hide HB0
 clear HB0
 unfold textO
 go_enter_defers Tryz.func11, Tryz.ntmps11
 go_wp2_with fail
 refine (SO.out _ HB.out.low).mono ?_
 rintro e w1 ⟨rfl, hb1⟩
 have HB := hide (HB.out.call hb1)
 clear hb1 c0 c1
 have r0 := HB.out.r0
 have r1 := HB.out.r1
 have r2 := HB.out.r2
 have fz := HB.out.fz
 go_wp2_with fail
 refine leaves_cons (f := 35) (args := #[.pointer (some ⟨w.heap.size + 1, 0, none⟩)]) (by simp) (by simp [go_sem]) ?_
 refine (catch_fault (w.heap.size + 1) c [] w1 r0 r1 r2 fz).mono ?_
 rintro e u' w'' ⟨rfl, rfl, rfl⟩
 exact ⟨_, results_cell_row Tryz.results11 _ _ (w.heap.size + 1) 31 #[.string ⟨#[]⟩, .int .i64 0, .int .i64 c] (0, 0) _ rfl (HB.out.all _ _ _) Tryz.underlying31 rfl (by kernel_rfl), rfl, HB.out.set3 _ _ _⟩
end Go.Proofs.YtconcnndghmdfaaGreatDoor
namespace Go.Proofs.YtconcnndghmdfaaGreatDoor
open Go.RowKit
theorem inFront_list (s p : ByteArray) : inFront s p ↔ p.data.toList <+: s.data.toList := by
 have hp : p.data.toList.length = p.size := rfl
 have hs : s.data.toList.length = s.size := rfl
 constructor
 · rintro ⟨h1, h2⟩
   refine ⟨s.data.toList.drop p.size, ?_⟩
   have e : p.data.toList = s.data.toList.take p.size := by
    have := congrArg (fun x : ByteArray => x.data.toList) h2
    simp only [data_take] at this
    exact this.symm
   rw [e]
   exact List.take_append_drop _ _
 · rintro ⟨r, hr⟩
   refine ⟨by rw [← hs, ← hr, List.length_append]; omega, ?_⟩
   apply ByteArray.ext
   rw [← Array.toList_inj, data_take, ← hr, ← hp]
   exact List.take_left
theorem numB_list (n : Int) : (numB n).data.toList = encNum (foldNum n) := by unfold numB; simp
theorem front_yes (t : ByteArray) (id : Int) (h0 : 0 ≤ id) (h1 : id ≤ 2000000) (h : inFront t (numB id)) :
 (num1 t).1 = 0 ∧ unfold (num1 t).2.1 = id ∧ (num1 t).2.2 = (numB id).size ∧ decAt (cutT t (numB id)) 0 = num2 t ∧ cutT t (numB id) = t.extract (numB id).size t.size := by
 have hc : cutT t (numB id) = t.extract (numB id).size t.size := if_pos h
 have hl : (numB id).size = (encNum (foldNum id)).length := by unfold numB; exact size_mk _
 obtain ⟨r, hr⟩ := (inFront_list _ _).1 h
 rw [numB_list] at hr
 have hn : num1 t = (0, foldNum id, (encNum (foldNum id)).length) := by
  unfold num1 decAt
  rw [List.drop_zero, ← hr]
  exact dec_whole _ _ (foldNum_small id h0 h1)
 refine ⟨by rw [hn], by rw [hn]; exact unfold_fold id, by rw [hn, hl], ?_, hc⟩
 unfold num2
 rw [hn, hc, hl]
 unfold decAt
 rw [ext_list', List.drop_zero]
theorem front_no (t : ByteArray) (id : Int) (h0 : 0 ≤ id) (h1 : id ≤ 2000000) (h : ¬ inFront t (numB id)) : ¬ headOk t id := by
 intro hk
 refine h ((inFront_list _ _).2 ?_)
 rw [numB_list]
 exact (front_is t id h0 h1).2 ⟨hk.1, hk.2.2.1⟩
theorem rest_cut (t : ByteArray) (p m : Nat) : (t.extract p t.size).extract m (t.extract p t.size).size = t.extract (p + m) t.size := by
 apply ByteArray.ext
 rw [← Array.toList_inj, ext_list', ext_list', ext_list', List.drop_drop]
end Go.Proofs.YtconcnndghmdfaaGreatDoor
namespace Go.Proofs.YtconcnndghmdfaaGreatDoor
open Go.RowKit Go
set_option maxRecDepth 100000 in
set_option maxHeartbeats 1600000 in
theorem imp_body_short (H M b : ByteArray) (w : World) (hs : b.size < 18) :
 Calls Tryz.prog 64 #[.agg #[.string H, .string M], .string b] w fun e w' => e = .panicked [{ v := faultP 4, recovered := false }] ∧ Below w.heap.size w w' := by
 have h' : ¬ 18 ≤ (b.size : Int) := by omega
 have d' : decide (18 ≤ (b.size : Int)) = false := decide_eq_false h'
 have q0 := hide ((Below.refl w.heap.size w).alloc (Nat.le_refl _) (.cells #[.string H, .string M] 24))
 have SD := hide (fun W => imp_demand_no 4 W)
 go_enter Tryz.func64, Tryz.ntmps64
 go_wp2_with fail
 refine (SD.out _).mono ?_
 rintro e w1 ⟨rfl, rfl⟩
 go_wp2_with fail
 exact ⟨rfl, rfl, q0.out⟩
set_option maxRecDepth 100000 in
set_option maxHeartbeats 3200000 in
theorem imp_body (H M b : ByteArray) (w : World) (htab : Tab w) (hM : M.size ≤ 20000) (hs : 18 ≤ b.size) (hb : b.size ≤ 20000) :
 Calls Tryz.prog 64 #[.agg #[.string H, .string M], .string b] w fun e w' => e = (if take16 (macT M (bodyX b)) = tailX b then .returned (.string (bodyX b)) else .panicked [{ v := faultP 10, recovered := false }]) ∧ Below w.heap.size w w' := by
 have h' : 18 ≤ (b.size : Int) := by omega
 have d' : decide (18 ≤ (b.size : Int)) = true := decide_eq_true h'
 obtain ⟨L, hL⟩ : ∃ L, b.size = L + 16 := ⟨b.size - 16, by omega⟩
 have hn : (b.size : Int) - 16 = (L : Int) := by omega
 have hbd : b.extract 0 L = bodyX b := by unfold bodyX; rw [show b.size - 16 = L by omega]
 have htl : b.extract L b.size = tailX b := by unfold tailX; rw [show b.size - 16 = L by omega]
 have hls : (bodyX b).size = L := by rw [bodyX_size]; omega
 have hsl1 : ∀ W : World, (Instr.slice 9 (.string b) none (some (.int .i64 (L : Int))) none).run Tryz.prog W = .ok (.string (bodyX b)) W := fun W => by rw [← hbd]; exact run_front (P := Tryz.prog) W 9 b L Tryz.underlying9 (by omega)
 have hsl2 : ∀ W : World, (Instr.slice 9 (.string b) (some (.int .i64 (L : Int))) none none).run Tryz.prog W = .ok (.string (tailX b)) W := fun W => by rw [← htl]; exact run_back (P := Tryz.prog) W 9 b L Tryz.underlying9 (by omega)
 have SM := hide (fun W (h : Tab W) => imp_macOf H M (bodyX b) W hM (by omega) h)
 have SD := hide (fun W => imp_demand_yes 4 W)
 have SE := hide (fun W => imp_demand_yes 10 W)
 have SN := hide (fun W => imp_demand_no 10 W)
 have HT := hide htab
 have HB0 : KeyW w H M (w.alloc (.cells #[.string H, .string M] 24)) := ⟨Below.refl _ _⟩
 have HB := hide HB0
 have c0 := HB0.c0
 have c1 := HB0.c1
 generalize take16 (macT M (bodyX b)) = X at *
 generalize bodyX b = BD at *
 generalize tailX b = TL at *
 clear hbd htl hls htab HB0 hL
 by_cases hX : X = TL
 · rw [if_pos hX]
   subst hX
   go_enter Tryz.func64, Tryz.ntmps64
   go_wp2_with fail
   refine (SD.out _).mono ?_
   rintro e w1 ⟨rfl, rfl⟩
   go_wp2_with fail
   go_quiet (fail)
   go_wp2_with fail
   refine (SM.out _ (HT.out.low (below_drewN HB.out.low nq))).mono ?_
   rintro e w2 ⟨rfl, hb2⟩
   have HB2 := hide (show KeyW w H M w2 from ⟨(below_drewN HB.out.b nq).trans (hb2.mono HB.out.size)⟩)
   clear hb2
   go_wp2_with fail
   refine (SE.out _).mono ?_
   rintro e w3 ⟨rfl, rfl⟩
   go_wp2_with fail
   go_ret
   exact ⟨rfl, HB2.out.low⟩
 · rw [if_neg hX]
   have hq2 : (X.toList == TL.toList) = false := by rw [list_beq, decide_eq_false hX]
   go_enter Tryz.func64, Tryz.ntmps64
   go_wp2_with fail
   refine (SD.out _).mono ?_
   rintro e w1 ⟨rfl, rfl⟩
   go_wp2_with fail
   go_quiet (fail)
   go_wp2_with fail
   refine (SM.out _ (HT.out.low (below_drewN HB.out.low nq))).mono ?_
   rintro e w2 ⟨rfl, hb2⟩
   have HB2 := hide (show KeyW w H M w2 from ⟨(below_drewN HB.out.b nq).trans (hb2.mono HB.out.size)⟩)
   clear hb2
   go_wp2_with fail
   refine (SN.out _).mono ?_
   rintro e w3 ⟨rfl, rfl⟩
   go_wp2_with fail
   exact ⟨rfl, rfl, HB2.out.low⟩
theorem numRet_at (t : ByteArray) (q : Nat) : (∃ n a : Int, numRet q (decAt t q) = .tuple #[.int .i64 n, .int .i64 a, .nilIface] ∧ (decAt t q).1 = 0 ∧ n = unfold (decAt t q).2.1 ∧ a = ((q + (decAt t q).2.2 : Nat) : Int)) ∨ (∃ c : Int, numRet q (decAt t q) = .tuple #[.int .i64 0, .int .i64 0, faultP c] ∧ ¬ (decAt t q).1 = 0) := by
 rcases decAt_form t q with ⟨U, m, h, hm⟩ | h | h <;> rw [h]
 · refine .inl ⟨unfold U, (q : Int) + m, by rw [numRet_good], rfl, rfl, ?_⟩
   show (q : Int) + (m : Int) = ((q + m : Nat) : Int); omega
 · exact .inr ⟨3, by rw [numRet_bad q 3 (by omega)]; rfl, by simp⟩
 · exact .inr ⟨4, by rw [numRet_bad q 4 (by omega)]; rfl, by simp⟩
set_option maxRecDepth 100000 in
set_option maxHeartbeats 3200000 in
theorem imp_hiddenOf (t : ByteArray) (id : Int) (w : World) (h0 : 0 ≤ id) (h1 : id ≤ 2000000) (ht : t.size ≤ 20000) :
 Calls Tryz.prog 63 #[.string t, .int .i64 id] w fun e w' => e = (if headOk t id then .returned (.tuple #[.int .i64 (farX t), .string (restX t)]) else .panicked [{ v := faultP 5, recovered := false }]) ∧ Below w.heap.size w w' := by
 have SN := hide (show ∀ W : World, Calls Tryz.prog 28 #[.int .i64 id] W fun e w' => e = .returned (.string (numB id)) ∧ Below W.heap.size W w' from fun W => impl_putNum id W (by omega) (by omega))
 have SP := hide (fun W => imp_cutPre t (numB id) W)
 have SD := hide (fun W => imp_demand_yes 5 W)
 have SE := hide (fun W => imp_demand_no 5 W)
 by_cases hf : inFront t (numB id)
 · obtain ⟨k1, k2, k3, k4, k5⟩ := front_yes t id h0 h1 hf
   rw [decide_eq_true hf] at SP
   have hcs : (cutT t (numB id)).size ≤ 20000 := by rw [k5, ByteArray.size_extract]; omega
   have SR0 : ∀ W : World, Calls Tryz.prog 99 #[.string (cutT t (numB id)), .int .i64 0] W fun e w' => e = .returned (numRet 0 (decAt (cutT t (numB id)) 0)) ∧ W = w' := fun W => impl_readNum (cutT t (numB id)) 0 W hcs (by decide)
   rcases numRet_at (cutT t (numB id)) 0 with ⟨n, a, e1, e2, e3, e4⟩ | ⟨c, e1, e2⟩
   · rw [e1] at SR0
     rw [k4] at e2 e3 e4
     have hm : fromX t = (numB id).size + (num2 t).2.2 := by unfold fromX; rw [k3]
     have hle := fromX_le t
     have hN : (numB id).size ≤ t.size := hf.1
     have hrx : (cutT t (numB id)).extract (num2 t).2.2 (cutT t (numB id)).size = restX t := by
      rw [k5, rest_cut, ← hm]; rfl
     have hsl : ∀ W : World, (Instr.slice 9 (.string (cutT t (numB id))) (some (.int .i64 a)) none none).run Tryz.prog W = .ok (.string (restX t)) W := fun W => by
      rw [e4, Nat.zero_add, ← hrx]; exact run_back (P := Tryz.prog) W 9 _ _ Tryz.underlying9 (by rw [k5, ByteArray.size_extract]; omega)
     have hfar : farX t = n := e3.symm
     have hok : headOk t id ↔ (0 ≤ n ∧ n ≤ 256) := by
      unfold headOk
      rw [← e3]
      exact ⟨fun h => ⟨h.2.2.2.1, h.2.2.2.2⟩, fun h => ⟨k1, e2, k2, h.1, h.2⟩⟩
     have SR := hide SR0
     clear SR0 e1 e2 e3 e4 hm hle hN hrx hcs k1 k2 k3 k4 k5 hf
     rw [hfar]
     generalize restX t = RX at *
     generalize cutT t (numB id) = CT at *
     by_cases hr : 0 ≤ n ∧ n ≤ 256
     · rw [if_pos (hok.2 hr)]
       have SF := hide (fun W => by have h := imp_farRight n W; rw [show farOk10 n = true by unfold farOk10; simp; exact hr] at h; exact h)
       clear hok hr hfar
       go_enter Tryz.func63, Tryz.ntmps63
       go_wp2_with fail
       refine (SN.out _).mono ?_
       rintro e w1 ⟨rfl, hb1⟩
       go_wp2_with fail
       refine (SP.out _).mono ?_
       rintro e w2 ⟨rfl, rfl⟩
       go_wp2_with fail
       refine (SD.out _).mono ?_
       rintro e w3 ⟨rfl, rfl⟩
       go_wp2_with fail
       refine (SR.out _).mono ?_
       rintro e w4 ⟨rfl, rfl⟩
       go_wp2_with fail
       refine (SF.out _).mono ?_
       rintro e w5 ⟨rfl, hb5⟩
       have HB := hide (hb1.trans (hb5.mono hb1.size))
       clear hb1 hb5
       go_wp2_with fail
       refine (SD.out _).mono ?_
       rintro e w6 ⟨rfl, rfl⟩
       go_wp2_with fail
       go_quiet (fail)
       go_wp2_with fail
       go_ret2
       exact ⟨rfl, below_drewN HB.out _⟩
     · rw [if_neg (fun h => hr (hok.1 h))]
       have SF := hide (fun W => by have h := imp_farRight n W; rw [show farOk10 n = false from Bool.eq_false_iff.2 (fun h => hr (by unfold farOk10 at h; simpa using h))] at h; exact h)
       clear hok hr hfar
       go_enter Tryz.func63, Tryz.ntmps63
       go_wp2_with fail
       refine (SN.out _).mono ?_
       rintro e w1 ⟨rfl, hb1⟩
       go_wp2_with fail
       refine (SP.out _).mono ?_
       rintro e w2 ⟨rfl, rfl⟩
       go_wp2_with fail
       refine (SD.out _).mono ?_
       rintro e w3 ⟨rfl, rfl⟩
       go_wp2_with fail
       refine (SR.out _).mono ?_
       rintro e w4 ⟨rfl, rfl⟩
       go_wp2_with fail
       refine (SF.out _).mono ?_
       rintro e w5 ⟨rfl, hb5⟩
       have HB := hide (hb1.trans (hb5.mono hb1.size))
       clear hb1 hb5
       go_wp2_with fail
       refine (SE.out _).mono ?_
       rintro e w6 ⟨rfl, rfl⟩
       go_wp2_with fail
       exact ⟨rfl, rfl, HB.out⟩
   · rw [e1] at SR0
     rw [k4] at e2
     rw [if_neg (fun h => e2 h.2.1)]
     have SR := hide SR0
     clear SR0 e1 e2 k1 k2 k3 k4 k5 hf hcs
     unfold faultP at SR
     generalize cutT t (numB id) = CT at *
     go_enter Tryz.func63, Tryz.ntmps63
     go_wp2_with fail
     refine (SN.out _).mono ?_
     rintro e w1 ⟨rfl, hb1⟩
     go_wp2_with fail
     refine (SP.out _).mono ?_
     rintro e w2 ⟨rfl, rfl⟩
     go_wp2_with fail
     refine (SD.out _).mono ?_
     rintro e w3 ⟨rfl, rfl⟩
     go_wp2_with fail
     refine (SR.out _).mono ?_
     rintro e w4 ⟨rfl, rfl⟩
     go_wp2_with fail
     refine (SE.out _).mono ?_
     rintro e w6 ⟨rfl, rfl⟩
     go_wp2_with fail
     exact ⟨rfl, rfl, hb1⟩
 · rw [if_neg (front_no t id h0 h1 hf)]
   rw [decide_eq_false hf] at SP
   clear hf
   generalize cutT t (numB id) = CT at *
   go_enter Tryz.func63, Tryz.ntmps63
   go_wp2_with fail
   refine (SN.out _).mono ?_
   rintro e w1 ⟨rfl, hb1⟩
   go_wp2_with fail
   refine (SP.out _).mono ?_
   rintro e w2 ⟨rfl, rfl⟩
   go_wp2_with fail
   refine (SE.out _).mono ?_
   rintro e w3 ⟨rfl, rfl⟩
   go_wp2_with fail
   exact ⟨rfl, rfl, hb1⟩
end Go.Proofs.YtconcnndghmdfaaGreatDoor

/- Put together: CodeOf, ImpUnp, SealPv, SealPy, DifU. -/
import Derived.Test.YtconcnndghmdfaaGreatDoorSd42
namespace Go.Proofs.YtconcnndghmdfaaGreatDoor
open Go.RowKit
def Laid (w : World) : Prop := w.cell? ⟨0, 0, none⟩ = some (.iface 221 (.agg #[.pointer (some ⟨2, 138, none⟩)]))
theorem Laid.pos {w : World} (h : Laid w) : 0 < w.heap.size := by
 unfold Laid at h
 rcases Nat.eq_zero_or_pos w.heap.size with h0 | h1
 · simp [World.cell?, h0] at h
 · exact h1
theorem Laid.below {w w1 : World} {n : Nat} (h : Laid w) (hb : Below n w w1) (hn : 0 < n) : Laid w1 := by
 unfold Laid at *
 rw [← h]; exact hb.cell (p := ⟨0, 0, none⟩) hn
theorem Laid.alloc {w : World} (h : Laid w) (o : Obj) : Laid (w.alloc o) := by
 have hp := h.pos
 unfold Laid at *
 rw [World.cell?_alloc_lt _ _ ⟨0, 0, none⟩ hp]; exact h
set_option maxHeartbeats 800000 in
theorem codeOf_nil (w : World) : Calls Tryz.prog 101 #[.nilIface] w fun e w' => e = .returned (.int .i64 0) ∧ Below w.heap.size w w' := by
 go_enter Tryz.func101, Tryz.ntmps101
 go_wp2_with (go_at_call 133; refine (as_nil _ _).mono ?_; rintro e w' ⟨rfl, rfl⟩)
 go_ret
 exact ⟨rfl, by go_grown⟩
set_option maxHeartbeats 800000 in
theorem codeOf_fault (c : Int) (w : World) (hg : Laid w) : Calls Tryz.prog 101 #[.iface 84 (.agg #[.int .i64 c])] w fun e w' => e = .returned (.int .i64 c) ∧ Below w.heap.size w w' := by
 have hg1 : Laid (w.alloc (.cells #[.int .i64 0] 84)) := hg.alloc _
 unfold Laid at hg1
 clear hg
 have ht1 : (w.alloc (.cells #[.int .i64 0] 84)).cell? ⟨w.heap.size, 0, none⟩ = some (.int .i64 0) := by simp
 have hf1 : (w.alloc (.cells #[.int .i64 0] 84)).frozen? ⟨w.heap.size, 0, none⟩ = false := by simp
 go_enter Tryz.func101, Tryz.ntmps101
 go_wp2_with (go_at_call 133; refine (as_hit c _ (.int .i64 0) _ hg1 ht1 hf1).mono ?_; rintro e w' ⟨rfl, rfl⟩)
 go_ret
 exact ⟨rfl, by go_grown⟩
def unpR (r : ByteArray × Int) : Value := .tuple #[.string r.1, if r.2 = 0 then .nilIface else .iface 84 (.agg #[.int .i64 r.2])]
set_option maxRecDepth 100000 in
set_option maxHeartbeats 1600000 in
theorem imp_unpacked (s : ByteArray) (w : World) (hs : s.size ≤ 20000) :
 Calls Tryz.prog 100 #[.string s] w fun e w' => e = .returned (unpR (unpackS s)) ∧ Below w.heap.size w w' := by
 have hE := show unpackS s = _ from if_neg (show ¬ 20000 < s.size by omega)
 have SR := hide (impl_readNum s 0 w hs (by omega))
 rcases decAt_form s 0 with ⟨U, m, hd, hm⟩ | hd | hd
 · rw [hd] at hE SR
   rw [numRet_good] at SR
   simp only at hE
   obtain ⟨N, hN⟩ : ∃ N, N = unfold U := ⟨_, rfl⟩
   rw [← hN] at hE SR
   by_cases h3 : N < 0 ∨ 4000 < N
   · rw [if_pos h3] at hE
     rw [hE]
     by_cases h1 : N < 0
     · have d1 : decide (N < 0) = true := decide_eq_true h1
       clear hE hd hm hN
       go_enter Tryz.func100, Tryz.ntmps100
       go_wp2_with fail
       refine SR.out.mono ?_
       rintro e w1 ⟨rfl, rfl⟩
       clear SR
       go_wp2_with fail
       go_ret2
       exact ⟨rfl, Below.refl _ _⟩
     · have h2 : 4000 < N := by omega
       have d1 : decide (N < 0) = false := decide_eq_false h1
       have d2 : decide (4000 < N) = true := decide_eq_true h2
       clear hE hd hm hN
       go_enter Tryz.func100, Tryz.ntmps100
       go_wp2_with fail
       refine SR.out.mono ?_
       rintro e w1 ⟨rfl, rfl⟩
       clear SR
       go_wp2_with fail
       go_ret2
       exact ⟨rfl, Below.refl _ _⟩
   · rw [if_neg h3] at hE
     obtain ⟨n, hn⟩ : ∃ n : Nat, N = (n : Int) := ⟨N.toNat, by omega⟩
     have hn4 : n ≤ 4000 := by omega
     rw [hn] at hE SR
     rw [Int.toNat_natCast] at hE
     rw [hE]
     obtain ⟨q, hq⟩ : ∃ q, q = m := ⟨_, rfl⟩
     have e0 : ((0 : Nat) : Int) + (m : Int) = (m : Int) := by omega
     rw [e0] at SR
     have hms : m ≤ s.size := by omega
     have hrest := fun u : World => run_rest (P := Tryz.prog) u 9 s m Tryz.underlying9 hms
     obtain ⟨r, hr⟩ : ∃ r, r = s.extract m s.size := ⟨_, rfl⟩
     have hrs : r.size ≤ 20000 := by rw [hr, ByteArray.size_extract]; omega
     have HUN := hide (show unpN s m n = if (unpO r n).2 = true then (if packB (unpO r n).1 = s then ((unpO r n).1, 0) else (⟨#[]⟩, 3)) else (⟨#[]⟩, 5) by rw [hr]; rfl)
     rw [← hr] at hrest
     have d1 : decide ((n : Int) < 0) = false := decide_eq_false (by omega)
     have d2 : decide ((4000 : Int) < (n : Int)) = false := decide_eq_false (by omega)
     have d2' : decide (4000 < n) = false := decide_eq_false (by omega)
     have hmi : (m : Int) ≤ (s.size : Int) := by omega
     have HSZ := hide (unpO_size r n)
     clear hE hd hm hN hn h3 hq hr e0
     go_enter Tryz.func100, Tryz.ntmps100
     go_wp2_with fail
     refine SR.out.mono ?_
     rintro e w1 ⟨rfl, rfl⟩
     clear SR
     go_wp2_with fail
     refine (imp_newDecoder r w (by omega)).mono ?_
     rintro e w2 ⟨g, rfl, hg, hdec, hb2⟩
     have ST := hide (imp_text w.heap.size g n r w2 hn4 (by omega) hdec hg)
     obtain ⟨⟨B, ok⟩, hUU⟩ : ∃ UU, UU = unpO r n := ⟨_, rfl⟩
     rw [← hUU] at ST HUN HSZ
     have B2 := hide hb2
     clear hb2 hdec hUU
     go_wp2_with fail
     refine ST.out.mono ?_
     rintro e w3 ⟨rfl, hb3⟩
     have B3 := hide (B2.out.trans hb3)
     clear hb3 ST
     cases ok with
     | false =>
       have HU := hide (show unpN s m n = (⟨#[]⟩, 5) by rw [HUN.out]; rfl)
       clear HUN
       go_wp2_with fail
       go_ret2
       exact ⟨by rw [HU.out]; rfl, B3.out⟩
     | true =>
       have hB : B.size = n := HSZ.out rfl
       have SP := hide (imp_pack B w3 (by omega))
       have hPS : packS B = packB B := if_pos (by omega)
       rw [hPS] at SP
       obtain ⟨P, hP⟩ : ∃ P, P = packB B := ⟨_, rfl⟩
       rw [← hP] at SP
       have HUN2 := hide (show unpN s m n = if P = s then (B, 0) else (⟨#[]⟩, 3) by rw [HUN.out, hP]; rfl)
       clear HUN hB hPS hP HSZ
       by_cases hPs : P = s
       · have st : (P.toList == s.toList) = true := str_eq hPs
         have HU := hide (show unpN s m n = (B, 0) by rw [HUN2.out, if_pos hPs])
         clear HUN2 hPs
         go_wp2_with fail
         refine SP.out.mono ?_
         rintro e w4 ⟨rfl, hb4⟩
         have B4 := hide (B3.out.trans (hb4.mono B3.out.size))
         clear hb4 SP
         go_wp2_with fail
         go_ret2
         exact ⟨by rw [HU.out]; rfl, B4.out⟩
       · have st : (P.toList == s.toList) = false := str_ne hPs
         have HU := hide (show unpN s m n = (⟨#[]⟩, 3) by rw [HUN2.out, if_neg hPs])
         clear HUN2 hPs
         go_wp2_with fail
         refine SP.out.mono ?_
         rintro e w4 ⟨rfl, hb4⟩
         have B4 := hide (B3.out.trans (hb4.mono B3.out.size))
         clear hb4 SP
         go_wp2_with fail
         go_ret2
         exact ⟨by rw [HU.out]; rfl, B4.out⟩
 all_goals
  rw [hd] at hE SR
  rw [numRet_bad _ _ (by decide)] at SR
  have hE2 : unpackS s = (⟨#[]⟩, 3) := hE
  rw [hE2]
  clear hE hE2 hd
  go_enter Tryz.func100, Tryz.ntmps100
  go_wp2_with fail
  refine SR.out.mono ?_
  rintro e w1 ⟨rfl, rfl⟩
  clear SR
  go_wp2_with fail
  go_ret2
  exact ⟨rfl, Below.refl _ _⟩
set_option maxRecDepth 100000 in
set_option maxHeartbeats 1600000 in
theorem imp_unpack (s : ByteArray) (w : World) (hg : Laid w) (hs : s.size ≤ 9223372036854775807) :
 Calls Tryz.prog 65 #[.string s] w fun e w' => e = .returned (textO (unpackS s).1 (unpackS s).2) ∧ Below w.heap.size w w' := by
 by_cases h : 20000 < s.size
 · have hE : unpackS s = (⟨#[]⟩, 2) := if_pos h
   rw [hE]
   clear hE
   go_enter Tryz.func65, Tryz.ntmps65
   go_wp2_with fail
   go_returns
   exact ⟨rfl, by go_grown⟩
 · have hg1 := hide (hg.alloc (.cells #[.string ⟨#[]⟩, .int .i64 0, .int .i64 0] 31))
   have SU := hide (imp_unpacked s (w.alloc (.cells #[.string ⟨#[]⟩, .int .i64 0, .int .i64 0] 31)) (by omega))
   obtain ⟨⟨B, c⟩, hR⟩ : ∃ R, R = unpackS s := ⟨_, rfl⟩
   rw [← hR] at SU
   simp only [unpR] at SU
   have HR := hide hR
   clear hR hg
   go_enter Tryz.func65, Tryz.ntmps65
   go_wp2_with fail
   by_cases hc : c = 0
   · subst hc
     rw [if_pos rfl] at SU
     refine SU.out.mono ?_
     rintro e w1 ⟨rfl, hb1⟩
     have HB1 := hide hb1
     clear hb1 SU
     go_wp2_with fail
     refine (codeOf_nil _).mono ?_
     rintro e w2 ⟨rfl, hb2⟩
     have hb := HB1.out.trans (hb2.mono HB1.out.size)
     simp at hb
     obtain ⟨⟨c0, c1, c2⟩, hf⟩ := out_cells hb (Nat.lt_succ_self _) (heap_alloc_new w _)
     obtain ⟨r0, r1, r2⟩ := out_read (.string B) (.int .i64 0) (.int .i64 0) c0 c1 c2
     have HB := hide hb
     clear hb hb2 HB1
     go_wp2_with fail
     exact bodyPost_ret (v := textO B 0) (by simp [results, Tryz.results65, go_sem, r0, r1, r2, textO]) rfl ⟨by rw [← HR.out], below_out' HB.out⟩
   · rw [if_neg hc] at SU
     refine SU.out.mono ?_
     rintro e w1 ⟨rfl, hb1⟩
     have HB1 := hide hb1
     have hg2 := hide (hg1.out.below hb1 (by simp))
     clear hb1 SU
     go_wp2_with fail
     refine (codeOf_fault c _ hg2.out).mono ?_
     rintro e w2 ⟨rfl, hb2⟩
     have hb := HB1.out.trans (hb2.mono HB1.out.size)
     simp at hb
     obtain ⟨⟨c0, c1, c2⟩, hf⟩ := out_cells hb (Nat.lt_succ_self _) (heap_alloc_new w _)
     obtain ⟨r0, r1, r2⟩ := out_read (.string B) (.int .i64 0) (.int .i64 c) c0 c1 c2
     have HB := hide hb
     clear hb hb2 HB1
     go_wp2_with fail
     exact bodyPost_ret (v := textO B c) (by simp [results, Tryz.results65, go_sem, r0, r1, r2, textO]) rfl ⟨by rw [← HR.out], below_out' HB.out⟩
end Go.Proofs.YtconcnndghmdfaaGreatDoor
namespace Go.Proofs.YtconcnndghmdfaaGreatDoor
open Go.RowKit Go
theorem Laid.low {w w' : World} (h : Laid w) (hb : Below w.heap.size w w') : Laid w' := h.below hb h.pos
def endOf (r : ByteArray × Int) : Ending := if r.2 = 0 then .returned (.string r.1) else .panicked [{ v := faultP r.2, recovered := false }]
theorem endOf_bad (c : Int) (h : ¬ c = 0) : endOf (⟨#[]⟩, c) = .panicked [{ v := faultP c, recovered := false }] := if_neg h
theorem endOf_good (t : ByteArray) : endOf (t, 0) = .returned (.string t) := if_pos rfl
def openO (k : ByteArray × ByteArray) (id : Int) (b : ByteArray) : ByteArray × Int := if ¬ (keysOk k = true ∧ idOk id = true) then (⟨#[]⟩, 1) else openT k id b
set_option maxRecDepth 100000 in
set_option maxHeartbeats 1600000 in
theorem imp_opened_form (H M b : ByteArray) (id : Int) (w : World) (h : ¬ (keysOk (H, M) = true ∧ idOk id = true)) :
 Calls Tryz.prog 37 #[.agg #[.string H, .string M], .int .i64 id, .string b] w fun e w' => e = .panicked [{ v := faultP 1, recovered := false }] ∧ Below w.heap.size w w' := by
 have SE := hide (fun W => imp_demand_no 1 W)
 by_cases hk : keysOk (H, M) = true
 · have hi : idOk id = false := Bool.eq_false_iff.2 (fun x => h ⟨hk, x⟩)
   have SK := hide (fun W => by have h := imp_keysRight H M W; rw [hk] at h; exact h)
   have SI := hide (fun W => by have h := imp_idRight id W; rw [hi] at h; exact h)
   clear h hk hi
   go_enter Tryz.func37, Tryz.ntmps37
   go_wp2_with fail
   refine (SK.out _).mono ?_
   rintro e w1 ⟨rfl, hb1⟩
   have HB := KeyW.one hb1
   clear hb1
   go_wp2_with fail
   refine (SI.out _).mono ?_
   rintro e w2 ⟨rfl, hb2⟩
   have HB := HB.call hb2
   clear hb2
   go_wp2_with fail
   refine (SE.out _).mono ?_
   rintro e w3 ⟨rfl, rfl⟩
   go_wp2_with fail
   exact ⟨rfl, rfl, HB.low⟩
 · have hk' : keysOk (H, M) = false := Bool.eq_false_iff.2 hk
   have SK := hide (fun W => by have h := imp_keysRight H M W; rw [hk'] at h; exact h)
   clear h hk hk'
   go_enter Tryz.func37, Tryz.ntmps37
   go_wp2_with fail
   refine (SK.out _).mono ?_
   rintro e w1 ⟨rfl, hb1⟩
   have HB := KeyW.one hb1
   clear hb1
   go_wp2_with fail
   refine (SE.out _).mono ?_
   rintro e w3 ⟨rfl, rfl⟩
   go_wp2_with fail
   exact ⟨rfl, rfl, HB.low⟩
set_option maxRecDepth 100000 in
set_option maxHeartbeats 1600000 in
theorem imp_opened_body (H M b : ByteArray) (id c : Int) (w : World) (hk : keysOk (H, M) = true) (hi : idOk id = true)
 (SB : Hid (∀ W : World, Below w.heap.size w W → Calls Tryz.prog 64 #[.agg #[.string H, .string M], .string b] W fun e w' => e = .panicked [{ v := faultP c, recovered := false }] ∧ Below W.heap.size W w')) :
 Calls Tryz.prog 37 #[.agg #[.string H, .string M], .int .i64 id, .string b] w fun e w' => e = .panicked [{ v := faultP c, recovered := false }] ∧ Below w.heap.size w w' := by
 have SE := hide (fun W => imp_demand_yes 1 W)
 have SK := hide (fun W => by have h := imp_keysRight H M W; rw [hk] at h; exact h)
 have SI := hide (fun W => by have h := imp_idRight id W; rw [hi] at h; exact h)
 clear hk hi
 go_enter Tryz.func37, Tryz.ntmps37
 go_wp2_with fail
 refine (SK.out _).mono ?_
 rintro e w1 ⟨rfl, hb1⟩
 have HB := KeyW.one hb1
 clear hb1
 go_wp2_with fail
 refine (SI.out _).mono ?_
 rintro e w2 ⟨rfl, hb2⟩
 have HB := HB.call hb2
 clear hb2
 go_wp2_with fail
 refine (SE.out _).mono ?_
 rintro e w3 ⟨rfl, rfl⟩
 have c0 := HB.c0
 have c1 := HB.c1
 go_wp2_with fail
 refine (SB.out _ HB.low).mono ?_
 rintro e w4 ⟨rfl, hb4⟩
 have HB := HB.call hb4
 clear hb4 c0 c1
 go_wp2_with fail
 exact ⟨rfl, rfl, HB.low⟩
set_option maxRecDepth 100000 in
set_option maxHeartbeats 1600000 in
theorem imp_opened_head (H M b BD : ByteArray) (id : Int) (w : World) (hk : keysOk (H, M) = true) (hi : idOk id = true)
 (SB : Hid (∀ W : World, Below w.heap.size w W → Calls Tryz.prog 64 #[.agg #[.string H, .string M], .string b] W fun e w' => e = .returned (.string BD) ∧ Below W.heap.size W w'))
 (SH : Hid (∀ W : World, Calls Tryz.prog 63 #[.string BD, .int .i64 id] W fun e w' => e = .panicked [{ v := faultP 5, recovered := false }] ∧ Below W.heap.size W w')) :
 Calls Tryz.prog 37 #[.agg #[.string H, .string M], .int .i64 id, .string b] w fun e w' => e = .panicked [{ v := faultP 5, recovered := false }] ∧ Below w.heap.size w w' := by
 have SE := hide (fun W => imp_demand_yes 1 W)
 have SK := hide (fun W => by have h := imp_keysRight H M W; rw [hk] at h; exact h)
 have SI := hide (fun W => by have h := imp_idRight id W; rw [hi] at h; exact h)
 clear hk hi
 go_enter Tryz.func37, Tryz.ntmps37
 go_wp2_with fail
 refine (SK.out _).mono ?_
 rintro e w1 ⟨rfl, hb1⟩
 have HB := KeyW.one hb1
 clear hb1
 go_wp2_with fail
 refine (SI.out _).mono ?_
 rintro e w2 ⟨rfl, hb2⟩
 have HB := HB.call hb2
 clear hb2
 go_wp2_with fail
 refine (SE.out _).mono ?_
 rintro e w3 ⟨rfl, rfl⟩
 have c0 := HB.c0
 have c1 := HB.c1
 go_wp2_with fail
 refine (SB.out _ HB.low).mono ?_
 rintro e w4 ⟨rfl, hb4⟩
 have HB := HB.call hb4
 clear hb4 c0 c1
 go_wp2_with fail
 refine (SH.out _).mono ?_
 rintro e w5 ⟨rfl, hb5⟩
 have HB := HB.call hb5
 clear hb5
 go_wp2_with fail
 exact ⟨rfl, rfl, HB.low⟩
set_option maxRecDepth 100000 in
set_option maxHeartbeats 3200000 in
theorem imp_opened_bad (H M b BD RX C U : ByteArray) (id far zc : Int) (w : World) (hk : keysOk (H, M) = true) (hi : idOk id = true) (hl : Laid w) (hz : ¬ zc = 0)
 (SB : Hid (∀ W : World, Below w.heap.size w W → Calls Tryz.prog 64 #[.agg #[.string H, .string M], .string b] W fun e w' => e = .returned (.string BD) ∧ Below W.heap.size W w'))
 (SH : Hid (∀ W : World, Calls Tryz.prog 63 #[.string BD, .int .i64 id] W fun e w' => e = .returned (.tuple #[.int .i64 far, .string RX]) ∧ Below W.heap.size W w'))
 (SC : Hid (∀ W : World, Calls Tryz.prog 29 #[.string H, .int .i64 id, .string RX] W fun e w' => e = .returned (.string C) ∧ Below W.heap.size W w'))
 (SU : Hid (∀ W : World, Laid W → Calls Tryz.prog 65 #[.string C] W fun e w' => e = .returned (.agg #[.string U, .int .i64 0, .int .i64 zc]) ∧ Below W.heap.size W w')) :
 Calls Tryz.prog 37 #[.agg #[.string H, .string M], .int .i64 id, .string b] w fun e w' => e = .panicked [{ v := faultP zc, recovered := false }] ∧ Below w.heap.size w w' := by
 have hz' : (zc == 0) = false := beq_eq_false_iff_ne.2 hz
 have SN := hide (fun W => imp_demand_no zc W)
 have SE := hide (fun W => imp_demand_yes 1 W)
 have SK := hide (fun W => by have h := imp_keysRight H M W; rw [hk] at h; exact h)
 have SI := hide (fun W => by have h := imp_idRight id W; rw [hi] at h; exact h)
 have HL := hide hl
 clear hk hi hl
 go_enter Tryz.func37, Tryz.ntmps37
 go_wp2_with fail
 refine (SK.out _).mono ?_
 rintro e w1 ⟨rfl, hb1⟩
 have HB := KeyW.one hb1
 clear hb1
 go_wp2_with fail
 refine (SI.out _).mono ?_
 rintro e w2 ⟨rfl, hb2⟩
 have HB := HB.call hb2
 clear hb2
 go_wp2_with fail
 refine (SE.out _).mono ?_
 rintro e w3 ⟨rfl, rfl⟩
 have c0 := HB.c0
 have c1 := HB.c1
 go_wp2_with fail
 refine (SB.out _ HB.low).mono ?_
 rintro e w4 ⟨rfl, hb4⟩
 have HB := HB.call hb4
 clear hb4 c0 c1
 go_wp2_with fail
 refine (SH.out _).mono ?_
 rintro e w5 ⟨rfl, hb5⟩
 have HB := HB.call hb5
 have c0 := HB.c0
 clear hb5
 go_wp2_with fail
 refine (SC.out _).mono ?_
 rintro e w6 ⟨rfl, hb6⟩
 have HB := HB.call hb6
 clear hb6 c0
 go_wp2_with fail
 refine (SU.out _ (HL.out.low HB.low)).mono ?_
 rintro e w7 ⟨rfl, hb7⟩
 have HB := HB.call hb7
 clear hb7
 go_wp2_with fail
 refine (SN.out _).mono ?_
 rintro e w8 ⟨rfl, rfl⟩
 go_wp2_with fail
 exact ⟨rfl, rfl, HB.low.alloc HB.low.size _⟩
set_option maxRecDepth 100000 in
set_option maxHeartbeats 3200000 in
theorem imp_opened_text (H M b BD RX C U : ByteArray) (id : Int) (w : World) (hk : keysOk (H, M) = true) (hi : idOk id = true) (hl : Laid w)
 (SB : Hid (∀ W : World, Below w.heap.size w W → Calls Tryz.prog 64 #[.agg #[.string H, .string M], .string b] W fun e w' => e = .returned (.string BD) ∧ Below W.heap.size W w'))
 (SH : Hid (∀ W : World, Calls Tryz.prog 63 #[.string BD, .int .i64 id] W fun e w' => e = .returned (.tuple #[.int .i64 0, .string RX]) ∧ Below W.heap.size W w'))
 (SC : Hid (∀ W : World, Calls Tryz.prog 29 #[.string H, .int .i64 id, .string RX] W fun e w' => e = .returned (.string C) ∧ Below W.heap.size W w'))
 (SU : Hid (∀ W : World, Laid W → Calls Tryz.prog 65 #[.string C] W fun e w' => e = .returned (.agg #[.string U, .int .i64 0, .int .i64 0]) ∧ Below W.heap.size W w')) :
 Calls Tryz.prog 37 #[.agg #[.string H, .string M], .int .i64 id, .string b] w fun e w' => e = .returned (.string U) ∧ Below w.heap.size w w' := by
 have SN := hide (fun W => imp_demand_yes 0 W)
 have SE := hide (fun W => imp_demand_yes 1 W)
 have SK := hide (fun W => by have h := imp_keysRight H M W; rw [hk] at h; exact h)
 have SI := hide (fun W => by have h := imp_idRight id W; rw [hi] at h; exact h)
 have HL := hide hl
 clear hk hi hl
 go_enter Tryz.func37, Tryz.ntmps37
 go_wp2_with fail
 refine (SK.out _).mono ?_
 rintro e w1 ⟨rfl, hb1⟩
 have HB := KeyW.one hb1
 clear hb1
 go_wp2_with fail
 refine (SI.out _).mono ?_
 rintro e w2 ⟨rfl, hb2⟩
 have HB := HB.call hb2
 clear hb2
 go_wp2_with fail
 refine (SE.out _).mono ?_
 rintro e w3 ⟨rfl, rfl⟩
 have c0 := HB.c0
 have c1 := HB.c1
 go_wp2_with fail
 refine (SB.out _ HB.low).mono ?_
 rintro e w4 ⟨rfl, hb4⟩
 have HB := HB.call hb4
 clear hb4 c0 c1
 go_wp2_with fail
 refine (SH.out _).mono ?_
 rintro e w5 ⟨rfl, hb5⟩
 have HB := HB.call hb5
 have c0 := HB.c0
 clear hb5
 go_wp2_with fail
 refine (SC.out _).mono ?_
 rintro e w6 ⟨rfl, hb6⟩
 have HB := HB.call hb6
 clear hb6 c0
 go_wp2_with fail
 refine (SU.out _ (HL.out.low HB.low)).mono ?_
 rintro e w7 ⟨rfl, hb7⟩
 have HB := HB.call hb7
 clear hb7
 go_wp2_with fail
 refine (SN.out _).mono ?_
 rintro e w8 ⟨rfl, rfl⟩
 go_wp2_with fail
 go_ret
 exact ⟨rfl, HB.low.alloc HB.low.size _⟩
set_option maxRecDepth 100000 in
set_option maxHeartbeats 3200000 in
theorem imp_opened_sum (H M b BD RX C U V : ByteArray) (id far : Int) (w : World) (hk : keysOk (H, M) = true) (hi : idOk id = true) (hl : Laid w) (hf : ¬ far = 0)
 (SB : Hid (∀ W : World, Below w.heap.size w W → Calls Tryz.prog 64 #[.agg #[.string H, .string M], .string b] W fun e w' => e = .returned (.string BD) ∧ Below W.heap.size W w'))
 (SH : Hid (∀ W : World, Calls Tryz.prog 63 #[.string BD, .int .i64 id] W fun e w' => e = .returned (.tuple #[.int .i64 far, .string RX]) ∧ Below W.heap.size W w'))
 (SC : Hid (∀ W : World, Calls Tryz.prog 29 #[.string H, .int .i64 id, .string RX] W fun e w' => e = .returned (.string C) ∧ Below W.heap.size W w'))
 (SU : Hid (∀ W : World, Laid W → Calls Tryz.prog 65 #[.string C] W fun e w' => e = .returned (.agg #[.string U, .int .i64 0, .int .i64 0]) ∧ Below W.heap.size W w'))
 (SV : Hid (∀ W : World, Calls Tryz.prog 66 #[.string U, .int .i64 far] W fun e w' => e = .returned (.string V) ∧ Below W.heap.size W w')) :
 Calls Tryz.prog 37 #[.agg #[.string H, .string M], .int .i64 id, .string b] w fun e w' => e = .returned (.string V) ∧ Below w.heap.size w w' := by
 have hf' : (far == 0) = false := beq_eq_false_iff_ne.2 hf
 have SN := hide (fun W => imp_demand_yes 0 W)
 have SE := hide (fun W => imp_demand_yes 1 W)
 have SK := hide (fun W => by have h := imp_keysRight H M W; rw [hk] at h; exact h)
 have SI := hide (fun W => by have h := imp_idRight id W; rw [hi] at h; exact h)
 have HL := hide hl
 clear hk hi hl
 go_enter Tryz.func37, Tryz.ntmps37
 go_wp2_with fail
 refine (SK.out _).mono ?_
 rintro e w1 ⟨rfl, hb1⟩
 have HB := KeyW.one hb1
 clear hb1
 go_wp2_with fail
 refine (SI.out _).mono ?_
 rintro e w2 ⟨rfl, hb2⟩
 have HB := HB.call hb2
 clear hb2
 go_wp2_with fail
 refine (SE.out _).mono ?_
 rintro e w3 ⟨rfl, rfl⟩
 have c0 := HB.c0
 have c1 := HB.c1
 go_wp2_with fail
 refine (SB.out _ HB.low).mono ?_
 rintro e w4 ⟨rfl, hb4⟩
 have HB := HB.call hb4
 clear hb4 c0 c1
 go_wp2_with fail
 refine (SH.out _).mono ?_
 rintro e w5 ⟨rfl, hb5⟩
 have HB := HB.call hb5
 have c0 := HB.c0
 clear hb5
 go_wp2_with fail
 refine (SC.out _).mono ?_
 rintro e w6 ⟨rfl, hb6⟩
 have HB := HB.call hb6
 clear hb6 c0
 go_wp2_with fail
 refine (SU.out _ (HL.out.low HB.low)).mono ?_
 rintro e w7 ⟨rfl, hb7⟩
 have HB := HB.call hb7
 clear hb7
 go_wp2_with fail
 refine (SN.out _).mono ?_
 rintro e w8 ⟨rfl, rfl⟩
 go_wp2_with fail
 refine (SV.out _).mono ?_
 rintro e w9 ⟨rfl, hb9⟩
 have HB := (HB.alloc _).call hb9
 clear hb9
 go_wp2_with fail
 go_ret
 exact ⟨rfl, HB.low⟩
theorem imp_opened (H M b : ByteArray) (id : Int) (w : World) (htab : Tab w) (hl : Laid w) (hb : b.size ≤ 20000) :
 Calls Tryz.prog 37 #[.agg #[.string H, .string M], .int .i64 id, .string b] w fun e w' => e = endOf (openO (H, M) id b) ∧ Below w.heap.size w w' := by
 by_cases hki : keysOk (H, M) = true ∧ idOk id = true
 · obtain ⟨hk, hi⟩ := hki
   obtain ⟨hH, hM⟩ : H.size = 16 ∧ M.size = 32 := by unfold keysOk at hk; simpa using hk
   obtain ⟨h0, h1⟩ : 0 ≤ id ∧ id ≤ 2000000 := by unfold idOk at hi; simpa using hi
   have eO : openO (H, M) id b = openT (H, M) id b := if_neg (not_not_intro ⟨hk, hi⟩)
   rw [eO]
   by_cases hs : b.size < 18
   · rw [show openT (H, M) id b = (⟨#[]⟩, 4) from if_pos hs, endOf_bad 4 (by decide)]
     exact imp_opened_body H M b id 4 w hk hi (hide (fun W _ => imp_body_short H M b W hs))
   · have hs' : 18 ≤ b.size := by omega
     have SB0 := fun (W : World) (hW : Below w.heap.size w W) => imp_body H M b W (htab.low hW) (by omega) hs' hb
     by_cases hX : take16 (macT M (bodyX b)) = tailX b
     · rw [if_pos hX] at SB0
       have hbs := bodyX_size b
       have SH0 := fun (W : World) => imp_hiddenOf (bodyX b) id W h0 h1 (by omega)
       by_cases ho : headOk (bodyX b) id
       · rw [if_pos ho] at SH0
         obtain ⟨U, zc, hU⟩ : ∃ U zc, shownX (H, M) id (bodyX b) = (U, zc) := ⟨_, _, (Prod.eta _).symm⟩
         have hun : unpackS (hidB H id.toNat (restX (bodyX b))) = (U, zc) := hU
         have hrs := restX_size (bodyX b)
         have hN : ((id.toNat : Nat) : Int) = id := by omega
         have SC : Hid (∀ W : World, Calls Tryz.prog 29 #[.string H, .int .i64 id, .string (restX (bodyX b))] W fun e w' => e = .returned (.string (hidB H id.toNat (restX (bodyX b)))) ∧ Below W.heap.size W w') :=
          hide (fun W => by
           have h := imp_ctrA H (restX (bodyX b)) id.toNat W hH (by omega) (by omega)
           rw [hN] at h
           exact h)
         have SU : Hid (∀ W : World, Laid W → Calls Tryz.prog 65 #[.string (hidB H id.toNat (restX (bodyX b)))] W fun e w' => e = .returned (.agg #[.string U, .int .i64 0, .int .i64 zc]) ∧ Below W.heap.size W w') :=
          hide (fun W hW => by
           have h := imp_unpack (hidB H id.toNat (restX (bodyX b))) W hW (by rw [hidB_size]; omega)
           rw [hun] at h
           exact h)
         have hus := unpackS_size (hidB H id.toNat (restX (bodyX b)))
         rw [hun] at hus
         have hus : U.size ≤ 4000 := hus
         by_cases hz : zc = 0
         · have e : openT (H, M) id b = (sumB U (farX (bodyX b)), 0) := by
            unfold openT
            rw [if_neg hs, if_neg (not_not_intro hX), if_neg (not_not_intro ho), hU, if_neg (not_not_intro hz)]
           rw [e, endOf_good]
           subst hz
           have hf0 : 0 ≤ farX (bodyX b) := ho.2.2.2.1
           have hf1 : farX (bodyX b) ≤ 256 := ho.2.2.2.2
           by_cases hf : farX (bodyX b) = 0
           · rw [hf] at SH0
             rw [show sumB U (farX (bodyX b)) = U by unfold sumB; rw [if_neg (by omega)]]
             exact imp_opened_text H M b (bodyX b) _ _ U id w hk hi hl (hide SB0) (hide SH0) SC SU
           · have hfo : farOk U (farX (bodyX b)) := ⟨by omega, by omega, by omega⟩
             have SV : Hid (∀ W : World, Calls Tryz.prog 66 #[.string U, .int .i64 (farX (bodyX b))] W fun e w' => e = .returned (.string (sumB U (farX (bodyX b)))) ∧ Below W.heap.size W w') :=
              hide (fun W => by
               have h := imp_sum U (farX (bodyX b)) W (by omega)
               rw [show sumS U (farX (bodyX b)) = sumB U (farX (bodyX b)) from (if_pos hfo).trans (if_pos (show 0 < farX (bodyX b) by omega)).symm] at h
               exact h)
             exact imp_opened_sum H M b (bodyX b) _ _ U _ id _ w hk hi hl hf (hide SB0) (hide SH0) SC SU SV
         · have e : openT (H, M) id b = (⟨#[]⟩, zc) := by
            unfold openT
            rw [if_neg hs, if_neg (not_not_intro hX), if_neg (not_not_intro ho), hU, if_pos hz]
           rw [e, endOf_bad zc hz]
           exact imp_opened_bad H M b (bodyX b) _ _ U id _ zc w hk hi hl hz (hide SB0) (hide SH0) SC SU
       · rw [if_neg ho] at SH0
         have e : openT (H, M) id b = (⟨#[]⟩, 5) := by
          unfold openT
          rw [if_neg hs, if_neg (not_not_intro hX), if_pos ho]
         rw [e, endOf_bad 5 (by decide)]
         exact imp_opened_head H M b (bodyX b) id w hk hi (hide SB0) (hide SH0)
     · rw [if_neg hX] at SB0
       have e : openT (H, M) id b = (⟨#[]⟩, 10) := by
        unfold openT
        rw [if_neg hs, if_pos hX]
       rw [e, endOf_bad 10 (by decide)]
       exact imp_opened_body H M b id 10 w hk hi (hide SB0)
 · rw [show openO (H, M) id b = (⟨#[]⟩, 1) from if_pos hki, endOf_bad 1 (by decide)]
   exact imp_opened_form H M b id w hki
theorem openO_code (k : ByteArray × ByteArray) (id : Int) (b : ByteArray) (h : ¬ (openO k id b).2 = 0) : (openO k id b).1 = ⟨#[]⟩ := by
 unfold openO openT at *
 split at h
 · rename_i h1; rw [if_pos h1]
 · rename_i h1
   rw [if_neg h1]
   split at h
   · rename_i h2; rw [if_pos h2]
   · rename_i h2
     rw [if_neg h2]
     split at h
     · rename_i h3; rw [if_pos h3]
     · rename_i h3
       rw [if_neg h3]
       split at h
       · rename_i h4; rw [if_pos h4]
       · rename_i h4
         rw [if_neg h4]
         split at h
         · rename_i h5; rw [if_pos h5]
         · exact absurd rfl h
theorem imp_blockOpen (H M b : ByteArray) (id : Int) (w : World) (htab : Tab w) (hl : Laid w) (hb : b.size ≤ 9223372036854775807) :
 Calls Tryz.prog 11 #[.agg #[.string H, .string M], .int .i64 id, .string b] w fun e w' => e = .returned (textO (openS (H, M) id b).1 (openS (H, M) id b).2) ∧ Below w.heap.size w w' := by
 by_cases hs : 20000 < b.size
 · rw [show openS (H, M) id b = (⟨#[]⟩, 2) from if_pos hs]
   exact imp_open_long H M b id w hs hb
 · have hs' : b.size ≤ 20000 := by omega
   rw [show openS (H, M) id b = openO (H, M) id b from if_neg hs]
   have SO := fun (W : World) (hW : Below w.heap.size w W) => imp_opened H M b id W (htab.low hW) (hl.low hW) hs'
   have hc := openO_code (H, M) id b
   by_cases h : (openO (H, M) id b).2 = 0
   · have e : endOf (openO (H, M) id b) = .returned (.string (openO (H, M) id b).1) := if_pos h
     rw [e] at SO
     rw [h]
     exact imp_open_good H M b _ id w hs' (hide SO)
   · have e : endOf (openO (H, M) id b) = .panicked [{ v := faultP (openO (H, M) id b).2, recovered := false }] := if_neg h
     rw [e] at SO
     rw [hc h]
     exact imp_open_bad H M b id _ w hs' (hide SO)
end Go.Proofs.YtconcnndghmdfaaGreatDoor
namespace Go.Proofs.YtconcnndghmdfaaGreatDoor
open Go.RowKit
set_option maxRecDepth 100000 in
set_option maxHeartbeats 800000 in
theorem spec_sumA (text : ByteArray) (far : Nat) (w : World) (ht : text.size ≤ 20000) (hf1 : 1 ≤ far) (hf2 : far ≤ 256) :
 Calls Tryz.prog 70 #[.string text, .int .i64 far] w fun e w' => e = .returned (.string ⟨((List.range text.size).map (sumF (bF text) far)).toArray⟩) ∧ Below w.heap.size w w' := by
 have hcv := fun (w : World) => run_bytes_of_string (P := Tryz.prog) w 9 22 5 text Tryz.underlying9 Tryz.underlying22 Tryz.underlying5
 have hcap := grownCap_ge w text.size 0 5
 have hrow0 := hasRow.of_text w.drew w.heap.size 5 (grownCap w text.size 0 5) text hcap (Nat.le_refl _)
 have hbl0 := hide ((Below.refl w.heap.size w).drew.alloc (Nat.le_refl _) (.cells (bytesRow text (grownCap w text.size 0 5)) 5 ((bytesRow text (grownCap w text.size 0 5)).size, (bytesRow text (grownCap w text.size 0 5)).size + 1)))
 have HR0 := hide (rowC.of_text hrow0 (bF_at text text.size rfl))
 obtain ⟨T, hT⟩ : ∃ T, T = bF text := ⟨_, rfl⟩
 rw [← hT] at HR0 ⊢
 clear hrow0 hT
 go_enter Tryz.func70, Tryz.ntmps70
 go_wp2_with fail
 clear hcv hcap
 go_loopw [6] (fun i wx => ∃ (k : Nat) (h : Nat → UInt8), far ≤ k ∧ i = .int .i64 k ∧ Hid (∀ j, j < text.size → h j = if j < k then sumF T far j else T j) ∧ rowC wx w.heap.size text.size h ∧ Below w.heap.size w wx) (fun i _ => text.size - (intOf i).toNat)
 case atStart => exact ⟨far, T, Nat.le_refl _, rfl, fun j _ => by by_cases e : j < far; rw [if_pos e, sumF, dif_neg (by omega)]; rw [if_neg e], HR0.out, hbl0.out⟩
 case round =>
  clear HR0 hbl0
  obtain ⟨k, h, hk, rfl, hh, hr, hbl⟩ := hrel
  by_cases hlt : k < text.size
  · have hlt' : (k : Int) < (text.size : Int) := by omega
    obtain ⟨d, ed⟩ : ∃ d, d = k - far := ⟨_, rfl⟩
    have wd : IntKind.i64.wrap ((k : Int) - (far : Int)) = (d : Int) := by simp only [IntKind.wrap_i64]; omega
    have hd : d < text.size := by omega
    have hd' : (d : Int) < (text.size : Int) := by omega
    have ck := (hr.2 k hlt).1
    have fk := (hr.2 k hlt).2
    have cd := (hr.2 d hd).1
    have ha8 := add8 (h k) (h d)
    have HV := hide (show h k + h d = sumF T far k by rw [hh.out k hlt, if_neg (by omega), hh.out d hd, if_pos (by omega), ed]; exact (by rw [sumF, dif_pos ⟨by omega, by omega⟩] : sumF T far k = T k + sumF T far (k - far)).symm)
    obtain ⟨Y, hY⟩ : ∃ Y, Y = h k + h d := ⟨_, rfl⟩
    rw [← hY] at ha8 HV
    obtain ⟨A, hA⟩ : ∃ A, A = h k := ⟨_, rfl⟩
    obtain ⟨B, hB⟩ : ∃ B, B = h d := ⟨_, rfl⟩
    rw [← hA] at ck ha8
    rw [← hB] at cd ha8
    clear ed hY hA hB
    go_wp2_with fail
    go_region
    clear wd ck fk cd
    go_wp2_with fail
    go_roundw
    case rel =>
     refine ⟨k + 1, fun j => if j = k then Y else h j, by omega, by go_num, fun j hj => ?_, (hr.set hlt rfl).drew, (hbl.setCell (Nat.le_refl _) _).drew⟩
     show (if j = k then Y else h j) = _
     by_cases e : j = k
     · rw [if_pos e, if_pos (by omega), e, HV.out]
     · rw [if_neg e, hh.out j hj]
       by_cases e2 : j < k
       · rw [if_pos e2, if_pos (by omega)]
       · rw [if_neg e2, if_neg (by omega)]
    case measure => simp [intOf]; omega
  · have hlt' : ¬ (k : Int) < (text.size : Int) := by omega
    have hcv := conv_rowC (P := Tryz.prog) (cap := grownCap w text.size 0 5) (l := (List.range text.size).map (sumF T far)) hr (fun j hj => by rw [List.getElem?_map, List.getElem?_range hj, hh.out j hj, if_pos (by omega)]; rfl) (by simp) Tryz.underlying22 Tryz.underlying5 Tryz.underlying9
    go_wp2_with fail
    go_ret
    exact ⟨rfl, hbl⟩
end Go.Proofs.YtconcnndghmdfaaGreatDoor

/- Put together: SealPv, SealPy, LwKeys, KeyL, BlkOpenL. -/
import Derived.Test.YtconcnndghmdfaaGreatDoorSe50
import Derived.Test.YtconcnndghmdfaaGreatDoorSe20
import Derived.Test.YtconcnndghmdfaaGreatDoorSe32
import Derived.Test.YtconcnndghmdfaaGreatDoorSe44
import Derived.Test.YtconcnndghmdfaaGreatDoorSe49
import Derived.BigRegion
import Derived.Test.YtconcnndghmdfaaGreatDoorSe1
import Derived.Handy
import Derived.Test.YtconcnndghmdfaaGreatDoorSe25
namespace Go.Proofs.YtconcnndghmdfaaGreatDoor
open Go.RowKit Go
theorem Laid.low {w w' : World} (h : Laid w) (hb : Below w.heap.size w w') : Laid w' := h.below hb h.pos
/-- The end of what may panic with a block's fault. -/
def endOf (r : ByteArray × Int) : Ending := if r.2 = 0 then .returned (.string r.1) else .panicked [{ v := faultP r.2, recovered := false }]
theorem endOf_bad (c : Int) (h : ¬ c = 0) : endOf (⟨#[]⟩, c) = .panicked [{ v := faultP c, recovered := false }] := if_neg h
theorem endOf_good (t : ByteArray) : endOf (t, 0) = .returned (.string t) := if_pos rfl
/-- BlockOpen, of a block that is not too long. -/
def openO (k : ByteArray × ByteArray) (id : Int) (b : ByteArray) : ByteArray × Int := if ¬ (keysOk k = true ∧ idOk id = true) then (⟨#[]⟩, 1) else openT k id b
set_option maxRecDepth 100000 in
set_option maxHeartbeats 1600000 in
theorem imp_opened_form (H M b : ByteArray) (id : Int) (w : World) (h : ¬ (keysOk (H, M) = true ∧ idOk id = true)) :
    Calls Tryz.prog 37 #[.agg #[.string H, .string M], .int .i64 id, .string b] w fun e w' => e = .panicked [{ v := faultP 1, recovered := false }] ∧ Below w.heap.size w w' := by
  have SE := hide (fun W => imp_demand_no 1 W)
  by_cases hk : keysOk (H, M) = true
  · have hi : idOk id = false := Bool.eq_false_iff.2 (fun x => h ⟨hk, x⟩)
    have SK := hide (fun W => by have h := imp_keysRight H M W; rw [hk] at h; exact h)
    have SI := hide (fun W => by have h := imp_idRight id W; rw [hi] at h; exact h)
    clear h hk hi
    go_enter Tryz.func37, Tryz.ntmps37
    go_wp2_with fail
    refine (SK.out _).mono ?_
    rintro e w1 ⟨rfl, hb1⟩
    have HB := KeyW.one hb1
    clear hb1
    go_wp2_with fail
    refine (SI.out _).mono ?_
    rintro e w2 ⟨rfl, hb2⟩
    have HB := HB.call hb2
    clear hb2
    go_wp2_with fail
    refine (SE.out _).mono ?_
    rintro e w3 ⟨rfl, rfl⟩
    go_wp2_with fail
    exact ⟨rfl, rfl, HB.low⟩
  · have hk' : keysOk (H, M) = false := Bool.eq_false_iff.2 hk
    have SK := hide (fun W => by have h := imp_keysRight H M W; rw [hk'] at h; exact h)
    clear h hk hk'
    go_enter Tryz.func37, Tryz.ntmps37
    go_wp2_with fail
    refine (SK.out _).mono ?_
    rintro e w1 ⟨rfl, hb1⟩
    have HB := KeyW.one hb1
    clear hb1
    go_wp2_with fail
    refine (SE.out _).mono ?_
    rintro e w3 ⟨rfl, rfl⟩
    go_wp2_with fail
    exact ⟨rfl, rfl, HB.low⟩
set_option maxRecDepth 100000 in
set_option maxHeartbeats 1600000 in
theorem imp_opened_body (H M b : ByteArray) (id c : Int) (w : World) (hk : keysOk (H, M) = true) (hi : idOk id = true)
    (SB : Hid (∀ W : World, Below w.heap.size w W → Calls Tryz.prog 64 #[.agg #[.string H, .string M], .string b] W fun e w' => e = .panicked [{ v := faultP c, recovered := false }] ∧ Below W.heap.size W w')) :
    Calls Tryz.prog 37 #[.agg #[.string H, .string M], .int .i64 id, .string b] w fun e w' => e = .panicked [{ v := faultP c, recovered := false }] ∧ Below w.heap.size w w' := by
  have SE := hide (fun W => imp_demand_yes 1 W)
  have SK := hide (fun W => by have h := imp_keysRight H M W; rw [hk] at h; exact h)
  have SI := hide (fun W => by have h := imp_idRight id W; rw [hi] at h; exact h)
  clear hk hi
  go_enter Tryz.func37, Tryz.ntmps37
  go_wp2_with fail
  refine (SK.out _).mono ?_
  rintro e w1 ⟨rfl, hb1⟩
  have HB := KeyW.one hb1
  clear hb1
  go_wp2_with fail
  refine (SI.out _).mono ?_
  rintro e w2 ⟨rfl, hb2⟩
  have HB := HB.call hb2
  clear hb2
  go_wp2_with fail
  refine (SE.out _).mono ?_
  rintro e w3 ⟨rfl, rfl⟩
  have c0 := HB.c0
  have c1 := HB.c1
  go_wp2_with fail
  refine (SB.out _ HB.low).mono ?_
  rintro e w4 ⟨rfl, hb4⟩
  have HB := HB.call hb4
  clear hb4 c0 c1
  go_wp2_with fail
  exact ⟨rfl, rfl, HB.low⟩
set_option maxRecDepth 100000 in
set_option maxHeartbeats 1600000 in
theorem imp_opened_head (H M b BD : ByteArray) (id : Int) (w : World) (hk : keysOk (H, M) = true) (hi : idOk id = true)
    (SB : Hid (∀ W : World, Below w.heap.size w W → Calls Tryz.prog 64 #[.agg #[.string H, .string M], .string b] W fun e w' => e = .returned (.string BD) ∧ Below W.heap.size W w'))
    (SH : Hid (∀ W : World, Calls Tryz.prog 63 #[.string BD, .int .i64 id] W fun e w' => e = .panicked [{ v := faultP 5, recovered := false }] ∧ Below W.heap.size W w')) :
    Calls Tryz.prog 37 #[.agg #[.string H, .string M], .int .i64 id, .string b] w fun e w' => e = .panicked [{ v := faultP 5, recovered := false }] ∧ Below w.heap.size w w' := by
  have SE := hide (fun W => imp_demand_yes 1 W)
  have SK := hide (fun W => by have h := imp_keysRight H M W; rw [hk] at h; exact h)
  have SI := hide (fun W => by have h := imp_idRight id W; rw [hi] at h; exact h)
  clear hk hi
  go_enter Tryz.func37, Tryz.ntmps37
  go_wp2_with fail
  refine (SK.out _).mono ?_
  rintro e w1 ⟨rfl, hb1⟩
  have HB := KeyW.one hb1
  clear hb1
  go_wp2_with fail
  refine (SI.out _).mono ?_
  rintro e w2 ⟨rfl, hb2⟩
  have HB := HB.call hb2
  clear hb2
  go_wp2_with fail
  refine (SE.out _).mono ?_
  rintro e w3 ⟨rfl, rfl⟩
  have c0 := HB.c0
  have c1 := HB.c1
  go_wp2_with fail
  refine (SB.out _ HB.low).mono ?_
  rintro e w4 ⟨rfl, hb4⟩
  have HB := HB.call hb4
  clear hb4 c0 c1
  go_wp2_with fail
  refine (SH.out _).mono ?_
  rintro e w5 ⟨rfl, hb5⟩
  have HB := HB.call hb5
  clear hb5
  go_wp2_with fail
  exact ⟨rfl, rfl, HB.low⟩
set_option maxRecDepth 100000 in
set_option maxHeartbeats 3200000 in
theorem imp_opened_bad (H M b BD RX C U : ByteArray) (id far zc : Int) (w : World) (hk : keysOk (H, M) = true) (hi : idOk id = true) (hl : Laid w) (hz : ¬ zc = 0)
    (SB : Hid (∀ W : World, Below w.heap.size w W → Calls Tryz.prog 64 #[.agg #[.string H, .string M], .string b] W fun e w' => e = .returned (.string BD) ∧ Below W.heap.size W w'))
    (SH : Hid (∀ W : World, Calls Tryz.prog 63 #[.string BD, .int .i64 id] W fun e w' => e = .returned (.tuple #[.int .i64 far, .string RX]) ∧ Below W.heap.size W w'))
    (SC : Hid (∀ W : World, Calls Tryz.prog 29 #[.string H, .int .i64 id, .string RX] W fun e w' => e = .returned (.string C) ∧ Below W.heap.size W w'))
    (SU : Hid (∀ W : World, Laid W → Calls Tryz.prog 65 #[.string C] W fun e w' => e = .returned (.agg #[.string U, .int .i64 0, .int .i64 zc]) ∧ Below W.heap.size W w')) :
    Calls Tryz.prog 37 #[.agg #[.string H, .string M], .int .i64 id, .string b] w fun e w' => e = .panicked [{ v := faultP zc, recovered := false }] ∧ Below w.heap.size w w' := by
  have hz' : (zc == 0) = false := beq_eq_false_iff_ne.2 hz
  have SN := hide (fun W => imp_demand_no zc W)
  have SE := hide (fun W => imp_demand_yes 1 W)
  have SK := hide (fun W => by have h := imp_keysRight H M W; rw [hk] at h; exact h)
  have SI := hide (fun W => by have h := imp_idRight id W; rw [hi] at h; exact h)
  have HL := hide hl
  clear hk hi hl
  go_enter Tryz.func37, Tryz.ntmps37
  go_wp2_with fail
  refine (SK.out _).mono ?_
  rintro e w1 ⟨rfl, hb1⟩
  have HB := KeyW.one hb1
  clear hb1
  go_wp2_with fail
  refine (SI.out _).mono ?_
  rintro e w2 ⟨rfl, hb2⟩
  have HB := HB.call hb2
  clear hb2
  go_wp2_with fail
  refine (SE.out _).mono ?_
  rintro e w3 ⟨rfl, rfl⟩
  have c0 := HB.c0
  have c1 := HB.c1
  go_wp2_with fail
  refine (SB.out _ HB.low).mono ?_
  rintro e w4 ⟨rfl, hb4⟩
  have HB := HB.call hb4
  clear hb4 c0 c1
  go_wp2_with fail
  refine (SH.out _).mono ?_
  rintro e w5 ⟨rfl, hb5⟩
  have HB := HB.call hb5
  have c0 := HB.c0
  clear hb5
  go_wp2_with fail
  refine (SC.out _).mono ?_
  rintro e w6 ⟨rfl, hb6⟩
  have HB := HB.call hb6
  clear hb6 c0
  go_wp2_with fail
  refine (SU.out _ (HL.out.low HB.low)).mono ?_
  rintro e w7 ⟨rfl, hb7⟩
  have HB := HB.call hb7
  clear hb7
  go_wp2_with fail
  refine (SN.out _).mono ?_
  rintro e w8 ⟨rfl, rfl⟩
  go_wp2_with fail
  exact ⟨rfl, rfl, HB.low.alloc HB.low.size _⟩
set_option maxRecDepth 100000 in
set_option maxHeartbeats 3200000 in
theorem imp_opened_text (H M b BD RX C U : ByteArray) (id : Int) (w : World) (hk : keysOk (H, M) = true) (hi : idOk id = true) (hl : Laid w)
    (SB : Hid (∀ W : World, Below w.heap.size w W → Calls Tryz.prog 64 #[.agg #[.string H, .string M], .string b] W fun e w' => e = .returned (.string BD) ∧ Below W.heap.size W w'))
    (SH : Hid (∀ W : World, Calls Tryz.prog 63 #[.string BD, .int .i64 id] W fun e w' => e = .returned (.tuple #[.int .i64 0, .string RX]) ∧ Below W.heap.size W w'))
    (SC : Hid (∀ W : World, Calls Tryz.prog 29 #[.string H, .int .i64 id, .string RX] W fun e w' => e = .returned (.string C) ∧ Below W.heap.size W w'))
    (SU : Hid (∀ W : World, Laid W → Calls Tryz.prog 65 #[.string C] W fun e w' => e = .returned (.agg #[.string U, .int .i64 0, .int .i64 0]) ∧ Below W.heap.size W w')) :
    Calls Tryz.prog 37 #[.agg #[.string H, .string M], .int .i64 id, .string b] w fun e w' => e = .returned (.string U) ∧ Below w.heap.size w w' := by
  have SN := hide (fun W => imp_demand_yes 0 W)
  have SE := hide (fun W => imp_demand_yes 1 W)
  have SK := hide (fun W => by have h := imp_keysRight H M W; rw [hk] at h; exact h)
  have SI := hide (fun W => by have h := imp_idRight id W; rw [hi] at h; exact h)
  have HL := hide hl
  clear hk hi hl
  go_enter Tryz.func37, Tryz.ntmps37
  go_wp2_with fail
  refine (SK.out _).mono ?_
  rintro e w1 ⟨rfl, hb1⟩
  have HB := KeyW.one hb1
  clear hb1
  go_wp2_with fail
  refine (SI.out _).mono ?_
  rintro e w2 ⟨rfl, hb2⟩
  have HB := HB.call hb2
  clear hb2
  go_wp2_with fail
  refine (SE.out _).mono ?_
  rintro e w3 ⟨rfl, rfl⟩
  have c0 := HB.c0
  have c1 := HB.c1
  go_wp2_with fail
  refine (SB.out _ HB.low).mono ?_
  rintro e w4 ⟨rfl, hb4⟩
  have HB := HB.call hb4
  clear hb4 c0 c1
  go_wp2_with fail
  refine (SH.out _).mono ?_
  rintro e w5 ⟨rfl, hb5⟩
  have HB := HB.call hb5
  have c0 := HB.c0
  clear hb5
  go_wp2_with fail
  refine (SC.out _).mono ?_
  rintro e w6 ⟨rfl, hb6⟩
  have HB := HB.call hb6
  clear hb6 c0
  go_wp2_with fail
  refine (SU.out _ (HL.out.low HB.low)).mono ?_
  rintro e w7 ⟨rfl, hb7⟩
  have HB := HB.call hb7
  clear hb7
  go_wp2_with fail
  refine (SN.out _).mono ?_
  rintro e w8 ⟨rfl, rfl⟩
  go_wp2_with fail
  go_ret
  exact ⟨rfl, HB.low.alloc HB.low.size _⟩
set_option maxRecDepth 100000 in
set_option maxHeartbeats 3200000 in
theorem imp_opened_sum (H M b BD RX C U V : ByteArray) (id far : Int) (w : World) (hk : keysOk (H, M) = true) (hi : idOk id = true) (hl : Laid w) (hf : ¬ far = 0)
    (SB : Hid (∀ W : World, Below w.heap.size w W → Calls Tryz.prog 64 #[.agg #[.string H, .string M], .string b] W fun e w' => e = .returned (.string BD) ∧ Below W.heap.size W w'))
    (SH : Hid (∀ W : World, Calls Tryz.prog 63 #[.string BD, .int .i64 id] W fun e w' => e = .returned (.tuple #[.int .i64 far, .string RX]) ∧ Below W.heap.size W w'))
    (SC : Hid (∀ W : World, Calls Tryz.prog 29 #[.string H, .int .i64 id, .string RX] W fun e w' => e = .returned (.string C) ∧ Below W.heap.size W w'))
    (SU : Hid (∀ W : World, Laid W → Calls Tryz.prog 65 #[.string C] W fun e w' => e = .returned (.agg #[.string U, .int .i64 0, .int .i64 0]) ∧ Below W.heap.size W w'))
    (SV : Hid (∀ W : World, Calls Tryz.prog 66 #[.string U, .int .i64 far] W fun e w' => e = .returned (.string V) ∧ Below W.heap.size W w')) :
    Calls Tryz.prog 37 #[.agg #[.string H, .string M], .int .i64 id, .string b] w fun e w' => e = .returned (.string V) ∧ Below w.heap.size w w' := by
  have hf' : (far == 0) = false := beq_eq_false_iff_ne.2 hf
  have SN := hide (fun W => imp_demand_yes 0 W)
  have SE := hide (fun W => imp_demand_yes 1 W)
  have SK := hide (fun W => by have h := imp_keysRight H M W; rw [hk] at h; exact h)
  have SI := hide (fun W => by have h := imp_idRight id W; rw [hi] at h; exact h)
  have HL := hide hl
  clear hk hi hl
  go_enter Tryz.func37, Tryz.ntmps37
  go_wp2_with fail
  refine (SK.out _).mono ?_
  rintro e w1 ⟨rfl, hb1⟩
  have HB := KeyW.one hb1
  clear hb1
  go_wp2_with fail
  refine (SI.out _).mono ?_
  rintro e w2 ⟨rfl, hb2⟩
  have HB := HB.call hb2
  clear hb2
  go_wp2_with fail
  refine (SE.out _).mono ?_
  rintro e w3 ⟨rfl, rfl⟩
  have c0 := HB.c0
  have c1 := HB.c1
  go_wp2_with fail
  refine (SB.out _ HB.low).mono ?_
  rintro e w4 ⟨rfl, hb4⟩
  have HB := HB.call hb4
  clear hb4 c0 c1
  go_wp2_with fail
  refine (SH.out _).mono ?_
  rintro e w5 ⟨rfl, hb5⟩
  have HB := HB.call hb5
  have c0 := HB.c0
  clear hb5
  go_wp2_with fail
  refine (SC.out _).mono ?_
  rintro e w6 ⟨rfl, hb6⟩
  have HB := HB.call hb6
  clear hb6 c0
  go_wp2_with fail
  refine (SU.out _ (HL.out.low HB.low)).mono ?_
  rintro e w7 ⟨rfl, hb7⟩
  have HB := HB.call hb7
  clear hb7
  go_wp2_with fail
  refine (SN.out _).mono ?_
  rintro e w8 ⟨rfl, rfl⟩
  go_wp2_with fail
  refine (SV.out _).mono ?_
  rintro e w9 ⟨rfl, hb9⟩
  have HB := (HB.alloc _).call hb9
  clear hb9
  go_wp2_with fail
  go_ret
  exact ⟨rfl, HB.low⟩
theorem imp_opened (H M b : ByteArray) (id : Int) (w : World) (htab : Tab w) (hl : Laid w) (hb : b.size ≤ 20000) :
    Calls Tryz.prog 37 #[.agg #[.string H, .string M], .int .i64 id, .string b] w fun e w' => e = endOf (openO (H, M) id b) ∧ Below w.heap.size w w' := by
  by_cases hki : keysOk (H, M) = true ∧ idOk id = true
  · obtain ⟨hk, hi⟩ := hki
    obtain ⟨hH, hM⟩ : H.size = 16 ∧ M.size = 32 := by unfold keysOk at hk; simpa using hk
    obtain ⟨h0, h1⟩ : 0 ≤ id ∧ id ≤ 2000000 := by unfold idOk at hi; simpa using hi
    have eO : openO (H, M) id b = openT (H, M) id b := if_neg (not_not_intro ⟨hk, hi⟩)
    rw [eO]
    by_cases hs : b.size < 18
    · rw [show openT (H, M) id b = (⟨#[]⟩, 4) from if_pos hs, endOf_bad 4 (by decide)]
      exact imp_opened_body H M b id 4 w hk hi (hide (fun W _ => imp_body_short H M b W hs))
    · have hs' : 18 ≤ b.size := by omega
      have SB0 := fun (W : World) (hW : Below w.heap.size w W) => imp_body H M b W (htab.low hW) (by omega) hs' hb
      by_cases hX : take16 (macT M (bodyX b)) = tailX b
      · rw [if_pos hX] at SB0
        have hbs := bodyX_size b
        have SH0 := fun (W : World) => imp_hiddenOf (bodyX b) id W h0 h1 (by omega)
        by_cases ho : headOk (bodyX b) id
        · rw [if_pos ho] at SH0
          obtain ⟨U, zc, hU⟩ : ∃ U zc, shownX (H, M) id (bodyX b) = (U, zc) := ⟨_, _, (Prod.eta _).symm⟩
          have hun : unpackS (hidB H id.toNat (restX (bodyX b))) = (U, zc) := hU
          have hrs := restX_size (bodyX b)
          have hN : ((id.toNat : Nat) : Int) = id := by omega
          have SC : Hid (∀ W : World, Calls Tryz.prog 29 #[.string H, .int .i64 id, .string (restX (bodyX b))] W fun e w' => e = .returned (.string (hidB H id.toNat (restX (bodyX b)))) ∧ Below W.heap.size W w') :=
            hide (fun W => by
              have h := imp_ctrA H (restX (bodyX b)) id.toNat W hH (by omega) (by omega)
              rw [hN] at h
              exact h)
          have SU : Hid (∀ W : World, Laid W → Calls Tryz.prog 65 #[.string (hidB H id.toNat (restX (bodyX b)))] W fun e w' => e = .returned (.agg #[.string U, .int .i64 0, .int .i64 zc]) ∧ Below W.heap.size W w') :=
            hide (fun W hW => by
              have h := imp_unpack (hidB H id.toNat (restX (bodyX b))) W hW (by rw [hidB_size]; omega)
              rw [hun] at h
              exact h)
          have hus := unpackS_size (hidB H id.toNat (restX (bodyX b)))
          rw [hun] at hus
          have hus : U.size ≤ 4000 := hus
          by_cases hz : zc = 0
          · have e : openT (H, M) id b = (sumB U (farX (bodyX b)), 0) := by
              unfold openT
              rw [if_neg hs, if_neg (not_not_intro hX), if_neg (not_not_intro ho), hU, if_neg (not_not_intro hz)]
            rw [e, endOf_good]
            subst hz
            have hf0 : 0 ≤ farX (bodyX b) := ho.2.2.2.1
            have hf1 : farX (bodyX b) ≤ 256 := ho.2.2.2.2
            by_cases hf : farX (bodyX b) = 0
            · rw [hf] at SH0
              rw [show sumB U (farX (bodyX b)) = U by unfold sumB; rw [if_neg (by omega)]]
              exact imp_opened_text H M b (bodyX b) _ _ U id w hk hi hl (hide SB0) (hide SH0) SC SU
            · have hfo : farOk U (farX (bodyX b)) := ⟨by omega, by omega, by omega⟩
              have SV : Hid (∀ W : World, Calls Tryz.prog 66 #[.string U, .int .i64 (farX (bodyX b))] W fun e w' => e = .returned (.string (sumB U (farX (bodyX b)))) ∧ Below W.heap.size W w') :=
                hide (fun W => by
                  have h := imp_sum U (farX (bodyX b)) W (by omega)
                  rw [show sumS U (farX (bodyX b)) = sumB U (farX (bodyX b)) from (if_pos hfo).trans (if_pos (show 0 < farX (bodyX b) by omega)).symm] at h
                  exact h)
              exact imp_opened_sum H M b (bodyX b) _ _ U _ id _ w hk hi hl hf (hide SB0) (hide SH0) SC SU SV
          · have e : openT (H, M) id b = (⟨#[]⟩, zc) := by
              unfold openT
              rw [if_neg hs, if_neg (not_not_intro hX), if_neg (not_not_intro ho), hU, if_pos hz]
            rw [e, endOf_bad zc hz]
            exact imp_opened_bad H M b (bodyX b) _ _ U id _ zc w hk hi hl hz (hide SB0) (hide SH0) SC SU
        · rw [if_neg ho] at SH0
          have e : openT (H, M) id b = (⟨#[]⟩, 5) := by
            unfold openT
            rw [if_neg hs, if_neg (not_not_intro hX), if_pos ho]
          rw [e, endOf_bad 5 (by decide)]
          exact imp_opened_head H M b (bodyX b) id w hk hi (hide SB0) (hide SH0)
      · rw [if_neg hX] at SB0
        have e : openT (H, M) id b = (⟨#[]⟩, 10) := by
          unfold openT
          rw [if_neg hs, if_pos hX]
        rw [e, endOf_bad 10 (by decide)]
        exact imp_opened_body H M b id 10 w hk hi (hide SB0)
  · rw [show openO (H, M) id b = (⟨#[]⟩, 1) from if_pos hki, endOf_bad 1 (by decide)]
    exact imp_opened_form H M b id w hki
end Go.Proofs.YtconcnndghmdfaaGreatDoor
namespace Go.Proofs.YtconcnndghmdfaaGreatDoor
open Go.RowKit Go
theorem openO_code (k : ByteArray × ByteArray) (id : Int) (b : ByteArray) (h : ¬ (openO k id b).2 = 0) : (openO k id b).1 = ⟨#[]⟩ := by
  unfold openO openT at *
  split at h
  · rename_i h1; rw [if_pos h1]
  · rename_i h1
    rw [if_neg h1]
    split at h
    · rename_i h2; rw [if_pos h2]
    · rename_i h2
      rw [if_neg h2]
      split at h
      · rename_i h3; rw [if_pos h3]
      · rename_i h3
        rw [if_neg h3]
        split at h
        · rename_i h4; rw [if_pos h4]
        · rename_i h4
          rw [if_neg h4]
          split at h
          · rename_i h5; rw [if_pos h5]
          · exact absurd rfl h
theorem imp_blockOpen (H M b : ByteArray) (id : Int) (w : World) (htab : Tab w) (hl : Laid w) (hb : b.size ≤ 9223372036854775807) :
    Calls Tryz.prog 11 #[.agg #[.string H, .string M], .int .i64 id, .string b] w fun e w' => e = .returned (textO (openS (H, M) id b).1 (openS (H, M) id b).2) ∧ Below w.heap.size w w' := by
  by_cases hs : 20000 < b.size
  · rw [show openS (H, M) id b = (⟨#[]⟩, 2) from if_pos hs]
    exact imp_open_long H M b id w hs hb
  · have hs' : b.size ≤ 20000 := by omega
    rw [show openS (H, M) id b = openO (H, M) id b from if_neg hs]
    have SO := fun (W : World) (hW : Below w.heap.size w W) => imp_opened H M b id W (htab.low hW) (hl.low hW) hs'
    have hc := openO_code (H, M) id b
    by_cases h : (openO (H, M) id b).2 = 0
    · have e : endOf (openO (H, M) id b) = .returned (.string (openO (H, M) id b).1) := if_pos h
      rw [e] at SO
      rw [h]
      exact imp_open_good H M b _ id w hs' (hide SO)
    · have e : endOf (openO (H, M) id b) = .panicked [{ v := faultP (openO (H, M) id b).2, recovered := false }] := if_neg h
      rw [e] at SO
      rw [hc h]
      exact imp_open_bad H M b id _ w hs' (hide SO)
end Go.Proofs.YtconcnndghmdfaaGreatDoor
namespace Go.Proofs.YtconcnndghmdfaaGreatDoor
open Go Go.RowKit
set_option maxRecDepth 100000 in
theorem law_toKeys (H M : ByteArray) (w : World) :
    Calls Tryz.prog 15 #[.agg #[.string H, .string M]] w fun e w' => e = .returned (.agg #[.string H, .string M]) ∧ Below w.heap.size w w' := by
  go_enter Tryz.func15, Tryz.ntmps15
  go_wp2_with fail
  go_returns
  exact ⟨rfl, by go_grown⟩
set_option maxRecDepth 100000 in
theorem law_szKeys_no (H M : ByteArray) (w : World) (hH : H.size ≤ maxLen) (hM : M.size ≤ maxLen) (h : 1048576 < H.size + M.size) :
    Calls Tryz.prog 14 #[.agg #[.string H, .string M], .int .i64 1048576] w fun e w' => e = .returned (.int .i64 (-1)) ∧ Below w.heap.size w w' := by
  have q0 := hide ((Below.refl w.heap.size w).alloc (Nat.le_refl _) (.cells #[.string H, .string M] 36))
  have hH : H.size ≤ 9223372036854775807 := hH
  have hM : M.size ≤ 9223372036854775807 := hM
  by_cases h1 : 1048576 < H.size
  · have d1 : (1048576 : Int) - (H.size : Int) < 0 := by omega
    go_enter Tryz.func14, Tryz.ntmps14
    go_wp2_with fail
    go_ret
    exact ⟨rfl, q0.out⟩
  · have d1 : ¬ (1048576 : Int) - (H.size : Int) < 0 := by omega
    have d2 : (1048576 : Int) - (H.size : Int) - (M.size : Int) < 0 := by omega
    go_enter Tryz.func14, Tryz.ntmps14
    go_wp2_with fail
    go_ret
    exact ⟨rfl, q0.out⟩
set_option maxRecDepth 100000 in
theorem law_szKeys_yes (H M : ByteArray) (w : World) (h : H.size + M.size ≤ 1048576) :
    Calls Tryz.prog 14 #[.agg #[.string H, .string M], .int .i64 1048576] w fun e w' => e = .returned (.int .i64 (1048576 - (H.size : Int) - (M.size : Int))) ∧ Below w.heap.size w w' := by
  have q0 := hide ((Below.refl w.heap.size w).alloc (Nat.le_refl _) (.cells #[.string H, .string M] 36))
  have d1 : ¬ (1048576 : Int) - (H.size : Int) < 0 := by omega
  have d2 : ¬ (1048576 : Int) - (H.size : Int) - (M.size : Int) < 0 := by omega
  go_enter Tryz.func14, Tryz.ntmps14
  go_wp2_with fail
  go_ret
  exact ⟨rfl, q0.out⟩
end Go.Proofs.YtconcnndghmdfaaGreatDoor
namespace Go.Proofs.YtconcnndghmdfaaGreatDoor
open Go.RowKit
/-- Where the keys' block stands, and all that was there before. -/
structure KeyL (w : World) (H M : ByteArray) (w2 : World) : Prop where
  b : Below (w.heap.size + 1) (w.alloc (.cells #[.string H, .string M] 36)) w2
theorem KeyL.size {w w2 : World} {H M : ByteArray} (h : KeyL w H M w2) : w.heap.size + 1 ≤ w2.heap.size := by have := h.b.size; simpa using this
theorem KeyL.call {w w1 w2 : World} {H M : ByteArray} (h : KeyL w H M w1) (hb : Below w1.heap.size w1 w2) : KeyL w H M w2 := ⟨h.b.trans (hb.mono h.size)⟩
theorem KeyL.call' {w w1 w2 : World} {H M : ByteArray} (h : KeyL w H M w1) (hb : Below w1.drew.heap.size w1.drew w2) : KeyL w H M w2 := ⟨h.b.drew.trans (hb.mono h.size)⟩
theorem KeyL.c0 {w w2 : World} {H M : ByteArray} (h : KeyL w H M w2) : w2.cell? ⟨w.heap.size, 0, none⟩ = some (.string H) := (keys_cells h.b (Nat.lt_succ_self _) (heap_alloc_new w _)).1
theorem KeyL.c1 {w w2 : World} {H M : ByteArray} (h : KeyL w H M w2) : w2.cell? ⟨w.heap.size, 1, none⟩ = some (.string M) := (keys_cells h.b (Nat.lt_succ_self _) (heap_alloc_new w _)).2.1
theorem KeyL.alloc {w w1 : World} {H M : ByteArray} (h : KeyL w H M w1) (o : Obj) : KeyL w H M (w1.alloc o) := ⟨h.b.alloc h.size o⟩
theorem KeyL.drew {w w1 : World} {H M : ByteArray} (h : KeyL w H M w1) : KeyL w H M w1.drew := ⟨h.b.drew⟩
theorem KeyL.low {w w2 : World} {H M : ByteArray} (h : KeyL w H M w2) : Below w.heap.size w w2 := ((Below.refl _ _).alloc (Nat.le_refl _) _).trans (h.b.mono (Nat.le_succ _))
theorem KeyL.one {w w1 : World} {H M : ByteArray} (h : Below (w.alloc (.cells #[.string H, .string M] 36)).heap.size (w.alloc (.cells #[.string H, .string M] 36)) w1) : KeyL w H M w1 := ⟨by simpa using h⟩
end Go.Proofs.YtconcnndghmdfaaGreatDoor
namespace Go.Proofs.YtconcnndghmdfaaGreatDoor
open Go Go.RowKit
set_option maxRecDepth 100000 in
set_option maxHeartbeats 1600000 in
theorem fnExactBlockOpen_walk (H M : ByteArray) (hH : H.size ≤ maxLen) (hM : M.size ≤ maxLen) (id : Int) (_wi : (Lit.int .i64 id).wf = true) (t : ByteArray) (ht : t.size ≤ maxLen) (w : World) (htab : Tab w) (hl : Laid w) :
    Calls Tryz.prog 5 #[.agg #[.string H, .string M], .int .i64 id, .string t] w fun e w' => e = .returned (.bool true) ∧ Below w.heap.size w w' := by
  have ht : t.size ≤ 9223372036854775807 := ht
  have HT := hide (And.intro htab hl)
  clear htab hl
  by_cases h0 : 1048576 < t.size
  · have d0 : (1048576 : Int) < (t.size : Int) := by omega
    have q0 := hide ((Below.refl w.heap.size w).alloc (Nat.le_refl _) (.cells #[.string H, .string M] 36))
    go_enter Tryz.func5, Tryz.ntmps5
    go_wp2_with fail
    go_ret
    exact ⟨rfl, q0.out⟩
  · have d0 : ¬ (1048576 : Int) < (t.size : Int) := by omega
    by_cases h : 1048576 < H.size + M.size
    · have S0 := hide (fun W => law_szKeys_no H M W hH hM h)
      clear h hH hM
      go_enter Tryz.func5, Tryz.ntmps5
      go_wp2_with fail
      refine (S0.out _).mono ?_
      rintro e w1 ⟨rfl, hb1⟩
      have HB := KeyL.one hb1
      clear hb1 S0
      go_wp2_with fail
      go_ret
      exact ⟨rfl, HB.low⟩
    · have S0 := hide (fun W => law_szKeys_yes H M W (by omega))
      have d1 : ¬ (1048576 : Int) - (H.size : Int) - (M.size : Int) < 0 := by omega
      have ST := hide (fun W => law_toKeys H M W)
      have SK := hide (fun W => spec_blockOpen H M t id W ht)
      have IK := hide (fun W (h : Tab W ∧ Laid W) => imp_blockOpen H M t id W h.1 h.2 ht)
      unfold textO at SK IK
      generalize openS (H, M) id t = r at *
      obtain ⟨X, c⟩ := r
      dsimp only at SK IK
      clear h hH hM
      go_enter Tryz.func5, Tryz.ntmps5
      go_wp2_with fail
      refine (S0.out _).mono ?_
      rintro e w1 ⟨rfl, hb1⟩
      have HB := KeyL.one hb1
      have c0 := HB.c0
      have c1 := HB.c1
      clear hb1 S0
      go_wp2_with fail
      refine (ST.out _).mono ?_
      rintro e w2 ⟨rfl, hb2⟩
      have HB := HB.call hb2
      clear hb2 c0 c1
      go_wp2_with fail
      refine (SK.out _).mono ?_
      rintro e w3 ⟨rfl, hb3⟩
      have HB := HB.call hb3
      have HA := HB.alloc (.cells #[.string X, .int .i64 0, .int .i64 c] 31)
      have HQ := hide (heap_alloc_new w3 (.cells #[.string X, .int .i64 0, .int .i64 c] 31))
      have c0 := HA.c0
      have c1 := HA.c1
      have HA := hide HA
      clear hb3 SK HB
      go_wp2_with fail
      refine (ST.out _).mono ?_
      rintro e w4 ⟨rfl, hb4⟩
      have HQ4 := hide ((hb4.block w3.heap.size (by simp)).trans HQ.out)
      have HB := hide (HA.out.call hb4)
      clear hb4 c0 c1 HQ
      go_wp2_with fail
      refine (IK.out _ ⟨HT.out.1.low HB.out.low, HT.out.2.low HB.out.low⟩).mono ?_
      rintro e w5 ⟨rfl, hb5⟩
      have HQ5 := hide ((hb5.block w3.heap.size ((Array.getElem?_eq_some_iff.1 HQ4.out).1)).trans HQ4.out)
      have HB := hide (HB.out.call hb5)
      clear hb5 HQ4 IK
      have HQ6 := hide ((((Below.refl w5.heap.size w5).alloc (Nat.le_refl _) (.cells #[.string X, .int .i64 0, .int .i64 c] 31)).block w3.heap.size ((Array.getElem?_eq_some_iff.1 HQ5.out).1)).trans HQ5.out)
      have q0 : (w5.alloc (.cells #[.string X, .int .i64 0, .int .i64 c] 31)).cell? ⟨w3.heap.size, 0, none⟩ = some (.string X) := by simp [World.cell?, HQ6.out]
      have q1 : (w5.alloc (.cells #[.string X, .int .i64 0, .int .i64 c] 31)).cell? ⟨w3.heap.size, 1, none⟩ = some (.int .i64 0) := by simp [World.cell?, HQ6.out]
      have q2 : (w5.alloc (.cells #[.string X, .int .i64 0, .int .i64 c] 31)).cell? ⟨w3.heap.size, 2, none⟩ = some (.int .i64 c) := by simp [World.cell?, HQ6.out]
      clear HQ5 HQ6
      go_wp2_with fail
      refine (eqTextOut_same X 0 c _).mono ?_
      rintro e w6 ⟨rfl, hb6⟩
      have HB := hide ((HB.out.alloc _).call hb6)
      clear hb6 q0 q1 q2
      go_wp2_with fail
      go_ret
      exact ⟨rfl, HB.out.low⟩
end Go.Proofs.YtconcnndghmdfaaGreatDoor

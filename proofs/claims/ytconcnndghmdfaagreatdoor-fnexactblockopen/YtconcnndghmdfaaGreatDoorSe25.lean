/- Put together: SealKr, SealKi, SealOv. -/
import Derived.Test.YtconcnndghmdfaaGreatDoorSe20
import Derived.BigRegion
import Derived.Test.YtconcnndghmdfaaGreatDoorSe22
import Derived.Test.YtconcnndghmdfaaGreatDoorSe23
import Derived.Test.YtconcnndghmdfaaGreatDoorSe24
namespace Go.Proofs.YtconcnndghmdfaaGreatDoor
open Go.RowKit
set_option maxRecDepth 100000 in
theorem spec_keysRight (H M : ByteArray) (w : World) :
    Calls Tryz.prog 31 #[.agg #[.string H, .string M]] w fun e w' => e = .returned (.bool (keysOk (H, M))) ∧ Below w.heap.size w w' := by
  have q0 := hide ((Below.refl w.heap.size w).alloc (Nat.le_refl _) (.cells #[.string H, .string M] 24))
  have R := hide (show keysOk (H, M) = (decide (H.size = 16) && decide (M.size = 32)) from rfl)
  by_cases h1 : H.size = 16
  · have h1' : (H.size : Int) = 16 := by omega
    by_cases h2 : M.size = 32
    · have h2' : (M.size : Int) = 32 := by omega
      have R2 := hide (show keysOk (H, M) = true by rw [R.out, decide_eq_true h1, decide_eq_true h2, Bool.and_self])
      go_enter Tryz.func31, Tryz.ntmps31
      go_wp2_with fail
      go_ret
      exact ⟨by rw [R2.out]; rfl, q0.out⟩
    · have h2' : ((M.size : Int) == 32) = false := beq_eq_false_iff_ne.2 (by omega)
      have R2 := hide (show keysOk (H, M) = false by rw [R.out, decide_eq_true h1, decide_eq_false h2, Bool.true_and])
      go_enter Tryz.func31, Tryz.ntmps31
      go_wp2_with fail
      go_ret
      exact ⟨by rw [R2.out]; rfl, q0.out⟩
  · have h1' : ((H.size : Int) == 16) = false := beq_eq_false_iff_ne.2 (by omega)
    have R2 := hide (show keysOk (H, M) = false by rw [R.out, decide_eq_false h1, Bool.false_and])
    go_enter Tryz.func31, Tryz.ntmps31
    go_wp2_with fail
    go_ret
    exact ⟨by rw [R2.out]; rfl, q0.out⟩
end Go.Proofs.YtconcnndghmdfaaGreatDoor
namespace Go.Proofs.YtconcnndghmdfaaGreatDoor
open Go.RowKit
set_option maxRecDepth 100000 in
theorem spec_id10 (id : Int) (w : World) :
    Calls Tryz.prog 32 #[.int .i64 id] w fun e w' => e = .returned (.bool (idOk id)) ∧ Below w.heap.size w w' := by
  have R := hide (show idOk id = (decide (0 ≤ id) && decide (id ≤ 2000000)) from rfl)
  by_cases h1 : 0 ≤ id
  · have h1' : decide (0 ≤ id) = true := decide_eq_true h1
    by_cases h2 : id ≤ 2000000
    · have h2' : decide (id ≤ 2000000) = true := decide_eq_true h2
      have R2 := hide (show idOk id = true by rw [R.out, h1', h2', Bool.and_self])
      go_enter Tryz.func32, Tryz.ntmps32
      go_wp2_with fail
      go_ret
      exact ⟨by rw [R2.out]; rfl, Below.refl _ _⟩
    · have h2' : decide (id ≤ 2000000) = false := decide_eq_false h2
      have R2 := hide (show idOk id = false by rw [R.out, h1', h2', Bool.true_and])
      go_enter Tryz.func32, Tryz.ntmps32
      go_wp2_with fail
      go_ret
      exact ⟨by rw [R2.out]; rfl, Below.refl _ _⟩
  · have h1' : decide (0 ≤ id) = false := decide_eq_false h1
    have R2 := hide (show idOk id = false by rw [R.out, h1', Bool.false_and])
    go_enter Tryz.func32, Tryz.ntmps32
    go_wp2_with fail
    go_ret
    exact ⟨by rw [R2.out]; rfl, Below.refl _ _⟩
end Go.Proofs.YtconcnndghmdfaaGreatDoor
namespace Go.Proofs.YtconcnndghmdfaaGreatDoor
open Go.RowKit Go
theorem spec_l10Open (H M b : ByteArray) (N : Nat) (w : World) (hk : keysOk (H, M) = true) (hN : N ≤ 2000000) (hb : b.size ≤ 20000) :
    Calls Tryz.prog 41 #[.agg #[.string H, .string M], .int .i64 (N : Int), .string b] w fun e w' => e = .returned (textO (openT (H, M) (N : Int) b).1 (openT (H, M) (N : Int) b).2) ∧ Below w.heap.size w w' := by
  obtain ⟨hH, hM⟩ : H.size = 16 ∧ M.size = 32 := by unfold keysOk at hk; simpa using hk
  by_cases hs : b.size < 18
  · rw [show openT (H, M) (N : Int) b = (⟨#[]⟩, 4) from if_pos hs]
    exact spec_open_short H M b N w hs
  · by_cases hX : take16 (macT M (bodyX b)) = tailX b
    · by_cases ho : headOk (bodyX b) (N : Int)
      · obtain ⟨F, hF⟩ := Int.eq_ofNat_of_zero_le ho.2.2.2.1
        have hF' : farX (bodyX b) = (F : Int) := hF
        obtain ⟨U, zc, hU⟩ : ∃ U zc, shownX (H, M) (N : Int) (bodyX b) = (U, zc) := ⟨_, _, (Prod.eta _).symm⟩
        have hun : unpackS (hidB H N (restX (bodyX b))) = (U, zc) := by rw [← hU]; unfold shownX; rw [Int.toNat_natCast]
        have hrs := restX_size (bodyX b)
        have hbs := bodyX_size b
        have SC : Hid (∀ W : World, Calls Tryz.prog 58 #[.string H, .int .i64 (N : Int), .string (restX (bodyX b))] W fun e w' => e = .returned (.string (hidB H N (restX (bodyX b)))) ∧ Below W.heap.size W w') :=
          hide (fun W => spec_ctrA H (restX (bodyX b)) N W hH (by omega) (by omega))
        have SU : Hid (∀ W : World, Calls Tryz.prog 69 #[.string (hidB H N (restX (bodyX b)))] W fun e w' => e = .returned (.agg #[.string U, .int .i64 0, .int .i64 zc]) ∧ Below W.heap.size W w') :=
          hide (fun W => by
            have h := spec_unpack (hidB H N (restX (bodyX b))) W (by rw [hidB_size]; omega)
            rw [hun] at h
            exact h)
        have hus := unpackS_size (hidB H N (restX (bodyX b)))
        rw [hun] at hus
        by_cases hz : zc = 0
        · have e : openT (H, M) (N : Int) b = (sumB U (F : Int), 0) := by
            unfold openT
            rw [if_neg hs, if_neg (not_not_intro hX), if_neg (not_not_intro ho), hU, if_neg (not_not_intro hz), hF']
          rw [e]
          subst hz
          exact spec_open_good H M b _ U N F w (by omega) (by omega) hb hX ho hF hus SC SU
        · have e : openT (H, M) (N : Int) b = (⟨#[]⟩, zc) := by
            unfold openT
            rw [if_neg hs, if_neg (not_not_intro hX), if_neg (not_not_intro ho), hU, if_pos hz]
          rw [e]
          exact spec_open_bad H M b _ U N F zc w (by omega) (by omega) hb hX ho hF hz SC SU
      · have e : openT (H, M) (N : Int) b = (⟨#[]⟩, 5) := by
          unfold openT
          rw [if_neg hs, if_neg (not_not_intro hX), if_pos ho]
        rw [e]
        exact spec_open_head H M b N w (by omega) (by omega) hb hX ho
    · have e : openT (H, M) (N : Int) b = (⟨#[]⟩, 10) := by
        unfold openT
        rw [if_neg hs, if_pos hX]
      rw [e]
      exact spec_open_key H M b N w (by omega) (by omega) hb hX
set_option maxRecDepth 100000 in
set_option maxHeartbeats 3200000 in
theorem spec_blockOpen (H M b : ByteArray) (id : Int) (w : World) (hb : b.size ≤ 9223372036854775807) :
    Calls Tryz.prog 13 #[.agg #[.string H, .string M], .int .i64 id, .string b] w fun e w' => e = .returned (textO (openS (H, M) id b).1 (openS (H, M) id b).2) ∧ Below w.heap.size w w' := by
  by_cases hs : 20000 < b.size
  · have hs' : (20000 : Int) < (b.size : Int) := by omega
    rw [show openS (H, M) id b = (⟨#[]⟩, 2) from if_pos hs]
    unfold textO
    go_enter Tryz.func13, Tryz.ntmps13
    go_wp2_with fail
    go_returns
    exact ⟨rfl, by go_grown⟩
  · have hs' : ¬ (20000 : Int) < (b.size : Int) := by omega
    have HB0 : OpW w H M _ := OpW.start (w := w) (H := H) (M := M)
    have c0 := HB0.c0
    have c1 := HB0.c1
    have HB := hide HB0
    clear HB0
    by_cases hk : keysOk (H, M) = true
    · have SK := hide (fun W => by have h := spec_keysRight H M W; rw [hk] at h; exact h)
      by_cases hi : idOk id = true
      · have SI := hide (fun W => by have h := spec_id10 id W; rw [hi] at h; exact h)
        obtain ⟨h0, h1⟩ : 0 ≤ id ∧ id ≤ 2000000 := by unfold idOk at hi; simpa using hi
        have e : openS (H, M) id b = openT (H, M) id b := by unfold openS; rw [if_neg hs, if_neg (not_not_intro ⟨hk, hi⟩)]
        rw [e]
        obtain ⟨N, rfl⟩ := Int.eq_ofNat_of_zero_le h0
        have SO := hide (fun W => spec_l10Open H M b N W hk (by omega) (by omega))
        clear e hk hi
        unfold textO at SO
        unfold textO
        generalize openT (H, M) (N : Int) b = r at *
        obtain ⟨X, c⟩ := r
        dsimp only at SO ⊢
        go_enter Tryz.func13, Tryz.ntmps13
        go_wp2_with fail
        refine (SK.out _).mono ?_
        rintro e w1 ⟨rfl, hb1⟩
        have HB := hide (HB.out.call hb1)
        clear hb1 c0 c1
        go_wp2_with fail
        refine (SI.out _).mono ?_
        rintro e w2 ⟨rfl, hb2⟩
        have HB := hide (HB.out.call hb2)
        have c0 := HB.out.c0
        have c1 := HB.out.c1
        clear hb2
        go_wp2_with fail
        refine (SO.out _).mono ?_
        rintro e w3 ⟨rfl, hb3⟩
        have HB := hide (HB.out.call hb3)
        clear hb3 c0 c1 SO
        have r0 := HB.out.r0
        have r1 := HB.out.r1
        have r2 := HB.out.r2
        have fz := HB.out.fz
        go_wp2_with fail
        exact bodyPost_ret (results_cell_row Tryz.results13 _ _ (w.heap.size + 1) 31 #[.string X, .int .i64 0, .int .i64 c] (0, 0) _ rfl (HB.out.all _ _ _) Tryz.underlying31 rfl (by kernel_rfl)) rfl ⟨rfl, HB.out.set3 _ _ _⟩
      · have hi' : idOk id = false := Bool.eq_false_iff.2 hi
        have SI := hide (fun W => by have h := spec_id10 id W; rw [hi'] at h; exact h)
        rw [show openS (H, M) id b = (⟨#[]⟩, 1) by unfold openS; rw [if_neg hs, if_pos (fun x => hi x.2)]]
        clear hk hi hi'
        unfold textO
        go_enter Tryz.func13, Tryz.ntmps13
        go_wp2_with fail
        refine (SK.out _).mono ?_
        rintro e w1 ⟨rfl, hb1⟩
        have HB := hide (HB.out.call hb1)
        clear hb1 c0 c1
        go_wp2_with fail
        refine (SI.out _).mono ?_
        rintro e w2 ⟨rfl, hb2⟩
        have HB := hide (HB.out.call hb2)
        clear hb2
        have r0 := HB.out.r0
        have r1 := HB.out.r1
        have r2 := HB.out.r2
        have fz := HB.out.fz
        go_wp2_with fail
        exact bodyPost_ret (results_cell_row Tryz.results13 _ _ (w.heap.size + 1) 31 #[.string ⟨#[]⟩, .int .i64 0, .int .i64 1] (0, 0) _ rfl (HB.out.all _ _ _) Tryz.underlying31 rfl (by kernel_rfl)) rfl ⟨rfl, HB.out.set3 _ _ _⟩
    · have hk' : keysOk (H, M) = false := Bool.eq_false_iff.2 hk
      have SK := hide (fun W => by have h := spec_keysRight H M W; rw [hk'] at h; exact h)
      rw [show openS (H, M) id b = (⟨#[]⟩, 1) by unfold openS; rw [if_neg hs, if_pos (fun x => hk x.1)]]
      clear hk hk'
      unfold textO
      go_enter Tryz.func13, Tryz.ntmps13
      go_wp2_with fail
      refine (SK.out _).mono ?_
      rintro e w1 ⟨rfl, hb1⟩
      have HB := hide (HB.out.call hb1)
      clear hb1 c0 c1
      have r0 := HB.out.r0
      have r1 := HB.out.r1
      have r2 := HB.out.r2
      have fz := HB.out.fz
      go_wp2_with fail
      exact bodyPost_ret (results_cell_row Tryz.results13 _ _ (w.heap.size + 1) 31 #[.string ⟨#[]⟩, .int .i64 0, .int .i64 1] (0, 0) _ rfl (HB.out.all _ _ _) Tryz.underlying31 rfl (by kernel_rfl)) rfl ⟨rfl, HB.out.set3 _ _ _⟩
end Go.Proofs.YtconcnndghmdfaaGreatDoor

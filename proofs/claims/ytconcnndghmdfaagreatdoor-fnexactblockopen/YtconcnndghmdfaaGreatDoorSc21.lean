/- Put together: SealKr, SealKi, SealOv, SealPx, PackT, MkB, CtrTw. -/
import Derived.Test.YtconcnndghmdfaaGreatDoorSc1
import Derived.BigRegion
import Derived.Test.YtconcnndghmdfaaGreatDoorSc20
import Derived.Test.YtconcnndghmdfaaGreatDoorSc19
import Derived.WalkKit
import Derived.Defers
import Derived.Recover
import Derived.Test.YtconcnndghmdfaaGreatDoorSc18
import Derived.Test.YtconcnndghmdfaaGreatDoorSc15
import Derived.Test.YtconcnndghmdfaaGreatDoorSc7
namespace Go.Proofs.YtconcnndghmdfaaGreatDoor
open Go.RowKit
set_option maxRecDepth 100000 in
theorem spec_keysRight (H M : ByteArray) (w : World) :
    Calls Tryz.prog 31 #[.agg #[.string H, .string M]] w fun e w' => e = .returned (.bool (keysOk (H, M))) ∧ Below w.heap.size w w' := by
  have q0 := hide ((Below.refl w.heap.size w).alloc (Nat.le_refl _) (.cells #[.string H, .string M] 24))
  have R := hide (show keysOk (H, M) = (decide (H.size = 16) && decide (M.size = 32)) from rfl)
  by_cases h1 : H.size = 16
  · have h1' : (H.size : Int) = 16 := by omega
    by_cases h2 : M.size = 32
    · have h2' : (M.size : Int) = 32 := by omega
      have R2 := hide (show keysOk (H, M) = true by rw [R.out, decide_eq_true h1, decide_eq_true h2, Bool.and_self])
      go_enter Tryz.func31, Tryz.ntmps31
      go_wp2_with fail
      go_ret
      exact ⟨by rw [R2.out]; rfl, q0.out⟩
    · have h2' : ((M.size : Int) == 32) = false := beq_eq_false_iff_ne.2 (by omega)
      have R2 := hide (show keysOk (H, M) = false by rw [R.out, decide_eq_true h1, decide_eq_false h2, Bool.true_and])
      go_enter Tryz.func31, Tryz.ntmps31
      go_wp2_with fail
      go_ret
      exact ⟨by rw [R2.out]; rfl, q0.out⟩
  · have h1' : ((H.size : Int) == 16) = false := beq_eq_false_iff_ne.2 (by omega)
    have R2 := hide (show keysOk (H, M) = false by rw [R.out, decide_eq_false h1, Bool.false_and])
    go_enter Tryz.func31, Tryz.ntmps31
    go_wp2_with fail
    go_ret
    exact ⟨by rw [R2.out]; rfl, q0.out⟩
end Go.Proofs.YtconcnndghmdfaaGreatDoor
namespace Go.Proofs.YtconcnndghmdfaaGreatDoor
open Go.RowKit
set_option maxRecDepth 100000 in
theorem spec_id10 (id : Int) (w : World) :
    Calls Tryz.prog 32 #[.int .i64 id] w fun e w' => e = .returned (.bool (idOk id)) ∧ Below w.heap.size w w' := by
  have R := hide (show idOk id = (decide (0 ≤ id) && decide (id ≤ 2000000)) from rfl)
  by_cases h1 : 0 ≤ id
  · have h1' : decide (0 ≤ id) = true := decide_eq_true h1
    by_cases h2 : id ≤ 2000000
    · have h2' : decide (id ≤ 2000000) = true := decide_eq_true h2
      have R2 := hide (show idOk id = true by rw [R.out, h1', h2', Bool.and_self])
      go_enter Tryz.func32, Tryz.ntmps32
      go_wp2_with fail
      go_ret
      exact ⟨by rw [R2.out]; rfl, Below.refl _ _⟩
    · have h2' : decide (id ≤ 2000000) = false := decide_eq_false h2
      have R2 := hide (show idOk id = false by rw [R.out, h1', h2', Bool.true_and])
      go_enter Tryz.func32, Tryz.ntmps32
      go_wp2_with fail
      go_ret
      exact ⟨by rw [R2.out]; rfl, Below.refl _ _⟩
  · have h1' : decide (0 ≤ id) = false := decide_eq_false h1
    have R2 := hide (show idOk id = false by rw [R.out, h1', Bool.false_and])
    go_enter Tryz.func32, Tryz.ntmps32
    go_wp2_with fail
    go_ret
    exact ⟨by rw [R2.out]; rfl, Below.refl _ _⟩
end Go.Proofs.YtconcnndghmdfaaGreatDoor
namespace Go.Proofs.YtconcnndghmdfaaGreatDoor
open Go.RowKit Go
theorem spec_l10Open (H M b : ByteArray) (N : Nat) (w : World) (hk : keysOk (H, M) = true) (hN : N ≤ 2000000) (hb : b.size ≤ 20000) :
    Calls Tryz.prog 41 #[.agg #[.string H, .string M], .int .i64 (N : Int), .string b] w fun e w' => e = .returned (textO (openT (H, M) (N : Int) b).1 (openT (H, M) (N : Int) b).2) ∧ Below w.heap.size w w' := by
  obtain ⟨hH, hM⟩ : H.size = 16 ∧ M.size = 32 := by unfold keysOk at hk; simpa using hk
  by_cases hs : b.size < 18
  · rw [show openT (H, M) (N : Int) b = (⟨#[]⟩, 4) from if_pos hs]
    exact spec_open_short H M b N w hs
  · by_cases hX : take16 (macT M (bodyX b)) = tailX b
    · by_cases ho : headOk (bodyX b) (N : Int)
      · obtain ⟨F, hF⟩ := Int.eq_ofNat_of_zero_le ho.2.2.2.1
        have hF' : farX (bodyX b) = (F : Int) := hF
        obtain ⟨U, zc, hU⟩ : ∃ U zc, shownX (H, M) (N : Int) (bodyX b) = (U, zc) := ⟨_, _, (Prod.eta _).symm⟩
        have hun : unpackS (hidB H N (restX (bodyX b))) = (U, zc) := by rw [← hU]; unfold shownX; rw [Int.toNat_natCast]
        have hrs := restX_size (bodyX b)
        have hbs := bodyX_size b
        have SC : Hid (∀ W : World, Calls Tryz.prog 58 #[.string H, .int .i64 (N : Int), .string (restX (bodyX b))] W fun e w' => e = .returned (.string (hidB H N (restX (bodyX b)))) ∧ Below W.heap.size W w') :=
          hide (fun W => spec_ctrA H (restX (bodyX b)) N W hH (by omega) (by omega))
        have SU : Hid (∀ W : World, Calls Tryz.prog 69 #[.string (hidB H N (restX (bodyX b)))] W fun e w' => e = .returned (.agg #[.string U, .int .i64 0, .int .i64 zc]) ∧ Below W.heap.size W w') :=
          hide (fun W => by
            have h := spec_unpack (hidB H N (restX (bodyX b))) W (by rw [hidB_size]; omega)
            rw [hun] at h
            exact h)
        have hus := unpackS_size (hidB H N (restX (bodyX b)))
        rw [hun] at hus
        by_cases hz : zc = 0
        · have e : openT (H, M) (N : Int) b = (sumB U (F : Int), 0) := by
            unfold openT
            rw [if_neg hs, if_neg (not_not_intro hX), if_neg (not_not_intro ho), hU, if_neg (not_not_intro hz), hF']
          rw [e]
          subst hz
          exact spec_open_good H M b _ U N F w (by omega) (by omega) hb hX ho hF hus SC SU
        · have e : openT (H, M) (N : Int) b = (⟨#[]⟩, zc) := by
            unfold openT
            rw [if_neg hs, if_neg (not_not_intro hX), if_neg (not_not_intro ho), hU, if_pos hz]
          rw [e]
          exact spec_open_bad H M b _ U N F zc w (by omega) (by omega) hb hX ho hF hz SC SU
      · have e : openT (H, M) (N : Int) b = (⟨#[]⟩, 5) := by
          unfold openT
          rw [if_neg hs, if_neg (not_not_intro hX), if_pos ho]
        rw [e]
        exact spec_open_head H M b N w (by omega) (by omega) hb hX ho
    · have e : openT (H, M) (N : Int) b = (⟨#[]⟩, 10) := by
        unfold openT
        rw [if_neg hs, if_pos hX]
      rw [e]
      exact spec_open_key H M b N w (by omega) (by omega) hb hX
set_option maxRecDepth 100000 in
set_option maxHeartbeats 3200000 in
theorem spec_blockOpen (H M b : ByteArray) (id : Int) (w : World) (hb : b.size ≤ 9223372036854775807) :
    Calls Tryz.prog 13 #[.agg #[.string H, .string M], .int .i64 id, .string b] w fun e w' => e = .returned (textO (openS (H, M) id b).1 (openS (H, M) id b).2) ∧ Below w.heap.size w w' := by
  by_cases hs : 20000 < b.size
  · have hs' : (20000 : Int) < (b.size : Int) := by omega
    rw [show openS (H, M) id b = (⟨#[]⟩, 2) from if_pos hs]
    unfold textO
    go_enter Tryz.func13, Tryz.ntmps13
    go_wp2_with fail
    go_returns
    exact ⟨rfl, by go_grown⟩
  · have hs' : ¬ (20000 : Int) < (b.size : Int) := by omega
    have HB0 : OpW w H M _ := OpW.start (w := w) (H := H) (M := M)
    have c0 := HB0.c0
    have c1 := HB0.c1
    have HB := hide HB0
    clear HB0
    by_cases hk : keysOk (H, M) = true
    · have SK := hide (fun W => by have h := spec_keysRight H M W; rw [hk] at h; exact h)
      by_cases hi : idOk id = true
      · have SI := hide (fun W => by have h := spec_id10 id W; rw [hi] at h; exact h)
        obtain ⟨h0, h1⟩ : 0 ≤ id ∧ id ≤ 2000000 := by unfold idOk at hi; simpa using hi
        have e : openS (H, M) id b = openT (H, M) id b := by unfold openS; rw [if_neg hs, if_neg (not_not_intro ⟨hk, hi⟩)]
        rw [e]
        obtain ⟨N, rfl⟩ := Int.eq_ofNat_of_zero_le h0
        have SO := hide (fun W => spec_l10Open H M b N W hk (by omega) (by omega))
        clear e hk hi
        unfold textO at SO
        unfold textO
        generalize openT (H, M) (N : Int) b = r at *
        obtain ⟨X, c⟩ := r
        dsimp only at SO ⊢
        go_enter Tryz.func13, Tryz.ntmps13
        go_wp2_with fail
        refine (SK.out _).mono ?_
        rintro e w1 ⟨rfl, hb1⟩
        have HB := hide (HB.out.call hb1)
        clear hb1 c0 c1
        go_wp2_with fail
        refine (SI.out _).mono ?_
        rintro e w2 ⟨rfl, hb2⟩
        have HB := hide (HB.out.call hb2)
        have c0 := HB.out.c0
        have c1 := HB.out.c1
        clear hb2
        go_wp2_with fail
        refine (SO.out _).mono ?_
        rintro e w3 ⟨rfl, hb3⟩
        have HB := hide (HB.out.call hb3)
        clear hb3 c0 c1 SO
        have r0 := HB.out.r0
        have r1 := HB.out.r1
        have r2 := HB.out.r2
        have fz := HB.out.fz
        go_wp2_with fail
        exact bodyPost_ret (results_cell_row Tryz.results13 _ _ (w.heap.size + 1) 31 #[.string X, .int .i64 0, .int .i64 c] (0, 0) _ rfl (HB.out.all _ _ _) Tryz.underlying31 rfl (by kernel_rfl)) rfl ⟨rfl, HB.out.set3 _ _ _⟩
      · have hi' : idOk id = false := Bool.eq_false_iff.2 hi
        have SI := hide (fun W => by have h := spec_id10 id W; rw [hi'] at h; exact h)
        rw [show openS (H, M) id b = (⟨#[]⟩, 1) by unfold openS; rw [if_neg hs, if_pos (fun x => hi x.2)]]
        clear hk hi hi'
        unfold textO
        go_enter Tryz.func13, Tryz.ntmps13
        go_wp2_with fail
        refine (SK.out _).mono ?_
        rintro e w1 ⟨rfl, hb1⟩
        have HB := hide (HB.out.call hb1)
        clear hb1 c0 c1
        go_wp2_with fail
        refine (SI.out _).mono ?_
        rintro e w2 ⟨rfl, hb2⟩
        have HB := hide (HB.out.call hb2)
        clear hb2
        have r0 := HB.out.r0
        have r1 := HB.out.r1
        have r2 := HB.out.r2
        have fz := HB.out.fz
        go_wp2_with fail
        exact bodyPost_ret (results_cell_row Tryz.results13 _ _ (w.heap.size + 1) 31 #[.string ⟨#[]⟩, .int .i64 0, .int .i64 1] (0, 0) _ rfl (HB.out.all _ _ _) Tryz.underlying31 rfl (by kernel_rfl)) rfl ⟨rfl, HB.out.set3 _ _ _⟩
    · have hk' : keysOk (H, M) = false := Bool.eq_false_iff.2 hk
      have SK := hide (fun W => by have h := spec_keysRight H M W; rw [hk'] at h; exact h)
      rw [show openS (H, M) id b = (⟨#[]⟩, 1) by unfold openS; rw [if_neg hs, if_pos (fun x => hk x.1)]]
      clear hk hk'
      unfold textO
      go_enter Tryz.func13, Tryz.ntmps13
      go_wp2_with fail
      refine (SK.out _).mono ?_
      rintro e w1 ⟨rfl, hb1⟩
      have HB := hide (HB.out.call hb1)
      clear hb1 c0 c1
      have r0 := HB.out.r0
      have r1 := HB.out.r1
      have r2 := HB.out.r2
      have fz := HB.out.fz
      go_wp2_with fail
      exact bodyPost_ret (results_cell_row Tryz.results13 _ _ (w.heap.size + 1) 31 #[.string ⟨#[]⟩, .int .i64 0, .int .i64 1] (0, 0) _ rfl (HB.out.all _ _ _) Tryz.underlying31 rfl (by kernel_rfl)) rfl ⟨rfl, HB.out.set3 _ _ _⟩
end Go.Proofs.YtconcnndghmdfaaGreatDoor
namespace Go.Proofs.YtconcnndghmdfaaGreatDoor
open Go.RowKit Go
set_option maxRecDepth 100000 in
theorem catch_idle (p : Addr) (w : World) :
    CallsD Tryz.prog 35 #[.pointer (some p)] .returning w fun e u' w' => e = .returned (.tuple #[]) ∧ u' = .returning ∧ w' = w := by
  refine callsD_of_wpS Tryz.func35 rfl fun c₀ cs hu => ?_
  apply wpS_seq
  apply wpS_region
  simp [wpOpsS, go_sem, recoverD, hu, Tryz.ntmps35, Exit.thenS]
  refine wpS_of_wp ?_
  have hT : (#[Value.pointer (some p)] ++ ((Array.replicate 7 undef).setIfInBounds 1 Value.nilIface).setIfInBounds 0 Value.nilIface) = #[Value.pointer (some p), .nilIface, .nilIface, undef, undef, undef, undef, undef] := rfl
  rw [hT]
  go_wp2_with fail
  cases c₀
  simp_all [bodyPostS, results, Tryz.results35]
set_option maxRecDepth 100000 in
theorem catch_fault (g : Nat) (c : Int) (older : List PanicEntry) (w : World) (r0 : w.cell? ⟨g, 0, none⟩ = some (.string ⟨#[]⟩)) (r1 : w.cell? ⟨g, 1, none⟩ = some (.int .i64 0)) (r2 : w.cell? ⟨g, 2, none⟩ = some (.int .i64 0)) (fz : ∀ o, w.frozen? ⟨g, o, none⟩ = false) :
    CallsD Tryz.prog 35 #[.pointer (some ⟨g, 0, none⟩)] (.panicking ({ v := faultP c, recovered := false } :: older)) w fun e u' w' =>
      e = .returned (.tuple #[]) ∧ u' = .panicking ({ v := faultP c, recovered := true } :: older) ∧ w' = (((w.setCell ⟨g, 0, none⟩ (.string ⟨#[]⟩)).setCell ⟨g, 1, none⟩ (.int .i64 0)).setCell ⟨g, 2, none⟩ (.int .i64 c)) := by
  refine callsD_of_wpS Tryz.func35 rfl fun c₀ cs hu => ?_
  apply wpS_seq
  apply wpS_region
  simp [wpOpsS, go_sem, recoverD, hu, Tryz.ntmps35, Exit.thenS]
  refine wpS_of_wp ?_
  have S := hide (fun W => imp_faultCode c W)
  unfold faultP at *
  have hT : (#[Value.pointer (some ⟨g, 0, none⟩)] ++ ((Array.replicate 7 undef).setIfInBounds 1 (Value.iface 84 (.agg #[.int .i64 c]))).setIfInBounds 0 (Value.iface 84 (.agg #[.int .i64 c]))) = #[Value.pointer (some ⟨g, 0, none⟩), .iface 84 (.agg #[.int .i64 c]), .iface 84 (.agg #[.int .i64 c]), undef, undef, undef, undef, undef] := rfl
  rw [hT]
  go_wp2_with fail
  refine (S.out _).mono ?_
  rintro e w1 ⟨rfl, rfl⟩
  go_wp2_with fail
  cases c₀
  simp_all [bodyPostS, results, Tryz.results35]
set_option maxRecDepth 100000 in
set_option maxHeartbeats 1600000 in
theorem imp_open_long (H M b : ByteArray) (id : Int) (w : World) (hs : 20000 < b.size) (hb : b.size ≤ 9223372036854775807) :
    Calls Tryz.prog 11 #[.agg #[.string H, .string M], .int .i64 id, .string b] w fun e w' => e = .returned (textO ⟨#[]⟩ 2) ∧ Below w.heap.size w w' := by
  have hs' : (20000 : Int) < (b.size : Int) := by omega
  have hmf : ∀ (fn : Fn) (first cap : Array Value) (w : World), (Instr.makeFunc fn first cap).run Tryz.prog w = .ok (.func fn first cap) w := fun _ _ _ _ => rfl
  unfold textO
  go_enter_defers Tryz.func11, Tryz.ntmps11
  go_wp2_with fail
  have hr := heap_alloc_new (w.alloc (.cells #[.string H, .string M] 24)) (.cells #[.string ⟨#[]⟩, .int .i64 0, .int .i64 2] 31)
  rw [World.size_alloc] at hr
  exact ⟨_, results_cell_row Tryz.results11 _ _ (w.heap.size + 1) 31 #[.string ⟨#[]⟩, .int .i64 0, .int .i64 2] (0, 0) _ rfl hr Tryz.underlying31 rfl (by kernel_rfl), rfl, ((Below.refl _ _).alloc (Nat.le_refl _) _).alloc (by simp) _⟩
set_option maxRecDepth 100000 in
set_option maxHeartbeats 1600000 in
theorem imp_open_good (H M b t : ByteArray) (id : Int) (w : World) (hs : b.size ≤ 20000)
    (SO : Hid (∀ W : World, Below w.heap.size w W → Calls Tryz.prog 37 #[.agg #[.string H, .string M], .int .i64 id, .string b] W fun e w' => e = .returned (.string t) ∧ Below W.heap.size W w')) :
    Calls Tryz.prog 11 #[.agg #[.string H, .string M], .int .i64 id, .string b] w fun e w' => e = .returned (textO t 0) ∧ Below w.heap.size w w' := by
  have hs' : ¬ (20000 : Int) < (b.size : Int) := by omega
  have hmf : ∀ (fn : Fn) (first cap : Array Value) (w : World), (Instr.makeFunc fn first cap).run Tryz.prog w = .ok (.func fn first cap) w := fun _ _ _ _ => rfl
  have HB0 : OpW w H M _ := OpW.start (w := w) (H := H) (M := M)
  have c0 := HB0.c0
  have c1 := HB0.c1
  have HB := hide HB0
  clear HB0
  unfold textO
  go_enter_defers Tryz.func11, Tryz.ntmps11
  go_wp2_with fail
  refine (SO.out _ HB.out.low).mono ?_
  rintro e w1 ⟨rfl, hb1⟩
  have HB := hide (HB.out.call hb1)
  clear hb1 c0 c1
  have r0 := HB.out.r0
  have r1 := HB.out.r1
  have r2 := HB.out.r2
  have fz := HB.out.fz
  go_wp2_with fail
  refine leaves_cons (f := 35) (args := #[.pointer (some ⟨w.heap.size + 1, 0, none⟩)]) (by simp) (by simp [go_sem]) ?_
  refine (catch_idle ⟨w.heap.size + 1, 0, none⟩ _).mono ?_
  rintro e u' w'' ⟨rfl, rfl, rfl⟩
  exact ⟨_, results_cell_row Tryz.results11 _ _ (w.heap.size + 1) 31 #[.string t, .int .i64 0, .int .i64 0] (0, 0) _ rfl (HB.out.all _ _ _) Tryz.underlying31 rfl (by kernel_rfl), rfl, HB.out.set3 _ _ _⟩
set_option maxRecDepth 100000 in
set_option maxHeartbeats 1600000 in
theorem imp_open_bad (H M b : ByteArray) (id c : Int) (w : World) (hs : b.size ≤ 20000)
    (SO : Hid (∀ W : World, Below w.heap.size w W → Calls Tryz.prog 37 #[.agg #[.string H, .string M], .int .i64 id, .string b] W fun e w' => e = .panicked [{ v := faultP c, recovered := false }] ∧ Below W.heap.size W w')) :
    Calls Tryz.prog 11 #[.agg #[.string H, .string M], .int .i64 id, .string b] w fun e w' => e = .returned (textO ⟨#[]⟩ c) ∧ Below w.heap.size w w' := by
  have hs' : ¬ (20000 : Int) < (b.size : Int) := by omega
  have hmf : ∀ (fn : Fn) (first cap : Array Value) (w : World), (Instr.makeFunc fn first cap).run Tryz.prog w = .ok (.func fn first cap) w := fun _ _ _ _ => rfl
  have HB0 : OpW w H M _ := OpW.start (w := w) (H := H) (M := M)
  have c0 := HB0.c0
  have c1 := HB0.c1
  have HB := hide HB0
  clear HB0
  unfold textO
  go_enter_defers Tryz.func11, Tryz.ntmps11
  go_wp2_with fail
  refine (SO.out _ HB.out.low).mono ?_
  rintro e w1 ⟨rfl, hb1⟩
  have HB := hide (HB.out.call hb1)
  clear hb1 c0 c1
  have r0 := HB.out.r0
  have r1 := HB.out.r1
  have r2 := HB.out.r2
  have fz := HB.out.fz
  go_wp2_with fail
  refine leaves_cons (f := 35) (args := #[.pointer (some ⟨w.heap.size + 1, 0, none⟩)]) (by simp) (by simp [go_sem]) ?_
  refine (catch_fault (w.heap.size + 1) c [] w1 r0 r1 r2 fz).mono ?_
  rintro e u' w'' ⟨rfl, rfl, rfl⟩
  exact ⟨_, results_cell_row Tryz.results11 _ _ (w.heap.size + 1) 31 #[.string ⟨#[]⟩, .int .i64 0, .int .i64 c] (0, 0) _ rfl (HB.out.all _ _ _) Tryz.underlying31 rfl (by kernel_rfl), rfl, HB.out.set3 _ _ _⟩
end Go.Proofs.YtconcnndghmdfaaGreatDoor
namespace Go.Proofs.YtconcnndghmdfaaGreatDoor
open Go.RowKit
theorem upto_self' (t : ByteArray) : (⟨(upto (bF t) t.size).toArray⟩ : ByteArray) = t := by
  apply ByteArray.ext
  apply Array.toList_inj.1
  show (upto (bF t) t.size).toArray.toList = _
  apply List.ext_getElem?
  intro j
  by_cases h : j < t.size
  · rw [bF_at t t.size rfl j h]
    simp [upto, h]
  · rw [List.getElem?_eq_none (by simp [upto]; omega), List.getElem?_eq_none (by have e : t.data.toList.length = t.size := rfl; omega)]
theorem pack_list (t : ByteArray) : (packB t).data.toList = encNum (foldNum t.size) ++ codeOf (toksBits (parseL (bF t) t.size)) := by
  unfold packB; simp
theorem ext_list' (s : ByteArray) (a : Nat) : (s.extract a s.size).data.toList = s.data.toList.drop a := by
  have e : s.data.toList.length = s.size := rfl
  simp only [ByteArray.data_extract, Array.toList_extract, List.extract]
  exact List.take_of_length_le (by rw [List.length_drop]; omega)
theorem unpack_pack (t : ByteArray) (h : t.size ≤ 4000) (h2 : (packB t).size ≤ 20000) : unpackS (packB t) = (t, 0) := by
  have hf : foldNum (t.size : Int) < 18446744073709551616 := by have := fold_pos t.size (by omega); omega
  have hd : decAt (packB t) 0 = (0, foldNum t.size, (encNum (foldNum t.size)).length) := by
    unfold decAt
    rw [List.drop_zero, pack_list]
    exact dec_whole _ _ hf
  have hx : ((packB t).extract (encNum (foldNum t.size)).length (packB t).size).data.toList = codeOf (toksBits (parseL (bF t) t.size)) := by
    rw [ext_list', pack_list, List.drop_left]
  have hu : unpO ((packB t).extract (encNum (foldNum t.size)).length (packB t).size) t.size = (t, true) := by
    unfold unpO
    rw [unpack_back (bF t) t.size (tbN _) (tbN_lt _) (fun j u hj => by
      unfold tbN bF
      rw [hx, List.getD_eq_getElem?_getD, hj]; rfl)]
    show ((⟨(upto (bF t) t.size).toArray⟩ : ByteArray), decide ((upto (bF t) t.size).length = t.size)) = _
    rw [upto_self', upto_len, decide_eq_true rfl]
  have hE := show unpackS (packB t) = _ from if_neg (show ¬ 20000 < (packB t).size by omega)
  rw [hd] at hE
  simp only [if_true] at hE
  rw [unfold_fold, if_neg (by omega), Int.toNat_natCast] at hE
  rw [hE]
  unfold unpN
  rw [hu]
  simp
theorem pack_size (t : ByteArray) (h : t.size ≤ 4000) : (packB t).size ≤ 17 * (parseL (bF t) t.size).length + 6 := by
  have e : (packB t).size = (encNum (foldNum t.size)).length + (codeOf (toksBits (parseL (bF t) t.size))).length := by
    have := congrArg List.length (pack_list t)
    rw [List.length_append] at this
    exact this
  have h1 := codeOf_len (toksBits (parseL (bF t) t.size))
  have h2 := toksBits_len (parseL (bF t) t.size)
  have h4 := encNum_le 1 (foldNum t.size) (by unfold foldNum; rw [if_neg (by omega)]; show (2 * (t.size : Int)).toNat < 16384; omega)
  omega
theorem pack_small (t : ByteArray) (h : t.size ≤ 300) : (packB t).size ≤ 20000 := by
  have h1 := pack_size t (by omega)
  have h3 := parseL_len (bF t) t.size
  omega
theorem longG_zero (T : Nat → UInt8) (hT : ∀ j, T j = 0) (N at_ far : Nat) : ∀ k n, min (n + k) (N - at_) ≤ longG T N at_ far k n
  | 0, n => by show _ ≤ n; omega
  | k + 1, n => by
    unfold longG
    by_cases h : at_ + n < N
    · rw [if_pos ⟨h, by rw [hT, hT]⟩]
      have := longG_zero T hT N at_ far k (n + 1)
      omega
    · rw [if_neg (fun e => h e.1)]; omega
theorem best_zero (T : Nat → UInt8) (hT : ∀ j, T j = 0) (N at_ : Nat) (h : 1 ≤ at_) : min 66 (N - at_) ≤ (bestAt T N at_).1 := by
  have h1 := longG_zero T hT N at_ 1 66 0
  have h2 := best_ge T N at_ (min 1024 at_) 1 (Nat.le_refl _) (by omega)
  unfold long at h2
  unfold bestAt
  omega
theorem parseG_zero (T : Nat → UInt8) (hT : ∀ j, T j = 0) (N : Nat) : ∀ k at_, 1 ≤ at_ → (parseG T N k at_).length ≤ (N - at_) / 66 + 3
  | 0, at_, _ => Nat.zero_le _
  | k + 1, at_, h => by
    have hl := parseG_len T N (k + 1) at_
    by_cases h1 : 3 ≤ N - at_
    · have hb := best_zero T hT N at_ h
      have hs : at_ + min 66 (N - at_) ≤ stepAt T N at_ := by unfold stepAt; rw [if_neg (by omega)]; omega
      rw [parseG_step T N k at_ (by omega), List.length_cons]
      have h2 := parseG_len T N k (stepAt T N at_)
      have h3 := parseG_zero T hT N k (stepAt T N at_) (by omega)
      omega
    · omega
theorem pack_zeros (n : Nat) (h : n ≤ 4000) : (packB ⟨(List.replicate n (0 : UInt8)).toArray⟩).size ≤ 20000 := by
  have hn : (⟨(List.replicate n (0 : UInt8)).toArray⟩ : ByteArray).size = n := by rw [size_mk, List.length_replicate]
  have h1 := pack_size ⟨(List.replicate n (0 : UInt8)).toArray⟩ (by omega)
  have hT : ∀ j, bF ⟨(List.replicate n (0 : UInt8)).toArray⟩ j = 0 := by
    intro j
    show (List.replicate n (0 : UInt8)).getD j 0 = 0
    rw [List.getD_eq_getElem?_getD, List.getElem?_replicate]
    split <;> rfl
  have h2 : (parseL (bF ⟨(List.replicate n (0 : UInt8)).toArray⟩) n).length ≤ 1 + (n / 66 + 3) := by
    show (parseG _ n n 0).length ≤ _
    cases n with
    | zero => exact Nat.zero_le _
    | succ n =>
      show (parseG _ (n + 1) (n + 1) 0).length ≤ _
      rw [parseG_step _ (n + 1) n 0 (Nat.succ_pos n), List.length_cons]
      have hs := stepAt_gt (bF ⟨(List.replicate (n + 1) (0 : UInt8)).toArray⟩) (n + 1) 0
      have := parseG_zero _ hT (n + 1) n _ hs
      omega
  rw [hn] at h1
  omega
/-- What is drawn, and is not too long, comes back. -/
theorem drawn_back (t : ByteArray) (h : t.size ≤ 4000) (hd : t.size ≤ 300 ∨ ∃ n, n ≤ 4001 ∧ t = ⟨(List.replicate n (0 : UInt8)).toArray⟩) : unpackS (packS t) = (t, 0) := by
  rw [show packS t = packB t from if_pos h]
  refine unpack_pack t h ?_
  rcases hd with hd | ⟨n, _, rfl⟩
  · exact pack_small t hd
  · rw [size_mk, List.length_replicate] at h
    exact pack_zeros n h
/-- What Unpack takes, Pack makes again. -/
theorem pack_unpack (s : ByteArray) (h : (unpackS s).2 = 0) : packS (unpackS s).1 = s := by
  unfold unpackS at *
  split at h
  · cases h
  · rename_i h1
    rw [if_neg h1]
    split at h
    · rename_i h2
      rw [if_pos h2]
      split at h
      · cases h
      · rename_i h3
        rw [if_neg h3]
        unfold unpN at *
        split at h
        · rename_i h4
          rw [if_pos h4]
          split at h
          · rename_i h5
            rw [if_pos h5]
            have hz := unpO_size _ _ h4
            show packS (unpO _ _).1 = s
            unfold packS
            rw [if_pos (by rw [hz]; omega)]
            exact h5
          · cases h
        · cases h
    · cases h
end Go.Proofs.YtconcnndghmdfaaGreatDoor
namespace Go.Proofs.YtconcnndghmdfaaGreatDoor
open Go.RowKit Go
def mkB (n : Nat) (f : Nat → UInt8) : ByteArray := ⟨((List.range n).map f).toArray⟩
theorem mkB_size (n : Nat) (f : Nat → UInt8) : (mkB n f).size = n := by unfold mkB; rw [size_mk]; simp
theorem mkB_at (n : Nat) (f : Nat → UInt8) (j : Nat) (hj : j < n) : bF (mkB n f) j = f j := by
  unfold bF mkB
  show ((List.range n).map f).toArray.toList.getD j 0 = _
  rw [List.getD_eq_getElem?_getD, List.toList_toArray, List.getElem?_map, List.getElem?_range hj]; rfl
theorem mkB_self {n : Nat} {f : Nat → UInt8} (t : ByteArray) (hn : n = t.size) (hf : ∀ j, j < n → f j = bF t j) : mkB n f = t := by
  subst hn
  apply ByteArray.ext
  rw [← Array.toList_inj]
  show ((List.range t.size).map f).toArray.toList = _
  rw [List.toList_toArray]
  apply List.ext_getElem?
  intro j
  by_cases hj : j < t.size
  · rw [bF_at t t.size rfl j hj, List.getElem?_map, List.getElem?_range hj]
    show some (f j) = _
    rw [hf j hj]
  · have e : t.data.toList.length = t.size := rfl
    rw [List.getElem?_eq_none (by simp; omega), List.getElem?_eq_none (by omega)]
theorem sum_dif (T U : Nat → UInt8) (n far : Nat) (hf : 0 < far) (hU : ∀ j, j < n → U j = difF T far j) : ∀ j, j < n → sumF U far j = T j := by
  intro j
  induction j using Nat.strongRecOn with
  | _ j ih =>
    intro hj
    rw [sumF, hU j hj, difF]
    by_cases h : far ≤ j
    · rw [dif_pos ⟨h, hf⟩, if_pos h, ih (j - far) (by omega) (by omega), UInt8.sub_add_cancel]
    · rw [dif_neg (fun x => h x.1), if_neg h]
theorem dif_sum (T U : Nat → UInt8) (n far : Nat) (hf : 0 < far) (hU : ∀ j, j < n → U j = sumF T far j) (j : Nat) (hj : j < n) : difF U far j = T j := by
  rw [difF]
  by_cases h : far ≤ j
  · rw [if_pos h, hU j hj, hU (j - far) (by omega), sumF, dif_pos ⟨h, hf⟩, UInt8.add_sub_cancel]
  · rw [if_neg h, hU j hj, sumF, dif_neg (fun x => h x.1)]
end Go.Proofs.YtconcnndghmdfaaGreatDoor
namespace Go.Proofs.YtconcnndghmdfaaGreatDoor
open Go Go.RowKit
attribute [local irreducible] times sbox encF ctrB
theorem data_take (b : ByteArray) (k : Nat) : (b.extract 0 k).data.toList = b.data.toList.take k := by
  rw [ByteArray.data_extract, Array.toList_extract, List.extract_eq_take_drop]; simp
theorem bF_take (b : ByteArray) (k j : Nat) (hj : j < k) : bF (b.extract 0 k) j = bF b j := by
  unfold bF
  rw [data_take, List.getD_eq_getElem?_getD, List.getD_eq_getElem?_getD, List.getElem?_take_of_lt hj]
theorem bF_ctrL (K : Nat → UInt8) (N : Nat) (T : Nat → UInt8) (n j : Nat) (hj : j < n) : bF ⟨(ctrL K N T n).toArray⟩ j = ctrF K N T j := by
  unfold bF
  show (ctrL K N T n).toArray.toList.getD j 0 = _
  rw [List.getD_eq_getElem?_getD, List.toList_toArray, ctrL, List.getElem?_map, List.getElem?_range hj]; rfl
theorem size_ctrL (K : Nat → UInt8) (N : Nat) (T : Nat → UInt8) (n : Nat) : (⟨(ctrL K N T n).toArray⟩ : ByteArray).size = n := by rw [size_mk]; simp [ctrL]
theorem list_bF (b : ByteArray) : b.data.toList = (List.range b.size).map (bF b) := by
  apply List.ext_getElem?
  intro j
  by_cases hj : j < b.size
  · rw [bF_at b b.size rfl j hj, List.getElem?_map, List.getElem?_range hj]; rfl
  · have e : b.data.toList.length = b.size := rfl
    rw [List.getElem?_eq_none (by omega), List.getElem?_eq_none (by simp; omega)]
theorem ctrL_congr {K : Nat → UInt8} {N : Nat} {T U : Nat → UInt8} {n : Nat} (h : ∀ j, j < n → ctrF K N T j = U j) : ctrL K N T n = (List.range n).map U := by
  unfold ctrL
  apply List.map_congr_left
  intro j hj
  exact h j (List.mem_range.1 hj)
theorem ctrS_yes (key : ByteArray) (n : Int) (text : ByteArray) (h1 : key.size = 16) (h2 : 0 ≤ n) (h3 : text.size ≤ 20000) : ctrS key n text = ⟨(ctrL (kB (keyF key)) n.toNat (bF text) text.size).toArray⟩ := if_pos ⟨h1, h2, h3⟩
theorem ctrS_size (key : ByteArray) (n : Int) (text : ByteArray) (h1 : key.size = 16) (h2 : 0 ≤ n) (h3 : text.size ≤ 20000) : (ctrS key n text).size = text.size := by
  rw [ctrS_yes key n text h1 h2 h3, size_ctrL]
theorem ctrS_twice (key : ByteArray) (n : Int) (text : ByteArray) (h1 : key.size = 16) (h2 : 0 ≤ n) (h3 : text.size ≤ 20000) : ctrS key n (ctrS key n text) = text := by
  have hs := ctrS_size key n text h1 h2 h3
  rw [ctrS_yes key n (ctrS key n text) h1 h2 (by omega), hs]
  apply ByteArray.ext
  rw [← Array.toList_inj]
  show (ctrL _ _ _ _).toArray.toList = _
  rw [List.toList_toArray, list_bF text]
  apply ctrL_congr
  intro j hj
  rw [ctrF, ctrS_yes key n text h1 h2 h3, bF_ctrL _ _ _ _ _ hj, ctrF, UInt8.xor_assoc, UInt8.xor_self, UInt8.xor_zero]
theorem ctrS_pre (key : ByteArray) (n : Int) (text : ByteArray) (k : Nat) (h1 : key.size = 16) (h2 : 0 ≤ n) (h3 : text.size ≤ 20000) (hk : k ≤ text.size) : ctrS key n (text.extract 0 k) = (ctrS key n text).extract 0 k := by
  have hs : (text.extract 0 k).size = k := by rw [ByteArray.size_extract]; omega
  rw [ctrS_yes key n (text.extract 0 k) h1 h2 (by omega), hs]
  apply ByteArray.ext
  rw [← Array.toList_inj, data_take, ctrS_yes key n text h1 h2 h3]
  show (ctrL _ _ _ _).toArray.toList = (ctrL _ _ _ _).toArray.toList.take k
  rw [List.toList_toArray, List.toList_toArray]
  have e : (ctrL (kB (keyF key)) n.toNat (bF text) text.size).take k = (List.range k).map (ctrF (kB (keyF key)) n.toNat (bF text)) := by
    unfold ctrL
    rw [← List.map_take, List.take_range, Nat.min_eq_left hk]
  rw [e]
  apply ctrL_congr
  intro j hj
  rw [ctrF, ctrF, bF_take text k j hj]
theorem ctrS_no (key : ByteArray) (n : Int) (text : ByteArray) (h : ¬ (key.size = 16 ∧ 0 ≤ n)) : ctrS key n text = ⟨#[]⟩ := if_neg (fun x => h ⟨x.1, x.2.1⟩)
end Go.Proofs.YtconcnndghmdfaaGreatDoor

/- The walk over the program's AesBlock. -/
import Derived.Test.YtgbbfdcfiofneaaImpHid
import Derived.Test.YtgbbfdcfiofneaaAesC
namespace Go.Proofs.Ytgbbfdcfiofneaa
open Go.RowKit
attribute [local irreducible] times sbox dbl dU
theorem aesS_yes (key block : ByteArray) (h : key.size = 16) (h2 : block.size = 16) : aesS key block = ⟨(encL (kB (bF key)) (bF block)).toArray⟩ := if_pos ⟨h, h2⟩
set_option maxRecDepth 100000 in
set_option maxHeartbeats 1600000 in
theorem imp_aesBlock (key block : ByteArray) (w : World) (_hk : key.size ≤ 9223372036854775807) (_hb : block.size ≤ 9223372036854775807) :
    Calls Try.prog 12 #[.string key, .string block] w fun e w' => e = .returned (.string (aesS key block)) ∧ Below w.heap.size w w' := by
  by_cases h16 : key.size = 16
  · have h16' : (key.size : Int) = 16 := by omega
    by_cases h2 : block.size = 16
    · have h2' : (block.size : Int) = 16 := by omega
      rw [aesS_yes key block h16 h2]
      have hat := hide (bF_at block 16 h2)
      have hmin := hide (show 16 = Nat.min block.size 16 by rw [h2]; rfl)
      obtain ⟨W1, hW1⟩ : ∃ x, x = w.alloc (.cells #[Value.int .u8 0, Value.int .u8 0, Value.int .u8 0, Value.int .u8 0, Value.int .u8 0, Value.int .u8 0, Value.int .u8 0, Value.int .u8 0, Value.int .u8 0, Value.int .u8 0, Value.int .u8 0, Value.int .u8 0, Value.int .u8 0, Value.int .u8 0, Value.int .u8 0, Value.int .u8 0] 48) := ⟨_, rfl⟩
      have z0 : (w.alloc (.cells #[Value.int .u8 0, Value.int .u8 0, Value.int .u8 0, Value.int .u8 0, Value.int .u8 0, Value.int .u8 0, Value.int .u8 0, Value.int .u8 0, Value.int .u8 0, Value.int .u8 0, Value.int .u8 0, Value.int .u8 0, Value.int .u8 0, Value.int .u8 0, Value.int .u8 0, Value.int .u8 0] 48)).rowIs w.heap.size 48 16 (u8V fun _ => 0) := zeros8_row 16 w _ _ rfl
      have th := row_there (o := 0) (n := 16) z0 (by omega)
      have r0 := row_setCells0 (k := bF block) z0
      have rb := below_setCells' (b := w.heap.size) (o := 0) (vs := bL 16 (bF block)) ((Below.refl w.heap.size w).alloc (Nat.le_refl _) (.cells #[Value.int .u8 0, Value.int .u8 0, Value.int .u8 0, Value.int .u8 0, Value.int .u8 0, Value.int .u8 0, Value.int .u8 0, Value.int .u8 0, Value.int .u8 0, Value.int .u8 0, Value.int .u8 0, Value.int .u8 0, Value.int .u8 0, Value.int .u8 0, Value.int .u8 0, Value.int .u8 0] 48)) (Nat.le_refl _)
      have R := hide (And.intro r0 rb)
      clear r0 rb z0 hW1
      go_enter Try.func12, Try.ntmps12
      go_wp2_with (first | (with_reducible (show wpList _ _ _ ({ dst := _, op := .call _, type := _, pos := _, after := _, guard := _ } :: _) _ _); refine wpList_copy_S rfl (.tmp 14) (.tmp 15) 22 9 rfl 5 Try.underlying22 (by kernel_rfl) w.heap.size 0 16 16 block rfl rfl 16 (bF block) hmin.out hat.out th ?_))
      obtain ⟨r0, rb⟩ := R.out
      generalize (w.alloc (.cells #[Value.int .u8 0, Value.int .u8 0, Value.int .u8 0, Value.int .u8 0, Value.int .u8 0, Value.int .u8 0, Value.int .u8 0, Value.int .u8 0, Value.int .u8 0, Value.int .u8 0, Value.int .u8 0, Value.int .u8 0, Value.int .u8 0, Value.int .u8 0, Value.int .u8 0, Value.int .u8 0] 48)).setCells w.heap.size 0 (bL 16 (bF block)) = W2 at *
      clear R th hmin hat
      have g0 := row_range0 r0.drew
      refine wp_region_held_drew (S := fun _ => True) (by kernel_rfl) trivial (fun hHeld => ?_)
      refine takeD (i := 0) (v := .string key) (some 17) rfl rfl (by kernel_rfl) (by kernel_rfl) (by kernel_rfl) (fun _ _ _ h => h) (Or.inl ⟨by rfl, fun w hSw => by go_simp⟩) hHeld ?_
      simp only [Act.put, List.setIfInBounds_toArray, List.set_cons_zero, List.set_cons_succ]
      refine wpAnyH_ready (rs := [1, 2]) (by kernel_rfl) (by simp) ?_
      refine AllReadyH.cons rfl (fun KK hK => ?_) (AllReadyH.cons rfl (fun KK hK => ?_) AllReadyH.nil)
      · go_simp
        refine (imp_cipher key _ h16).mono ?_
        rintro e w3 ⟨g, rfl, hgg, rc, hb3⟩
        have r0a := r0.of_block (hb3.block _ r0.lt)
        have rba := rb.drew.trans (hb3.mono rb.size)
        go_wp2_with fail
        refine hK.out _ _ trivial (fun hHeld => ?_)
        clear hK KK
        have g0a := row_range0 r0a
        refine oneLoad (i := 2) (some 19) (by kernel_rfl) rfl rfl rfl _ (.tmp 5) rfl w.heap.size 0 16 rfl (bF block) _ g0a Try.underlying48 rfl Try.size16 trivial ?_
        simp only [Act.put, List.setIfInBounds_toArray, List.set_cons_zero, List.set_cons_succ]
        refine wpAnyH_ready (rs := [3]) (by kernel_rfl) (by simp) ?_
        refine AllReadyH.cons rfl (fun KK hK => ?_) AllReadyH.nil
        go_simp
        refine (imp_hidden g (kB (bF key)) (bF block) w3 rc).mono ?_
        rintro e w4 ⟨rfl, hb4⟩
        have r0b := r0a.of_block (hb4.block _ r0a.lt)
        have rbb := rba.trans (hb4.mono rba.size)
        go_wp2_with fail
        refine hK.out _ _ trivial (fun hHeld => ?_)
        clear hK KK
        obtain ⟨e0, he0⟩ : ∃ f, f = encF (kB (bF key)) (bF block) 10 := ⟨_, rfl⟩
        rw [← he0]
        have HE0 := hide he0
        clear he0
        have th := row_there (o := 0) (n := 16) r0b (by omega)
        refine oneStore (i := 4) none (by kernel_rfl) rfl rfl rfl _ (.tmp 5) (.tmp 20) rfl w.heap.size 0 16 e0 rfl rfl th Try.size16 trivial ?_
        refine wpAnyH_done (by kernel_rfl) ?_ _
        have q0 := row_setCells0 (k := e0) r0b
        have qb := below_setCells' (b := w.heap.size) (o := 0) (vs := bL 16 e0) rbb (Nat.le_refl _)
        have hcv := conv_row (P := Try.prog) (cap := 16) (l := encL (kB (bF key)) (bF block)) q0 (fun j hj => by rw [encL, List.getElem?_map, List.getElem?_range hj, HE0.out]; rfl) (by simp [encL]) Try.underlying22 Try.underlying5 Try.underlying9
        generalize w4.setCells w.heap.size 0 (bL 16 e0) = W4 at *
        clear r0b rbb th r0a rba rc hb3 hb4
        obtain ⟨X, hX⟩ : ∃ x : ByteArray, x = ⟨(encL (kB (bF key)) (bF block)).toArray⟩ := ⟨_, rfl⟩
        rw [← hX] at hcv
        have HX := hide hX
        clear hX HE0
        go_wp2_with fail
        go_ret
        exact ⟨by rw [HX.out]; rfl, qb⟩
      · refine stepLoad (some 19) rfl rfl _ (.tmp 5) rfl w.heap.size 0 16 rfl (bF block) _ g0 Try.underlying48 rfl Try.size16 ?_
        simp only [Act.put, List.setIfInBounds_toArray, List.set_cons_zero, List.set_cons_succ]
        refine hK.out _ _ trivial (fun hHeld => ?_)
        clear hK KK
        refine wpAnyH_ready (rs := [1]) (by kernel_rfl) (by simp) ?_
        refine AllReadyH.cons rfl (fun KK hK => ?_) AllReadyH.nil
        go_simp
        refine (imp_cipher key _ h16).mono ?_
        rintro e w3 ⟨g, rfl, hgg, rc, hb3⟩
        have r0a := r0.of_block (hb3.block _ r0.lt)
        have rba := rb.drew.trans (hb3.mono rb.size)
        go_wp2_with fail
        refine hK.out _ _ trivial (fun hHeld => ?_)
        clear hK KK
        refine wpAnyH_ready (rs := [3]) (by kernel_rfl) (by simp) ?_
        refine AllReadyH.cons rfl (fun KK hK => ?_) AllReadyH.nil
        go_simp
        refine (imp_hidden g (kB (bF key)) (bF block) w3 rc).mono ?_
        rintro e w4 ⟨rfl, hb4⟩
        have r0b := r0a.of_block (hb4.block _ r0a.lt)
        have rbb := rba.trans (hb4.mono rba.size)
        go_wp2_with fail
        refine hK.out _ _ trivial (fun hHeld => ?_)
        clear hK KK
        obtain ⟨e0, he0⟩ : ∃ f, f = encF (kB (bF key)) (bF block) 10 := ⟨_, rfl⟩
        rw [← he0]
        have HE0 := hide he0
        clear he0
        have th := row_there (o := 0) (n := 16) r0b (by omega)
        refine oneStore (i := 4) none (by kernel_rfl) rfl rfl rfl _ (.tmp 5) (.tmp 20) rfl w.heap.size 0 16 e0 rfl rfl th Try.size16 trivial ?_
        refine wpAnyH_done (by kernel_rfl) ?_ _
        have q0 := row_setCells0 (k := e0) r0b
        have qb := below_setCells' (b := w.heap.size) (o := 0) (vs := bL 16 e0) rbb (Nat.le_refl _)
        have hcv := conv_row (P := Try.prog) (cap := 16) (l := encL (kB (bF key)) (bF block)) q0 (fun j hj => by rw [encL, List.getElem?_map, List.getElem?_range hj, HE0.out]; rfl) (by simp [encL]) Try.underlying22 Try.underlying5 Try.underlying9
        generalize w4.setCells w.heap.size 0 (bL 16 e0) = W4 at *
        clear r0b rbb th r0a rba rc hb3 hb4
        obtain ⟨X, hX⟩ : ∃ x : ByteArray, x = ⟨(encL (kB (bF key)) (bF block)).toArray⟩ := ⟨_, rfl⟩
        rw [← hX] at hcv
        have HX := hide hX
        clear hX HE0
        go_wp2_with fail
        go_ret
        exact ⟨by rw [HX.out]; rfl, qb⟩
    · have h2' : ¬ (block.size : Int) = 16 := by omega
      have hE : aesS key block = ⟨#[]⟩ := if_neg (fun h => h2 h.2)
      rw [hE]
      clear hE
      go_enter Try.func12, Try.ntmps12
      go_wp2_with fail
      go_ret
      exact ⟨rfl, Below.refl _ _⟩
  · have h16' : ¬ (key.size : Int) = 16 := by omega
    have hE : aesS key block = ⟨#[]⟩ := if_neg (fun h => h16 h.1)
    rw [hE]
    clear hE
    go_enter Try.func12, Try.ntmps12
    go_wp2_with fail
    go_ret
    exact ⟨rfl, Below.refl _ _⟩
end Go.Proofs.Ytgbbfdcfiofneaa

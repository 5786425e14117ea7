/- The program's getNum and getToken. -/
import Derived.Test.YtdoodkabmeojmaaDoorRngG
import Derived.Test.YtdoodkabmeojmaaDoorUnpF
import Derived.Test.YtdoodkabmeojmaaDoorBelowI
import Derived.Test.YtdoodkabmeojmaaDoorRangeD
namespace Go.Proofs.YtdoodkabmeojmaaDoor
open Go.RowKit
theorem DecP.kept {w w' : World} {g x : Nat} {t : ByteArray} {s : RC} (h : DecP w g t s x) (hg : w'.heap[g]? = w.heap[g]?) : DecP w' g t s x := h.of_block hg
theorem DecP.lt {w : World} {g x : Nat} {t : ByteArray} {s : RC} (h : DecP w g t s x) : g < w.heap.size := World.rowIs.lt h
theorem set3_blk (w : World) (g : Nat) (x y z a b c : Value) (t : TypeId) (h : w.heap[g]? = some (.cells #[x, y, z] t)) : (((w.setCell ⟨g, 0, none⟩ a).setCell ⟨g, 1, none⟩ b).setCell ⟨g, 2, none⟩ c).heap[g]? = some (.cells #[a, b, c] t) := by
  simp [World.setCell, Array.getElem?_modify, h]
theorem set3_far (w : World) (g k : Nat) (a b c : Value) (h : k ≠ g) : (((w.setCell ⟨g, 0, none⟩ a).setCell ⟨g, 1, none⟩ b).setCell ⟨g, 2, none⟩ c).heap[k]? = w.heap[k]? := by
  simp [World.setCell, Array.getElem?_modify, Ne.symm h]
theorem grownBy_set3 {w w1 : World} {r : Option Nat} (h : w.grownBy w1 r) (g : Nat) (hg : w.heap.size ≤ g) (a b c : Value) : w.grownBy (((w1.setCell ⟨g, 0, none⟩ a).setCell ⟨g, 1, none⟩ b).setCell ⟨g, 2, none⟩ c) r :=
  ⟨h.os, h.tape, h.output, by have := h.size; simpa [World.setCell] using this, fun k hk hne => (set3_far w1 g k a b c (by omega)).trans (h.block k hk hne)⟩
set_option maxRecDepth 100000 in
set_option maxHeartbeats 800000 in
theorem imp_getNum (g many base m P2 : Nat) (t : ByteArray) (st : RC × Nat) (w : World) (hP : P2 = 2 ^ many) (hm : many ≤ 10) (hb : base ≤ 400) (hok : DecOk st m) (hts : t.size ≤ 9223372036854775807) (hdec : DecP w g t st.1 st.2) :
    Calls Tryd.prog 82 #[.pointer (some ⟨g, 0, none⟩), .int .i64 (base : Int), .int .i64 (many : Int)] w fun e w' => e = .returned (.int .i64 (((readG (tbN t) base many st 1).2 - P2 : Nat) : Int)) ∧ DecP w' g t (readG (tbN t) base many st 1).1.1 (readG (tbN t) base many st 1).1.2 ∧ w.grownBy w' (some g) := by
  have hP1024 : P2 ≤ 1024 := by rw [hP]; exact Nat.le_trans (Nat.pow_le_pow_right (by omega) hm) (by decide)
  have hn1 := readG_node (tbN t) base many st 1
  rw [← hP] at hn1
  obtain ⟨R, hR⟩ : ∃ R, R = readG (tbN t) base many st 1 := ⟨_, rfl⟩
  rw [← hR] at hn1 ⊢
  have HR := hide hR
  have HD := hide hdec
  have HPP := hide hP
  clear hR hdec hP
  go_enter Tryd.func82, Tryd.ntmps82
  go_wp2_with fail
  go_loopw [7, 9] (fun nd i wx => ∃ (k node : Nat) (s : RC × Nat), k ≤ many ∧ node < 2 ^ (k + 1) ∧ i = .int .i64 (k : Int) ∧ nd = .int .i64 (node : Int) ∧ Hid (readG (tbN t) base (many - k) s node = R) ∧ Hid (DecOk s (m + k)) ∧ Hid (DecP wx g t s.1 s.2) ∧ Hid (w.grownBy wx (some g))) (fun _ i _ => many - (intOf i).toNat)
  case atStart => exact ⟨0, 1, st, Nat.zero_le _, by decide, rfl, rfl, HR.out.symm, hok, HD, World.grownBy.refl _ _⟩
  case round =>
    clear HD
    obtain ⟨k, node, s, hk, hnd, rfl, rfl, hre, hso, hd, htw⟩ := hrel
    have hnode : node < 2048 := Nat.lt_of_lt_of_le hnd (Nat.le_trans (Nat.pow_le_pow_right (by omega) (show k + 1 ≤ 11 by omega)) (by decide))
    by_cases hlt : k < many
    · have hlt' : (k : Int) < (many : Int) := by omega
      have hnode2 : node < 1024 := Nat.lt_of_lt_of_le hnd (Nat.le_trans (Nat.pow_le_pow_right (by omega) (show k + 1 ≤ 10 by omega)) (by decide))
      obtain ⟨c, hc⟩ : ∃ c, c = base + node := ⟨_, rfl⟩
      have s1 : (base : Int) + (node : Int) = (c : Int) := by omega
      have SB := hide (imp_get g c s.2 t s.1 wr hso.out.ok (by omega) hso.out.x hts hd.out)
      obtain ⟨bit, hbit⟩ : ∃ b, b = dbit s.1 s.2 c := ⟨_, rfl⟩
      have HRE := hide (show readG (tbN t) base (many - (k + 1)) (dnext (tbN t) s c) (2 * node + bN bit) = R by
        rw [← hre.out, show many - k = (many - (k + 1)) + 1 by omega, hbit, hc]; rfl)
      have HSO := hide (DecOk.next (tbN t) s c (m + k) hso.out)
      have HND := hide (show 2 * node + bN bit < 2 ^ (k + 1 + 1) by
        have := bN_le bit
        rw [Nat.pow_succ]; omega)
      rw [← hbit] at SB
      have HDE := hide (show dnext (tbN t) s c = (step s.1 c bit, dx (tbN t) s.1 s.2 c) by unfold dnext; rw [← hbit])
      have hcb : (c : Int) ≤ 2000 := by omega
      have hnb : (node : Int) ≤ 1024 := by omega
      clear hbit hc hre hso hd hnd
      go_wp2_with fail
      refine SB.out.mono ?_
      rintro e w2 ⟨rfl, hd2, ht2⟩
      have HD2 := hide (show DecP w2 g t (dnext (tbN t) s c).1 (dnext (tbN t) s c).2 by rw [HDE.out]; exact hd2)
      have HT2 := hide (grownBy_trans htw.out ht2)
      clear hd2 ht2 htw SB HDE
      go_wp2_with fail
      refine (imp_below node bit w2 (by omega)).mono ?_
      rintro e w3 ⟨rfl, rfl⟩
      obtain ⟨nn, hnn⟩ : ∃ nn, nn = 2 * node + bN bit := ⟨_, rfl⟩
      rw [← hnn] at HRE HND ⊢
      clear hnn
      go_wp2_with fail
      go_roundw
      case rel => exact ⟨k + 1, nn, dnext (tbN t) s c, by omega, HND.out, by go_num, rfl, HRE, HSO, HD2, HT2⟩
      case measure => simp [intOf]; omega
    · have hlt' : ¬ (k : Int) < (many : Int) := by omega
      have hkm : k = many := by omega
      have e := hre.out
      rw [hkm, Nat.sub_self] at e
      have e2 : R = (s, node) := e.symm
      have HD2 := hide (show DecP wr g t R.1.1 R.1.2 by rw [e2]; exact hd.out)
      have hn2 : R.2 = node := by rw [e2]
      rw [hn2] at hn1
      have HN2 := hide hn2
      clear e e2 hre hso hd hnd hn2
      have e1 : (2 : Int) ^ many = (P2 : Int) := by rw [HPP.out]; simp
      obtain ⟨d, hd⟩ : ∃ d, d = node - P2 := ⟨_, rfl⟩
      have e3 : (node : Int) - (P2 : Int) = (d : Int) := by omega
      have hdb : (d : Int) ≤ 2048 := by omega
      have hpb : (P2 : Int) ≤ 1024 := by omega
      have hnb : (node : Int) ≤ 2048 := by omega
      have HDD := hide hd
      clear hd hkm
      go_wp2_with fail
      go_ret
      exact ⟨by rw [HN2.out, ← HDD.out]; rfl, HD2.out, htw.out⟩
set_option maxRecDepth 100000 in
set_option maxHeartbeats 1600000 in
theorem imp_getToken (g m : Nat) (t : ByteArray) (st : RC × Nat) (w : World) (hok : DecOk st m) (hts : t.size ≤ 9223372036854775807) (hdec : DecP w g t st.1 st.2) :
    Calls Tryd.prog 77 #[.pointer (some ⟨g, 0, none⟩)] w fun e w' => e = .returned (tokV (dtok (tbN t) st).1) ∧ DecP w' g t (dtok (tbN t) st).2.1 (dtok (tbN t) st).2.2 ∧ w.grownBy w' (some g) := by
  obtain ⟨z, hz⟩ : ∃ z, z = w.heap.size := ⟨_, rfl⟩
  have hgl := hdec.lt
  have hgz : g < z := by omega
  have q1 : (w.alloc (.cells #[.int .i64 0, .int .i64 0, .int .i64 0] 38)).heap[z]? = some (.cells #[.int .i64 0, .int .i64 0, .int .i64 0] 38) := by rw [hz]; exact heap_alloc_new w _
  have s1 : (w.alloc (.cells #[.int .i64 0, .int .i64 0, .int .i64 0] 38)).heap.size = z + 1 := by simp [hz]
  have d1 : DecP (w.alloc (.cells #[.int .i64 0, .int .i64 0, .int .i64 0] 38)) g t st.1 st.2 := hdec.kept (Below.heap_alloc _ _ _ hgl)
  have g1 : w.grownBy (w.alloc (.cells #[.int .i64 0, .int .i64 0, .int .i64 0] 38)) (some g) := grownBy_alloc (World.grownBy.refl _ _) _
  have SB := hide (imp_get g 0 st.2 t st.1 (w.alloc (.cells #[.int .i64 0, .int .i64 0, .int .i64 0] 38)) hok.ok (by omega) hok.x hts d1)
  have HK2 := hide (DecOk.next (tbN t) st 0 _ hok)
  have HZ := hide hz
  have H1 := hide (And.intro q1 (And.intro s1 g1))
  obtain ⟨bit, hbit⟩ : ∃ b, b = dbit st.1 st.2 0 := ⟨_, rfl⟩
  rw [← hbit] at SB
  have HDE := hide (show dnext (tbN t) st 0 = (step st.1 0 bit, dx (tbN t) st.1 st.2 0) by unfold dnext; rw [← hbit])
  have HTK := hide (show dtok (tbN t) st = if bit = true then (⟨0, (((readG (tbN t) 300 6 (dnext (tbN t) st 0) 1).2 - 64 + 3 : Nat) : Int), (((readG (tbN t) 400 10 (readG (tbN t) 300 6 (dnext (tbN t) st 0) 1).1 1).2 - 1024 + 1 : Nat) : Int)⟩, (readG (tbN t) 400 10 (readG (tbN t) 300 6 (dnext (tbN t) st 0) 1).1 1).1)
  else (⟨(((readG (tbN t) 16 8 (dnext (tbN t) st 0) 1).2 - 256 : Nat) : Int), 0, 0⟩, (readG (tbN t) 16 8 (dnext (tbN t) st 0) 1).1) by rw [hbit]; rfl)
  clear hz q1 s1 d1 g1 hdec hbit hok
  go_enter Tryd.func77, Tryd.ntmps77
  go_wp2_with fail
  refine SB.out.mono ?_
  rw [← HZ.out]
  obtain ⟨q1, s1, g1⟩ := H1.out
  generalize w.alloc (.cells #[.int .i64 0, .int .i64 0, .int .i64 0] 38) = W1 at *
  rintro e w2 ⟨rfl, hd2, ht2⟩
  have HD2 := hide (show DecP w2 g t (dnext (tbN t) st 0).1 (dnext (tbN t) st 0).2 by rw [HDE.out]; exact hd2)
  have hs2 := ht2.size
  have q2 := hide ((ht2.block z (by omega) (fun e => by cases e; omega)).trans q1)
  have G2 := hide (grownBy_trans g1 ht2)
  clear hd2 ht2 SB HDE q1 g1 H1
  cases bit with
  | false =>
    have SR := hide (imp_getNum g 8 16 (m + 1) 256 t (dnext (tbN t) st 0) w2 rfl (by omega) (by omega) HK2.out hts HD2.out)
    have hnn := readG_node (tbN t) 16 8 (dnext (tbN t) st 0) 1
    have HT2 := hide (show dtok (tbN t) st = (⟨(((readG (tbN t) 16 8 (dnext (tbN t) st 0) 1).2 - 256 : Nat) : Int), 0, 0⟩, (readG (tbN t) 16 8 (dnext (tbN t) st 0) 1).1) by rw [HTK.out]; rfl)
    obtain ⟨R, hR⟩ : ∃ R, R = readG (tbN t) 16 8 (dnext (tbN t) st 0) 1 := ⟨_, rfl⟩
    rw [← hR] at SR hnn HT2
    obtain ⟨y, hy⟩ : ∃ y, y = R.2 - 256 := ⟨_, rfl⟩
    rw [← hy] at SR HT2
    have hy8 : y < 256 := by have h1 := hnn.2; have e : (1 + 1) * 2 ^ 8 = 512 := rfl; omega
    clear hR hy hnn HK2 HD2 HTK
    go_wp2_with fail
    refine SR.out.mono ?_
    rintro e w3 ⟨rfl, hd3, ht3⟩
    have hs3 := ht3.size
    have q3 := (ht3.block z (by omega) (fun e => by cases e; omega)).trans q2.out
    have c0 : w3.cell? ⟨z, 0, none⟩ = some (.int .i64 0) := by simp [World.cell?, q3]
    have c1 : w3.cell? ⟨z, 1, none⟩ = some (.int .i64 0) := by simp [World.cell?, q3]
    have c2 : w3.cell? ⟨z, 2, none⟩ = some (.int .i64 0) := by simp [World.cell?, q3]
    have f0 : w3.frozen? ⟨z, 0, none⟩ = false := by simp [World.frozen?, q3]
    have f1 : w3.frozen? ⟨z, 1, none⟩ = false := by simp [World.frozen?, q3]
    have f2 : w3.frozen? ⟨z, 2, none⟩ = false := by simp [World.frozen?, q3]
    have HD3 := hide hd3
    have G3 := hide (grownBy_trans G2.out ht3)
    have Q3 := hide q3
    clear hd3 ht3 SR q2 G2 q3
    go_wp2_with fail
    have fin := set3_blk w3 z _ _ _ (.int .i64 (y : Int)) (.int .i64 0) (.int .i64 0) _ Q3.out
    have HDX := HD3.out.kept (set3_far w3 z g (.int .i64 (y : Int)) (.int .i64 0) (.int .i64 0) (by omega))
    have HGX := grownBy_set3 G3.out z (by rw [HZ.out]; exact Nat.le_refl _) (.int .i64 (y : Int)) (.int .i64 0) (.int .i64 0)
    rw [HT2.out]
    exact bodyPost_ret (results_cell_row Tryd.results77 _ _ z 38 #[.int .i64 (y : Int), .int .i64 0, .int .i64 0] (0, 0) _ rfl fin Tryd.underlying38 rfl (by kernel_rfl)) rfl ⟨rfl, HDX, HGX⟩
  | true =>
    have SR := hide (imp_getNum g 6 300 (m + 1) 64 t (dnext (tbN t) st 0) w2 rfl (by omega) (by omega) HK2.out hts HD2.out)
    have hnn := readG_node (tbN t) 300 6 (dnext (tbN t) st 0) 1
    have HK3 := hide (readG_ok (tbN t) 300 6 (dnext (tbN t) st 0) 1 _ HK2.out)
    have HT2 := hide (show dtok (tbN t) st = (⟨0, (((readG (tbN t) 300 6 (dnext (tbN t) st 0) 1).2 - 64 + 3 : Nat) : Int), (((readG (tbN t) 400 10 (readG (tbN t) 300 6 (dnext (tbN t) st 0) 1).1 1).2 - 1024 + 1 : Nat) : Int)⟩, (readG (tbN t) 400 10 (readG (tbN t) 300 6 (dnext (tbN t) st 0) 1).1 1).1) by rw [HTK.out]; rfl)
    obtain ⟨R, hR⟩ : ∃ R, R = readG (tbN t) 300 6 (dnext (tbN t) st 0) 1 := ⟨_, rfl⟩
    rw [← hR] at SR hnn HT2 HK3
    obtain ⟨y, hy⟩ : ∃ y, y = R.2 - 64 := ⟨_, rfl⟩
    rw [← hy] at SR HT2
    have hy6 : y < 64 := by have h1 := hnn.2; have e : (1 + 1) * 2 ^ 6 = 128 := rfl; omega
    obtain ⟨M, hM⟩ : ∃ M, M = y + 3 := ⟨_, rfl⟩
    rw [← hM] at HT2
    have hyw : (y : Int) + (3 : Int) = (M : Int) := by omega
    have hyw2 : IntKind.i64.wrap ((y : Int) + (3 : Int)) = (M : Int) := by rw [IntKind.wrap_i64]; omega
    have hM66 : (M : Int) ≤ 66 := by omega
    clear hR hy hnn HK2 HD2 HTK hM
    go_wp2_with fail
    refine SR.out.mono ?_
    rintro e w3 ⟨rfl, hd3, ht3⟩
    have hs3 := ht3.size
    have q3 := hide ((ht3.block z (by omega) (fun e => by cases e; omega)).trans q2.out)
    have G3 := hide (grownBy_trans G2.out ht3)
    have SR2 := hide (imp_getNum g 10 400 _ 1024 t R.1 w3 rfl (by omega) (by omega) HK3.out hts hd3)
    have hnn := readG_node (tbN t) 400 10 R.1 1
    obtain ⟨R2, hR⟩ : ∃ R2, R2 = readG (tbN t) 400 10 R.1 1 := ⟨_, rfl⟩
    rw [← hR] at SR2 hnn HT2
    obtain ⟨f, hf⟩ : ∃ f, f = R2.2 - 1024 := ⟨_, rfl⟩
    rw [← hf] at SR2 HT2
    have hf10 : f < 1024 := by have h1 := hnn.2; have e : (1 + 1) * 2 ^ 10 = 2048 := rfl; omega
    obtain ⟨F, hF⟩ : ∃ F, F = f + 1 := ⟨_, rfl⟩
    rw [← hF] at HT2
    have hfw : (f : Int) + (1 : Int) = (F : Int) := by omega
    have hfw2 : IntKind.i64.wrap ((f : Int) + (1 : Int)) = (F : Int) := by rw [IntKind.wrap_i64]; omega
    have hF1024 : (F : Int) ≤ 1024 := by omega
    clear hF hR hf hnn SR HK3 hd3 ht3 q2 G2
    go_wp2_with fail
    refine SR2.out.mono ?_
    rintro e w4 ⟨rfl, hd4, ht4⟩
    have hs4 := ht4.size
    have q4 := (ht4.block z (by omega) (fun e => by cases e; omega)).trans q3.out
    have c0 : w4.cell? ⟨z, 0, none⟩ = some (.int .i64 0) := by simp [World.cell?, q4]
    have c1 : w4.cell? ⟨z, 1, none⟩ = some (.int .i64 0) := by simp [World.cell?, q4]
    have c2 : w4.cell? ⟨z, 2, none⟩ = some (.int .i64 0) := by simp [World.cell?, q4]
    have f0 : w4.frozen? ⟨z, 0, none⟩ = false := by simp [World.frozen?, q4]
    have f1 : w4.frozen? ⟨z, 1, none⟩ = false := by simp [World.frozen?, q4]
    have f2 : w4.frozen? ⟨z, 2, none⟩ = false := by simp [World.frozen?, q4]
    have HD4 := hide hd4
    have G4 := hide (grownBy_trans G3.out ht4)
    have Q3 := hide q4
    clear hd4 ht4 SR2 q3 G3 q4
    go_wp2_with fail
    have fin := set3_blk w4 z _ _ _ (.int .i64 0) (.int .i64 (M : Int)) (.int .i64 (F : Int)) _ Q3.out
    have HDX := HD4.out.kept (set3_far w4 z g (.int .i64 0) (.int .i64 (M : Int)) (.int .i64 (F : Int)) (by omega))
    have HGX := grownBy_set3 G4.out z (by rw [HZ.out]; exact Nat.le_refl _) (.int .i64 0) (.int .i64 (M : Int)) (.int .i64 (F : Int))
    rw [HT2.out]
    exact bodyPost_ret (results_cell_row Tryd.results77 _ _ z 38 #[.int .i64 0, .int .i64 (M : Int), .int .i64 (F : Int)] (0, 0) _ rfl fin Tryd.underlying38 rfl (by kernel_rfl)) rfl ⟨rfl, HDX, HGX⟩
end Go.Proofs.YtdoodkabmeojmaaDoor

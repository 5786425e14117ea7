/- Put together: GetTok, TokD, UnpG, ByteI. -/
import Derived.Test.YtconcnndghmdfaaGreatDoorSe45
import Derived.Test.YtconcnndghmdfaaGreatDoorSe35
import Derived.Test.YtconcnndghmdfaaGreatDoorSe16
import Derived.Shelf.Abstract
import Derived.Shelf.RegionOpen
import Derived.WalkKit
import Derived.TacticsInMore
import Derived.LoopNIn
import Derived.LoopIn
import Derived.Test.YtconcnndghmdfaaGreatDoorSe37
import Derived.Test.YtconcnndghmdfaaGreatDoorRows
namespace Go.Proofs.YtconcnndghmdfaaGreatDoor
open Go.RowKit
theorem DecP.kept {w w' : World} {g x : Nat} {t : ByteArray} {s : RC} (h : DecP w g t s x) (hg : w'.heap[g]? = w.heap[g]?) : DecP w' g t s x := h.of_block hg
theorem DecP.lt {w : World} {g x : Nat} {t : ByteArray} {s : RC} (h : DecP w g t s x) : g < w.heap.size := World.rowIs.lt h
theorem set3_blk (w : World) (g : Nat) (x y z a b c : Value) (t : TypeId) (h : w.heap[g]? = some (.cells #[x, y, z] t)) : (((w.setCell ⟨g, 0, none⟩ a).setCell ⟨g, 1, none⟩ b).setCell ⟨g, 2, none⟩ c).heap[g]? = some (.cells #[a, b, c] t) := by
  simp [World.setCell, Array.getElem?_modify, h]
theorem set3_far (w : World) (g k : Nat) (a b c : Value) (h : k ≠ g) : (((w.setCell ⟨g, 0, none⟩ a).setCell ⟨g, 1, none⟩ b).setCell ⟨g, 2, none⟩ c).heap[k]? = w.heap[k]? := by
  simp [World.setCell, Array.getElem?_modify, Ne.symm h]
theorem grownBy_set3 {w w1 : World} {r : Option Nat} (h : w.grownBy w1 r) (g : Nat) (hg : w.heap.size ≤ g) (a b c : Value) : w.grownBy (((w1.setCell ⟨g, 0, none⟩ a).setCell ⟨g, 1, none⟩ b).setCell ⟨g, 2, none⟩ c) r :=
  ⟨h.os, h.tape, h.output, by have := h.size; simpa [World.setCell] using this, fun k hk hne => (set3_far w1 g k a b c (by omega)).trans (h.block k hk hne)⟩
set_option maxRecDepth 100000 in
set_option maxHeartbeats 800000 in
theorem imp_getNum (g many base m P2 : Nat) (t : ByteArray) (st : RC × Nat) (w : World) (hP : P2 = 2 ^ many) (hm : many ≤ 10) (hb : base ≤ 400) (hok : DecOk st m) (hts : t.size ≤ 9223372036854775807) (hdec : DecP w g t st.1 st.2) :
    Calls Tryz.prog 163 #[.pointer (some ⟨g, 0, none⟩), .int .i64 (base : Int), .int .i64 (many : Int)] w fun e w' => e = .returned (.int .i64 (((readG (tbN t) base many st 1).2 - P2 : Nat) : Int)) ∧ DecP w' g t (readG (tbN t) base many st 1).1.1 (readG (tbN t) base many st 1).1.2 ∧ w.grownBy w' (some g) := by
  have hP1024 : P2 ≤ 1024 := by rw [hP]; exact Nat.le_trans (Nat.pow_le_pow_right (by omega) hm) (by decide)
  have hn1 := readG_node (tbN t) base many st 1
  rw [← hP] at hn1
  obtain ⟨R, hR⟩ : ∃ R, R = readG (tbN t) base many st 1 := ⟨_, rfl⟩
  rw [← hR] at hn1 ⊢
  have HR := hide hR
  have HD := hide hdec
  have HPP := hide hP
  clear hR hdec hP
  go_enter Tryz.func163, Tryz.ntmps163
  go_wp2_with fail
  go_loopw [7, 9] (fun nd i wx => ∃ (k node : Nat) (s : RC × Nat), k ≤ many ∧ node < 2 ^ (k + 1) ∧ i = .int .i64 (k : Int) ∧ nd = .int .i64 (node : Int) ∧ Hid (readG (tbN t) base (many - k) s node = R) ∧ Hid (DecOk s (m + k)) ∧ Hid (DecP wx g t s.1 s.2) ∧ Hid (w.grownBy wx (some g))) (fun _ i _ => many - (intOf i).toNat)
  case atStart => exact ⟨0, 1, st, Nat.zero_le _, by decide, rfl, rfl, HR.out.symm, hok, HD, World.grownBy.refl _ _⟩
  case round =>
    clear HD
    obtain ⟨k, node, s, hk, hnd, rfl, rfl, hre, hso, hd, htw⟩ := hrel
    have hnode : node < 2048 := Nat.lt_of_lt_of_le hnd (Nat.le_trans (Nat.pow_le_pow_right (by omega) (show k + 1 ≤ 11 by omega)) (by decide))
    by_cases hlt : k < many
    · have hlt' : (k : Int) < (many : Int) := by omega
      have hnode2 : node < 1024 := Nat.lt_of_lt_of_le hnd (Nat.le_trans (Nat.pow_le_pow_right (by omega) (show k + 1 ≤ 10 by omega)) (by decide))
      obtain ⟨c, hc⟩ : ∃ c, c = base + node := ⟨_, rfl⟩
      have s1 : (base : Int) + (node : Int) = (c : Int) := by omega
      have SB := hide (imp_get g c s.2 t s.1 wr hso.out.ok (by omega) hso.out.x hts hd.out)
      obtain ⟨bit, hbit⟩ : ∃ b, b = dbit s.1 s.2 c := ⟨_, rfl⟩
      have HRE := hide (show readG (tbN t) base (many - (k + 1)) (dnext (tbN t) s c) (2 * node + bN bit) = R by
        rw [← hre.out, show many - k = (many - (k + 1)) + 1 by omega, hbit, hc]; rfl)
      have HSO := hide (DecOk.next (tbN t) s c (m + k) hso.out)
      have HND := hide (show 2 * node + bN bit < 2 ^ (k + 1 + 1) by
        have := bN_le bit
        rw [Nat.pow_succ]; omega)
      rw [← hbit] at SB
      have HDE := hide (show dnext (tbN t) s c = (step s.1 c bit, dx (tbN t) s.1 s.2 c) by unfold dnext; rw [← hbit])
      have hcb : (c : Int) ≤ 2000 := by omega
      have hnb : (node : Int) ≤ 1024 := by omega
      clear hbit hc hre hso hd hnd
      go_wp2_with fail
      refine SB.out.mono ?_
      rintro e w2 ⟨rfl, hd2, ht2⟩
      have HD2 := hide (show DecP w2 g t (dnext (tbN t) s c).1 (dnext (tbN t) s c).2 by rw [HDE.out]; exact hd2)
      have HT2 := hide (grownBy_trans htw.out ht2)
      clear hd2 ht2 htw SB HDE
      go_wp2_with fail
      refine (imp_below node bit w2 (by omega)).mono ?_
      rintro e w3 ⟨rfl, rfl⟩
      obtain ⟨nn, hnn⟩ : ∃ nn, nn = 2 * node + bN bit := ⟨_, rfl⟩
      rw [← hnn] at HRE HND ⊢
      clear hnn
      go_wp2_with fail
      go_roundw
      case rel => exact ⟨k + 1, nn, dnext (tbN t) s c, by omega, HND.out, by go_num, rfl, HRE, HSO, HD2, HT2⟩
      case measure => simp [intOf]; omega
    · have hlt' : ¬ (k : Int) < (many : Int) := by omega
      have hkm : k = many := by omega
      have e := hre.out
      rw [hkm, Nat.sub_self] at e
      have e2 : R = (s, node) := e.symm
      have HD2 := hide (show DecP wr g t R.1.1 R.1.2 by rw [e2]; exact hd.out)
      have hn2 : R.2 = node := by rw [e2]
      rw [hn2] at hn1
      have HN2 := hide hn2
      clear e e2 hre hso hd hnd hn2
      have e1 : (2 : Int) ^ many = (P2 : Int) := by rw [HPP.out]; simp
      obtain ⟨d, hd⟩ : ∃ d, d = node - P2 := ⟨_, rfl⟩
      have e3 : (node : Int) - (P2 : Int) = (d : Int) := by omega
      have hdb : (d : Int) ≤ 2048 := by omega
      have hpb : (P2 : Int) ≤ 1024 := by omega
      have hnb : (node : Int) ≤ 2048 := by omega
      have HDD := hide hd
      clear hd hkm
      go_wp2_with fail
      go_ret
      exact ⟨by rw [HN2.out, ← HDD.out]; rfl, HD2.out, htw.out⟩
set_option maxRecDepth 100000 in
set_option maxHeartbeats 1600000 in
theorem imp_getToken (g m : Nat) (t : ByteArray) (st : RC × Nat) (w : World) (hok : DecOk st m) (hts : t.size ≤ 9223372036854775807) (hdec : DecP w g t st.1 st.2) :
    Calls Tryz.prog 156 #[.pointer (some ⟨g, 0, none⟩)] w fun e w' => e = .returned (tokV (dtok (tbN t) st).1) ∧ DecP w' g t (dtok (tbN t) st).2.1 (dtok (tbN t) st).2.2 ∧ w.grownBy w' (some g) := by
  obtain ⟨z, hz⟩ : ∃ z, z = w.heap.size := ⟨_, rfl⟩
  have hgl := hdec.lt
  have hgz : g < z := by omega
  have q1 : (w.alloc (.cells #[.int .i64 0, .int .i64 0, .int .i64 0] 80)).heap[z]? = some (.cells #[.int .i64 0, .int .i64 0, .int .i64 0] 80) := by rw [hz]; exact heap_alloc_new w _
  have s1 : (w.alloc (.cells #[.int .i64 0, .int .i64 0, .int .i64 0] 80)).heap.size = z + 1 := by simp [hz]
  have d1 : DecP (w.alloc (.cells #[.int .i64 0, .int .i64 0, .int .i64 0] 80)) g t st.1 st.2 := hdec.kept (Below.heap_alloc _ _ _ hgl)
  have g1 : w.grownBy (w.alloc (.cells #[.int .i64 0, .int .i64 0, .int .i64 0] 80)) (some g) := grownBy_alloc (World.grownBy.refl _ _) _
  have SB := hide (imp_get g 0 st.2 t st.1 (w.alloc (.cells #[.int .i64 0, .int .i64 0, .int .i64 0] 80)) hok.ok (by omega) hok.x hts d1)
  have HK2 := hide (DecOk.next (tbN t) st 0 _ hok)
  have HZ := hide hz
  have H1 := hide (And.intro q1 (And.intro s1 g1))
  obtain ⟨bit, hbit⟩ : ∃ b, b = dbit st.1 st.2 0 := ⟨_, rfl⟩
  rw [← hbit] at SB
  have HDE := hide (show dnext (tbN t) st 0 = (step st.1 0 bit, dx (tbN t) st.1 st.2 0) by unfold dnext; rw [← hbit])
  have HTK := hide (show dtok (tbN t) st = if bit = true then (⟨0, (((readG (tbN t) 300 6 (dnext (tbN t) st 0) 1).2 - 64 + 3 : Nat) : Int), (((readG (tbN t) 400 10 (readG (tbN t) 300 6 (dnext (tbN t) st 0) 1).1 1).2 - 1024 + 1 : Nat) : Int)⟩, (readG (tbN t) 400 10 (readG (tbN t) 300 6 (dnext (tbN t) st 0) 1).1 1).1)
  else (⟨(((readG (tbN t) 16 8 (dnext (tbN t) st 0) 1).2 - 256 : Nat) : Int), 0, 0⟩, (readG (tbN t) 16 8 (dnext (tbN t) st 0) 1).1) by rw [hbit]; rfl)
  clear hz q1 s1 d1 g1 hdec hbit hok
  go_enter Tryz.func156, Tryz.ntmps156
  go_wp2_with fail
  refine SB.out.mono ?_
  rw [← HZ.out]
  obtain ⟨q1, s1, g1⟩ := H1.out
  generalize w.alloc (.cells #[.int .i64 0, .int .i64 0, .int .i64 0] 80) = W1 at *
  rintro e w2 ⟨rfl, hd2, ht2⟩
  have HD2 := hide (show DecP w2 g t (dnext (tbN t) st 0).1 (dnext (tbN t) st 0).2 by rw [HDE.out]; exact hd2)
  have hs2 := ht2.size
  have q2 := hide ((ht2.block z (by omega) (fun e => by cases e; omega)).trans q1)
  have G2 := hide (grownBy_trans g1 ht2)
  clear hd2 ht2 SB HDE q1 g1 H1
  cases bit with
  | false =>
    have SR := hide (imp_getNum g 8 16 (m + 1) 256 t (dnext (tbN t) st 0) w2 rfl (by omega) (by omega) HK2.out hts HD2.out)
    have hnn := readG_node (tbN t) 16 8 (dnext (tbN t) st 0) 1
    have HT2 := hide (show dtok (tbN t) st = (⟨(((readG (tbN t) 16 8 (dnext (tbN t) st 0) 1).2 - 256 : Nat) : Int), 0, 0⟩, (readG (tbN t) 16 8 (dnext (tbN t) st 0) 1).1) by rw [HTK.out]; rfl)
    obtain ⟨R, hR⟩ : ∃ R, R = readG (tbN t) 16 8 (dnext (tbN t) st 0) 1 := ⟨_, rfl⟩
    rw [← hR] at SR hnn HT2
    obtain ⟨y, hy⟩ : ∃ y, y = R.2 - 256 := ⟨_, rfl⟩
    rw [← hy] at SR HT2
    have hy8 : y < 256 := by have h1 := hnn.2; have e : (1 + 1) * 2 ^ 8 = 512 := rfl; omega
    clear hR hy hnn HK2 HD2 HTK
    go_wp2_with fail
    refine SR.out.mono ?_
    rintro e w3 ⟨rfl, hd3, ht3⟩
    have hs3 := ht3.size
    have q3 := (ht3.block z (by omega) (fun e => by cases e; omega)).trans q2.out
    have c0 : w3.cell? ⟨z, 0, none⟩ = some (.int .i64 0) := by simp [World.cell?, q3]
    have c1 : w3.cell? ⟨z, 1, none⟩ = some (.int .i64 0) := by simp [World.cell?, q3]
    have c2 : w3.cell? ⟨z, 2, none⟩ = some (.int .i64 0) := by simp [World.cell?, q3]
    have f0 : w3.frozen? ⟨z, 0, none⟩ = false := by simp [World.frozen?, q3]
    have f1 : w3.frozen? ⟨z, 1, none⟩ = false := by simp [World.frozen?, q3]
    have f2 : w3.frozen? ⟨z, 2, none⟩ = false := by simp [World.frozen?, q3]
    have HD3 := hide hd3
    have G3 := hide (grownBy_trans G2.out ht3)
    have Q3 := hide q3
    clear hd3 ht3 SR q2 G2 q3
    go_wp2_with fail
    have fin := set3_blk w3 z _ _ _ (.int .i64 (y : Int)) (.int .i64 0) (.int .i64 0) _ Q3.out
    have HDX := HD3.out.kept (set3_far w3 z g (.int .i64 (y : Int)) (.int .i64 0) (.int .i64 0) (by omega))
    have HGX := grownBy_set3 G3.out z (by rw [HZ.out]; exact Nat.le_refl _) (.int .i64 (y : Int)) (.int .i64 0) (.int .i64 0)
    rw [HT2.out]
    exact bodyPost_ret (results_cell_row Tryz.results156 _ _ z 80 #[.int .i64 (y : Int), .int .i64 0, .int .i64 0] (0, 0) _ rfl fin Tryz.underlying80 rfl (by kernel_rfl)) rfl ⟨rfl, HDX, HGX⟩
  | true =>
    have SR := hide (imp_getNum g 6 300 (m + 1) 64 t (dnext (tbN t) st 0) w2 rfl (by omega) (by omega) HK2.out hts HD2.out)
    have hnn := readG_node (tbN t) 300 6 (dnext (tbN t) st 0) 1
    have HK3 := hide (readG_ok (tbN t) 300 6 (dnext (tbN t) st 0) 1 _ HK2.out)
    have HT2 := hide (show dtok (tbN t) st = (⟨0, (((readG (tbN t) 300 6 (dnext (tbN t) st 0) 1).2 - 64 + 3 : Nat) : Int), (((readG (tbN t) 400 10 (readG (tbN t) 300 6 (dnext (tbN t) st 0) 1).1 1).2 - 1024 + 1 : Nat) : Int)⟩, (readG (tbN t) 400 10 (readG (tbN t) 300 6 (dnext (tbN t) st 0) 1).1 1).1) by rw [HTK.out]; rfl)
    obtain ⟨R, hR⟩ : ∃ R, R = readG (tbN t) 300 6 (dnext (tbN t) st 0) 1 := ⟨_, rfl⟩
    rw [← hR] at SR hnn HT2 HK3
    obtain ⟨y, hy⟩ : ∃ y, y = R.2 - 64 := ⟨_, rfl⟩
    rw [← hy] at SR HT2
    have hy6 : y < 64 := by have h1 := hnn.2; have e : (1 + 1) * 2 ^ 6 = 128 := rfl; omega
    obtain ⟨M, hM⟩ : ∃ M, M = y + 3 := ⟨_, rfl⟩
    rw [← hM] at HT2
    have hyw : (y : Int) + (3 : Int) = (M : Int) := by omega
    have hyw2 : IntKind.i64.wrap ((y : Int) + (3 : Int)) = (M : Int) := by rw [IntKind.wrap_i64]; omega
    have hM66 : (M : Int) ≤ 66 := by omega
    clear hR hy hnn HK2 HD2 HTK hM
    go_wp2_with fail
    refine SR.out.mono ?_
    rintro e w3 ⟨rfl, hd3, ht3⟩
    have hs3 := ht3.size
    have q3 := hide ((ht3.block z (by omega) (fun e => by cases e; omega)).trans q2.out)
    have G3 := hide (grownBy_trans G2.out ht3)
    have SR2 := hide (imp_getNum g 10 400 _ 1024 t R.1 w3 rfl (by omega) (by omega) HK3.out hts hd3)
    have hnn := readG_node (tbN t) 400 10 R.1 1
    obtain ⟨R2, hR⟩ : ∃ R2, R2 = readG (tbN t) 400 10 R.1 1 := ⟨_, rfl⟩
    rw [← hR] at SR2 hnn HT2
    obtain ⟨f, hf⟩ : ∃ f, f = R2.2 - 1024 := ⟨_, rfl⟩
    rw [← hf] at SR2 HT2
    have hf10 : f < 1024 := by have h1 := hnn.2; have e : (1 + 1) * 2 ^ 10 = 2048 := rfl; omega
    obtain ⟨F, hF⟩ : ∃ F, F = f + 1 := ⟨_, rfl⟩
    rw [← hF] at HT2
    have hfw : (f : Int) + (1 : Int) = (F : Int) := by omega
    have hfw2 : IntKind.i64.wrap ((f : Int) + (1 : Int)) = (F : Int) := by rw [IntKind.wrap_i64]; omega
    have hF1024 : (F : Int) ≤ 1024 := by omega
    clear hF hR hf hnn SR HK3 hd3 ht3 q2 G2
    go_wp2_with fail
    refine SR2.out.mono ?_
    rintro e w4 ⟨rfl, hd4, ht4⟩
    have hs4 := ht4.size
    have q4 := (ht4.block z (by omega) (fun e => by cases e; omega)).trans q3.out
    have c0 : w4.cell? ⟨z, 0, none⟩ = some (.int .i64 0) := by simp [World.cell?, q4]
    have c1 : w4.cell? ⟨z, 1, none⟩ = some (.int .i64 0) := by simp [World.cell?, q4]
    have c2 : w4.cell? ⟨z, 2, none⟩ = some (.int .i64 0) := by simp [World.cell?, q4]
    have f0 : w4.frozen? ⟨z, 0, none⟩ = false := by simp [World.frozen?, q4]
    have f1 : w4.frozen? ⟨z, 1, none⟩ = false := by simp [World.frozen?, q4]
    have f2 : w4.frozen? ⟨z, 2, none⟩ = false := by simp [World.frozen?, q4]
    have HD4 := hide hd4
    have G4 := hide (grownBy_trans G3.out ht4)
    have Q3 := hide q4
    clear hd4 ht4 SR2 q3 G3 q4
    go_wp2_with fail
    have fin := set3_blk w4 z _ _ _ (.int .i64 0) (.int .i64 (M : Int)) (.int .i64 (F : Int)) _ Q3.out
    have HDX := HD4.out.kept (set3_far w4 z g (.int .i64 0) (.int .i64 (M : Int)) (.int .i64 (F : Int)) (by omega))
    have HGX := grownBy_set3 G4.out z (by rw [HZ.out]; exact Nat.le_refl _) (.int .i64 0) (.int .i64 (M : Int)) (.int .i64 (F : Int))
    rw [HT2.out]
    exact bodyPost_ret (results_cell_row Tryz.results156 _ _ z 80 #[.int .i64 0, .int .i64 (M : Int), .int .i64 (F : Int)] (0, 0) _ rfl fin Tryz.underlying80 rfl (by kernel_rfl)) rfl ⟨rfl, HDX, HGX⟩
end Go.Proofs.YtconcnndghmdfaaGreatDoor
namespace Go.Proofs.YtconcnndghmdfaaGreatDoor
open Go Go.RowKit Go.Shelf
attribute [local go_sem] Oper.semAt_some
theorem imp_tokens (g size : Nat) (w : World) :
    Calls Tryz.prog 146 #[.pointer (some ⟨g, 0, none⟩), .int .i64 (size : Int)] w fun e w' => e = .returned (.func (.func 155) #[] #[.pointer (some ⟨w.heap.size + 1, 0, none⟩), .pointer (some ⟨w.heap.size, 0, none⟩)]) ∧ w' = (w.alloc (.cells #[.pointer (some ⟨g, 0, none⟩)] 179)).alloc (.cells #[.int .i64 (size : Int)] 3) := by
  go_enter Tryz.func146, Tryz.ntmps146
  go_wp2_with fail
  go_ret
  exact ⟨rfl, rfl⟩
set_option maxRecDepth 100000 in
set_option maxHeartbeats 3200000 in
theorem dtoks1_in (n l Bs Bd g size : Nat) (hn : 1 ≤ n) (t : ByteArray) (h4 : size ≤ 4000) (hts : t.size ≤ 9223372036854775807) (st0 : RC × Nat) (hok0 : DecOk st0 0) (J Jx : (Nat → Prop) → List Tok → World → Prop) (hJ : StandsM J)
    (hY : ∀ M pre x W1, J M pre W1 → (pre ++ [x]) <+: dtoks (tbN t) size size st0 0 → YieldAt Fence.wide (n - 1) Tryz.prog l #[tokV x] W1 fun e W' =>
      (e = .returned (.bool true) ∧ J M (pre ++ [x]) W' ∧ KeptM M W1 W') ∨ (e = .returned (.bool false) ∧ Jx M (pre ++ [x]) W'))
    (W : World) (hBs : W.heap[Bs]? = some (.cells #[.int .i64 (size : Int)] 3)) (hBd : W.heap[Bd]? = some (.cells #[.pointer (some ⟨g, 0, none⟩)] 179)) (hD : DecP W g t st0.1 st0.2) (hgs : g ≠ Bs) (hgd : g ≠ Bd) (h0 : J (fun k => k = Bs ∨ k = Bd ∨ k = g) [] W) :
    CallsIn Fence.wide n Tryz.prog 155 #[.func (.yield l) #[] #[], .pointer (some ⟨Bs, 0, none⟩), .pointer (some ⟨Bd, 0, none⟩)] W fun e W' => (∃ v, e = .returned v) ∧
      ((∃ M xs, xs = dtoks (tbN t) size size st0 0 ∧ J M xs W') ∨ (∃ M pre, pre <+: dtoks (tbN t) size size st0 0 ∧ Jx M pre W')) := by
  have h4' : (size : Int) ≤ 4000 := by omega
  obtain ⟨T, hT⟩ : ∃ T, T = dtoks (tbN t) size size st0 0 := ⟨_, rfl⟩
  rw [← hT] at hY ⊢
  have HT := hide hT
  have j0 := hide h0
  have d0 := hide hD
  have b0 := hide (And.intro hBs hBd)
  have k0 := hide hok0
  have l0 := hide (show ∀ k, (k = Bs ∨ k = Bd ∨ k = g) → k < W.heap.size from fun k hk => by
    have h1 := (Array.getElem?_eq_some_iff.1 hBs).1
    have h2 := (Array.getElem?_eq_some_iff.1 hBd).1
    have h3 := hD.lt
    rcases hk with h | h | h <;> omega)
  have HY := hide hY
  have HJ := hide hJ
  clear h0 hD hBs hBd hok0 hY hJ hT
  refine callsIn_of_wp Tryz.func155 rfl trivial ?_ rfl
  simp only [Tryz.ntmps155, List.size_toArray, List.length_cons, List.length_nil, Nat.reduceAdd, Nat.reduceSub, Array.replicate_succ, Array.replicate_zero, List.push_toArray, List.append_toArray, List.nil_append, List.cons_append]
  gi_wp2_with fail
  gi_loopw [4] (fun i wx => ∃ (made k : Nat) (st : RC × Nat) (l : List Tok) (M : Nat → Prop), i = .int .i64 made ∧ made ≤ 4066 ∧ size ≤ made + k ∧ Hid (l ++ dtoks (tbN t) size k st made = T) ∧ Hid (J M l wx) ∧ Hid (∃ m, DecOk st m) ∧ Hid (DecP wx g t st.1 st.2) ∧ Hid (M Bs ∧ M Bd ∧ M g) ∧ Hid (wx.heap[Bs]? = some (.cells #[.int .i64 (size : Int)] 3) ∧ wx.heap[Bd]? = some (.cells #[.pointer (some ⟨g, 0, none⟩)] 179)) ∧ Hid (∀ k, M k → k < wx.heap.size)) (fun i _ => size - (intOf i).toNat)
  case atStart => exact ⟨0, size, st0, [], _, rfl, by omega, by omega, HT.out.symm, j0, ⟨0, k0.out⟩, d0, ⟨.inl rfl, .inr (.inl rfl), .inr (.inr rfl)⟩, b0, l0⟩
  case round =>
    clear j0 d0 b0 k0 l0
    obtain ⟨made, k, st, l2, M, rfl, hm66, hsk, hpl, j1, j2, j3, j4, j5, j6⟩ := hrel
    have cS : wr.cell? ⟨Bs, 0, none⟩ = some (.int .i64 (size : Int)) := by simp [World.cell?, j5.out.1]
    have cD : wr.cell? ⟨Bd, 0, none⟩ = some (.pointer (some ⟨g, 0, none⟩)) := by simp [World.cell?, j5.out.2]
    by_cases hlt : made < size
    · have hlt' : (made : Int) < (size : Int) := by omega
      obtain ⟨k', rfl⟩ : ∃ k', k = k' + 1 := ⟨k - 1, by omega⟩
      obtain ⟨mm, hok⟩ := j2.out
      have ST := hide (imp_getToken g mm t st wr hok hts j3.out)
      have HK2 := hide (dtok_ok (tbN t) st mm hok)
      have hts2 := tsz_pos (tbN t) st
      have HDT := hide (show dtoks (tbN t) size (k' + 1) st made = (dtok (tbN t) st).1 :: dtoks (tbN t) size k' (dtok (tbN t) st).2 (made + tsz (dtok (tbN t) st).1) from if_pos hlt)
      obtain ⟨⟨⟨tb, tm, tf⟩, st2⟩, hTK⟩ : ∃ TK, TK = dtok (tbN t) st := ⟨_, rfl⟩
      rw [← hTK] at ST HK2 hts2 HDT
      simp only at ST HK2 hts2 HDT
      obtain ⟨sN, hsN⟩ : ∃ sN, sN = tsz ⟨tb, tm, tf⟩ := ⟨_, rfl⟩
      rw [← hsN] at hts2 HDT
      have hsz : tokSize tm = (sN : Int) := by
        have h1 : (tokSize tm).toNat = sN := hsN.symm
        omega
      have HPN := hide (show (l2 ++ [(⟨tb, tm, tf⟩ : Tok)]) ++ dtoks (tbN t) size k' st2 (made + sN) = T by
        rw [← hpl.out, HDT.out, List.append_assoc]; rfl)
      have SS := hide (show ∀ u : World, Calls Tryz.prog 84 #[.agg #[.int .i64 tb, .int .i64 tm, .int .i64 tf]] u (fun e w' => e = .returned (.int .i64 (sN : Int)) ∧ Below u.heap.size u w') from fun u => by
        have h := imp_size tb tm tf u
        rw [hsz] at h
        exact h)
      have hgl := j3.out.lt
      obtain ⟨hs1, hs66⟩ := hts2
      clear hTK hsN hsz hpl HDT hok j2
      gi_wp2_with fail
      refine ⟨trivial, (callsIn_wide.2 ST.out).mono ?_⟩
      rintro e w1 ⟨rfl, hd1, hg1⟩
      simp only [tokV]
      obtain ⟨K, hK⟩ : ∃ K, K = w1.heap.size := ⟨_, rfl⟩
      have hk1 := hg1.size
      obtain ⟨m0, m1, m2⟩ := j4.out
      have hBsl := j6.out Bs m0
      have hBdl := j6.out Bd m1
      have mv : Moves M wr (w1.alloc (.cells #[.int .i64 tb, .int .i64 tm, .int .i64 tf] 80)) := ⟨hg1.os, hg1.tape, hg1.output, by simp; omega, fun k hk hm => (Below.heap_alloc _ _ k (by omega)).trans (hg1.block k hk (fun e => by cases e; exact hm m2))⟩
      have z2 : (w1.alloc (.cells #[.int .i64 tb, .int .i64 tm, .int .i64 tf] 80)).heap.size = K + 1 := by simp [hK]
      have q2 : (w1.alloc (.cells #[.int .i64 tb, .int .i64 tm, .int .i64 tf] 80)).heap[K]? = some (.cells #[.int .i64 tb, .int .i64 tm, .int .i64 tf] 80) := by rw [hK]; exact World.alloc_heap_new w1 _
      have d2 : DecP (w1.alloc (.cells #[.int .i64 tb, .int .i64 tm, .int .i64 tf] 80)) g t st2.1 st2.2 := hd1.kept (Below.heap_alloc _ _ _ hd1.lt)
      have bs2 : (w1.alloc (.cells #[.int .i64 tb, .int .i64 tm, .int .i64 tf] 80)).heap[Bs]? = some (.cells #[.int .i64 (size : Int)] 3) := (Below.heap_alloc _ _ _ (by omega)).trans ((hg1.block Bs hBsl (fun e => hgs (by cases e; rfl))).trans j5.out.1)
      have bd2 : (w1.alloc (.cells #[.int .i64 tb, .int .i64 tm, .int .i64 tf] 80)).heap[Bd]? = some (.cells #[.pointer (some ⟨g, 0, none⟩)] 179) := (Below.heap_alloc _ _ _ (by omega)).trans ((hg1.block Bd hBdl (fun e => hgd (by cases e; rfl))).trans j5.out.2)
      obtain ⟨M2, hM2⟩ : ∃ M2 : Nat → Prop, ∀ g, M2 g ↔ (M g ∨ wr.heap.size ≤ g ∧ g < K + 1) := ⟨fun g => M g ∨ wr.heap.size ≤ g ∧ g < K + 1, fun g => Iff.rfl⟩
      have jj2 := HJ.out _ M2 _ _ _ j1.out mv (fun g hg => by rcases (hM2 g).1 hg with h | h; exact .inl h; exact .inr ⟨h.1, by omega⟩)
      obtain ⟨fn, tmps, assign, body, hy, hR⟩ := HY.out M2 l2 ⟨tb, tm, tf⟩ _ jj2 ⟨_, HPN.out⟩
      simp only [tokV] at hy
      have HR := hide hR
      have HT9 := hide (And.intro z2 (And.intro q2 (And.intro hM2 (And.intro hK (And.intro d2 (And.intro bs2 bd2))))))
      clear hR z2 q2 hM2 hK hg1 hd1 ST jj2 mv d2 bs2 bd2
      gi_wp2_with fail
      refine HR.out.mono ?_
      obtain ⟨z2, q2, hM2, hK, d2, bs2, bd2⟩ := HT9.out
      generalize (w1.alloc (.cells #[.int .i64 tb, .int .i64 tm, .int .i64 tf] 80)) = W2 at *
      rw [← hK]
      have HK := hide hK
      have n0 : ∀ g, M g → M2 g := fun g h => (hM2 g).2 (.inl h)
      have nK : M2 K := (hM2 K).2 (.inr (by omega))
      have hw2 : wr.heap.size ≤ W2.heap.size := by omega
      have l2z : ∀ g, M2 g → g < W2.heap.size := fun g hg => by rcases (hM2 g).1 hg with h | h; exact Nat.lt_of_lt_of_le (j6.out g h) (by omega); omega
      clear hK hy HR HT9
      rintro e W3 (⟨rfl, hJ3, hk3⟩ | ⟨rfl, hJx3⟩)
      · have q3 : W3.heap[K]? = some (.cells #[.int .i64 tb, .int .i64 tm, .int .i64 tf] 80) := (hk3.block K (by omega) nK).trans q2
        have k0 : W3.cell? ⟨K, 0, none⟩ = some (.int .i64 tb) := by simp [World.cell?, q3]
        have k1 : W3.cell? ⟨K, 1, none⟩ = some (.int .i64 tm) := by simp [World.cell?, q3]
        have k2 : W3.cell? ⟨K, 2, none⟩ = some (.int .i64 tf) := by simp [World.cell?, q3]
        have hs3 := hk3.size
        have d3 := hide (d2.kept (hk3.block _ (l2z _ (n0 _ m2)) (n0 _ m2)))
        have bs3 := hide ((hk3.block Bs (l2z _ (n0 _ m0)) (n0 _ m0)).trans bs2)
        have bd3 := hide ((hk3.block Bd (l2z _ (n0 _ m1)) (n0 _ m1)).trans bd2)
        have J3 := hide hJ3
        have HN0 := hide n0
        have HL2 := hide l2z
        have hM0 := hide (And.intro m0 (And.intro m1 m2))
        clear hk3 hJ3 q3 q2 hM2 n0 l2z d2 bs2 bd2 z2 nK
        gi_wp2_with fail
        refine ⟨trivial, (callsIn_wide.2 (SS.out _)).mono ?_⟩
        rintro e w6 ⟨rfl, hb6⟩
        have hs6 := hb6.size
        obtain ⟨M6, hM6⟩ : ∃ M6 : Nat → Prop, ∀ g, M6 g ↔ (M2 g ∨ W3.heap.size ≤ g ∧ g < w6.heap.size) := ⟨fun g => M2 g ∨ W3.heap.size ≤ g ∧ g < w6.heap.size, fun g => Iff.rfl⟩
        have n6 : ∀ g, M g → M6 g := fun g h => (hM6 g).2 (.inl (HN0.out g h))
        have J6 := hide (HJ.out M2 M6 _ _ _ J3.out (Moves.below hb6) (fun g hg => by rcases (hM6 g).1 hg with h | h; exact .inl h; exact .inr h))
        have D6 := hide (show DecP w6 g t st2.1 st2.2 from d3.out.kept (hb6.block _ d3.out.lt))
        have B6 := hide (show w6.heap[Bs]? = some (.cells #[.int .i64 (size : Int)] 3) ∧ w6.heap[Bd]? = some (.cells #[.pointer (some ⟨g, 0, none⟩)] 179) from ⟨(hb6.block Bs (by omega)).trans bs3.out, (hb6.block Bd (by omega)).trans bd3.out⟩)
        have ML6 := hide (show ∀ g, M6 g → g < w6.heap.size from fun g hg => by rcases (hM6 g).1 hg with h | h; exact Nat.lt_of_lt_of_le (HL2.out g h) (by omega); exact h.2)
        have N6 := hide (And.intro (n6 _ hM0.out.1) (And.intro (n6 _ hM0.out.2.1) (n6 _ hM0.out.2.2)))
        obtain ⟨q, hq⟩ : ∃ q, q = made + sN := ⟨_, rfl⟩
        have s1 : (made : Int) + (sN : Int) = (q : Int) := by omega
        have s1w : IntKind.i64.wrap ((made : Int) + (sN : Int)) = (q : Int) := by simp only [IntKind.wrap_i64]; omega
        have hq4 : (q : Int) ≤ 4066 := by omega
        have hqm : made < q := by omega
        have hqk : size ≤ q + k' := by omega
        rw [← hq] at HPN
        clear hq hM6 n6 hb6 SS d3 bs3 bd3 J3 k0 k1 k2
        gi_wp2_with fail
        go_roundw
        case rel => exact ⟨q, k', st2, l2 ++ [(⟨tb, tm, tf⟩ : Tok)], M6, rfl, by omega, hqk, HPN, J6, ⟨_, HK2.out⟩, D6, N6, B6, ML6⟩
        case measure => simp [intOf]; omega
      · have HX := hide hJx3
        have HPX := hide (show (l2 ++ [(⟨tb, tm, tf⟩ : Tok)]) <+: T from ⟨_, HPN.out⟩)
        clear hJx3
        gi_wp2_with fail
        refine bodyPost_ret (results_none rfl _ _ _) rfl ?_
        exact ⟨⟨_, rfl⟩, .inr ⟨M2, _, HPX.out, HX.out⟩⟩
    · have hlt' : ¬ (made : Int) < (size : Int) := by omega
      have R := hide (show l2 = T by
        rw [← hpl.out]
        cases k with
        | zero => exact (List.append_nil _).symm
        | succ k => rw [show dtoks (tbN t) size (k + 1) st made = [] from if_neg hlt, List.append_nil])
      clear hpl
      gi_wp2_with fail
      go_end0
      exact ⟨⟨_, rfl⟩, .inl ⟨M, by rw [← R.out]; exact j1.out⟩⟩
theorem dtoks_seq (n Bs Bd g size : Nat) (hn : 1 ≤ n) (t : ByteArray) (h4 : size ≤ 4000) (hts : t.size ≤ 9223372036854775807) (st0 : RC × Nat) (hok0 : DecOk st0 0) (w : World) (hBs : w.heap[Bs]? = some (.cells #[.int .i64 (size : Int)] 3)) (hBd : w.heap[Bd]? = some (.cells #[.pointer (some ⟨g, 0, none⟩)] 179)) (hD : DecP w g t st0.1 st0.2) (hgs : g ≠ Bs) (hgd : g ≠ Bd) :
    SeqM Fence.wide n Tryz.prog 155 #[.pointer (some ⟨Bs, 0, none⟩), .pointer (some ⟨Bd, 0, none⟩)] (fun x => #[tokV x]) (fun k => k = Bs ∨ k = Bd ∨ k = g) (fun xs => xs = dtoks (tbN t) size size st0 0) (fun pre => pre <+: dtoks (tbN t) size size st0 0) (fun pre x => (pre ++ [x]) <+: dtoks (tbN t) size size st0 0) w :=
  fun l J Jx W hW hJ _ hY h0 => dtoks1_in n l Bs Bd g size hn t h4 hts st0 hok0 J Jx hJ hY W ((hW.block Bs (Array.getElem?_eq_some_iff.1 hBs).1 (.inl rfl)).trans hBs) ((hW.block Bd (Array.getElem?_eq_some_iff.1 hBd).1 (.inr (.inl rfl))).trans hBd) (hD.kept (hW.block g hD.lt (.inr (.inr rfl)))) hgs hgd h0
end Go.Proofs.YtconcnndghmdfaaGreatDoor
namespace Go.Proofs.YtconcnndghmdfaaGreatDoor
theorem dt_step (tb : Nat → Nat) (size : Nat) : ∀ (pre : List Tok) (k : Nat) (st : RC × Nat) (b c : List UInt8) (x : Tok) (rest : List Tok), pre ++ x :: rest = dtoks tb size k st b.length → growL pre b = some c → c.length < size ∧ ∃ st', x = (dtok tb st').1
  | [], k, st, b, c, x, rest, h, hg => by
    have e : b = c := Option.some.inj hg
    cases k with
    | zero => cases h
    | succ k =>
      unfold dtoks at h
      split at h
      · rename_i hlt
        rw [← e]
        exact ⟨hlt, st, (List.cons.inj h).1⟩
      · cases h
  | y :: pre, k, st, b, c, x, rest, h, hg => by
    cases k with
    | zero => cases h
    | succ k =>
      unfold dtoks at h
      split at h
      · obtain ⟨h1, h2⟩ := List.cons.inj h
        have hg' : (growT y b).bind (growL pre) = some c := hg
        cases hy : growT y b with
        | none => rw [hy] at hg'; cases hg'
        | some d =>
          rw [hy] at hg'
          rw [h1] at hy
          have hl := growT_len tb st b d hy
          rw [← hl] at h2
          exact dt_step tb size pre k _ d c x rest h2 hg'
      · cases h
theorem growL_snoc (l : List Tok) (x : Tok) (b : List UInt8) : growL (l ++ [x]) b = (growL l b).bind (growT x) := by
  rw [growL_app]
  cases growL l b with
  | none => rfl
  | some c =>
    show (growT x c).bind some = growT x c
    cases growT x c <;> rfl
theorem growL_stop (l k : List Tok) (b : List UInt8) (h : l <+: k) (hn : growL l b = none) : growL k b = none := by
  obtain ⟨r, rfl⟩ := h
  rw [growL_app, hn]; rfl
end Go.Proofs.YtconcnndghmdfaaGreatDoor
namespace Go.Proofs.YtconcnndghmdfaaGreatDoor
open Go.RowKit
theorem Tryz.infoB8m : (Tryz.prog.info? 5).map (fun i => (i.zero, i.size, i.bytes)) = some (some (.int .u8 0), 1, 1) := by kernel_rfl
end Go.Proofs.YtconcnndghmdfaaGreatDoor

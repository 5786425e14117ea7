/- Put together: PackU, Dec, NumO, Labels. -/
import Derived.Test.YtconcnndghmdfaaGreatDoorSe16
import Derived.OwnWalk
import Derived.Deep.AppendLies
import Derived.Laws.BitsLemmas
import Derived.Laws.Bits64
import Derived.Laws.Bits64b
import Derived.WalkKit
import Derived.ScopeJumps
import Derived.WalkMore
namespace Go.Proofs.YtconcnndghmdfaaGreatDoor
open Go.RowKit
/-- what l07Unpack answers. -/
def outU (many : Nat) : Option (List UInt8) → ByteArray × Bool
  | some b => (⟨b.toArray⟩, decide (b.length = many))
  | none => (⟨#[]⟩, false)
def unpO (t : ByteArray) (many : Nat) : ByteArray × Bool := outU many (unpackG (tbN t) many many (rc0, pv (tbN t) 4) [])
def lenV : Value → Nat
  | .slice _ n _ => n
  | _ => 0
theorem Tryz.infoB8u : (Tryz.prog.info? 5).map (fun i => (i.zero, i.size, i.bytes)) = some (some (.int .u8 0), 1, 1) := by kernel_rfl
theorem unpackG_byte (tb : Nat → Nat) (many k : Nat) (st : RC × Nat) (b : List UInt8) (h : b.length < many) (hf : dbit st.1 st.2 0 = false) : unpackG tb many (k + 1) st b = unpackG tb many k (readG tb 16 8 (dnext tb st 0) 1).1 (b ++ [UInt8.ofNat ((readG tb 16 8 (dnext tb st 0) 1).2 - 256)]) := by
  conv => lhs; unfold unpackG
  rw [if_pos h, if_neg (by rw [hf]; decide)]
theorem unpackG_far (tb : Nat → Nat) (many k : Nat) (st : RC × Nat) (b : List UInt8) (h : b.length < many) (hf : dbit st.1 st.2 0 = true) (hl : b.length < (readG tb 400 10 (readG tb 300 6 (dnext tb st 0) 1).1 1).2 - 1024 + 1) : unpackG tb many (k + 1) st b = none := by
  conv => lhs; unfold unpackG
  rw [if_pos h, if_pos hf, if_pos hl]
theorem unpackG_match (tb : Nat → Nat) (many k : Nat) (st : RC × Nat) (b : List UInt8) (h : b.length < many) (hf : dbit st.1 st.2 0 = true) (hl : ¬ b.length < (readG tb 400 10 (readG tb 300 6 (dnext tb st 0) 1).1 1).2 - 1024 + 1) : unpackG tb many (k + 1) st b = unpackG tb many k (readG tb 400 10 (readG tb 300 6 (dnext tb st 0) 1).1 1).1 (copyN ((readG tb 400 10 (readG tb 300 6 (dnext tb st 0) 1).1 1).2 - 1024 + 1) ((readG tb 300 6 (dnext tb st 0) 1).2 - 64 + 3) b) := by
  conv => lhs; unfold unpackG
  rw [if_pos h, if_pos hf, if_neg hl]
theorem unpackG_done (tb : Nat → Nat) (many k : Nat) (st : RC × Nat) (b : List UInt8) (h : ¬ b.length < many) : unpackG tb many k st b = some b := by
  cases k with
  | zero => rfl
  | succ k => conv => lhs; unfold unpackG
              rw [if_neg h]
theorem own_form {w : World} {base e : Nat} {v : Value} {n : Nat} {xs : List Value} (h : w.ownsRow base e 1 v n xs) : ∃ a cap, v = .slice a n cap ∧ n ≤ cap ∧ (0 < n → ∃ g, a = some ⟨g, 0, none⟩) := by
  obtain ⟨_, ⟨rfl, e⟩ | ⟨go, cap, cur, rfl, _, _, hc, _⟩⟩ := h
  · exact ⟨none, 0, by rw [e], by omega, fun h => by omega⟩
  · exact ⟨_, cap, rfl, hc, fun _ => ⟨go, rfl⟩⟩
theorem Dec.kept {w w' : World} {g gc base x : Nat} {t : ByteArray} {s : RC} (h : Dec w g gc t s x) (hb : Below base w w') (h1 : g < base) (h2 : gc < base) : Dec w' g gc t s x :=
  ⟨h.1.of_block (hb.block g h1), h.2.of_block (hb.block gc h2)⟩
theorem DecOk.more {st : RC × Nat} {m n : Nat} (h : DecOk st m) (hn : m ≤ n) : DecOk st n := ⟨h.ok, h.x, Nat.le_trans h.n hn⟩
set_option maxRecDepth 100000 in
set_option maxHeartbeats 3200000 in
theorem spec_unpack0 (t : ByteArray) (many : Nat) (w : World) (hm : many ≤ 4000) (hts : t.size ≤ 20000) :
    Calls Tryz.prog 103 #[.string t, .int .i64 (many : Int)] w fun e w' => e = .returned (.tuple #[.string (unpO t many).1, .bool (unpO t many).2]) ∧ Below w.heap.size w w' := by
  obtain ⟨i0, hi, hz0, hz1, hz2⟩ := info_parts Tryz.infoB8u
  obtain ⟨U, hU⟩ : ∃ U, U = unpackG (tbN t) many many (rc0, pv (tbN t) 4) [] := ⟨_, rfl⟩
  have HUE := hide (show unpO t many = outU many U by rw [hU]; rfl)
  have HU := hide hU
  clear hU
  go_enter Tryz.func103, Tryz.ntmps103
  go_wp2_with fail
  refine (spec_decode0 t w (by omega)).mono ?_
  rintro e w1 ⟨g, rfl, hg1, hdec, hb1⟩
  have hgl : g < w1.heap.size := hdec.1.lt
  have hcl : w.heap.size < w1.heap.size := hdec.2.lt
  obtain ⟨gc, hgc⟩ : ∃ x, x = w.heap.size := ⟨_, rfl⟩
  have HD1 := hide (show Dec (w1.alloc (.cells #[] 5)) g gc t rc0 (pv (tbN t) 4) by rw [hgc]; exact ⟨hdec.1.alloc _, hdec.2.alloc _⟩)
  have HO1 := (show (w1.alloc (.cells #[] 5)).ownsRow w1.heap.size 5 1 (.slice (some ⟨w1.heap.size, 0, none⟩) 0 0) 0 [] by
    have h := World.ownsRow_made (e := 5) (size := 1) (base := w1.heap.size) w1 #[] 0 (Nat.le_refl _) (by decide) (by simp)
    simpa using h)
  have HB1 := hide (hb1.alloc hb1.size (.cells #[] 5))
  have hgc2 : w.heap.size ≤ gc := by omega
  have hgg : gc < g := by omega
  have hcl2 : gc < w1.heap.size := by omega
  have hp4 : pv (tbN t) 4 < 18446744073709551616 := Nat.lt_of_lt_of_le (pv_lt (tbN t) (tbN_lt t) 4) (by decide)
  have HK0 := hide (show DecOk (rc0, pv (tbN t) 4) 0 from ⟨rc0_ok, hp4, Nat.le_refl _⟩)
  clear hdec hb1 hgc hp4
  go_wp2_with fail
  have HS1 : w1.heap.size ≤ (w1.alloc (.cells #[] 5)).heap.size := by simp
  generalize w1.alloc (.cells #[] 5) = W1 at *
  go_loopw [7] (fun bv wx => ∃ (k : Nat) (st : RC × Nat) (b : List UInt8), k ≤ many ∧ many ≤ b.length + k ∧ b.length ≤ many + 66 ∧ w1.heap.size ≤ wx.heap.size ∧ wx.ownsRow w1.heap.size 5 1 bv b.length (b.map byteV) ∧ Hid (unpackG (tbN t) many k st b = U) ∧ Hid (DecOk st (17 * (many - k))) ∧ Hid (Dec wx g gc t st.1 st.2) ∧ Hid (Below w.heap.size w wx)) (fun bv _ => many - lenV bv)
  case atStart => exact ⟨many, (rc0, pv (tbN t) 4), [], Nat.le_refl _, by simp, Nat.zero_le _, HS1, HO1, HU.out.symm, by unfold Hid; rw [Nat.sub_self]; exact HK0.out, HD1, HB1⟩
  case round =>
    clear HO1 HD1 HB1 HK0 HS1
    obtain ⟨k, st, b, hk, hbk, hb66, hsz1, hown, hue, hok, hd, hbl⟩ := hrel
    obtain ⟨ba, bcap, hv, hbc, hform⟩ := own_form hown
    subst hv
    have HF := hide hform
    clear hform
    by_cases hlt : b.length < many
    · have hlt' : (b.length : Int) < (many : Int) := by omega
      obtain ⟨k', rfl⟩ : ∃ k', k = k' + 1 := ⟨k - 1, by omega⟩
      have HO := hide hown
      clear hown
      have SB := hide (spec_dbit g gc 0 st.2 t st.1 wr hok.out.ok (by have := hok.out.n; omega) (by omega) hok.out.x (by omega) hd.out (by omega))
      have HK2 := hide (DecOk.next (tbN t) st 0 _ hok.out)
      cases hf : dbit st.1 st.2 0 with
      | false =>
        rw [hf] at SB
        have HDE := hide (show dnext (tbN t) st 0 = (step st.1 0 false, dx (tbN t) st.1 st.2 0) by unfold dnext; rw [hf])
        have HUB := hide (show unpackG (tbN t) many k' (readG (tbN t) 16 8 (dnext (tbN t) st 0) 1).1 (b ++ [UInt8.ofNat ((readG (tbN t) 16 8 (dnext (tbN t) st 0) 1).2 - 256)]) = U by rw [← hue.out, unpackG_byte _ _ _ _ _ hlt hf])
        clear hf hue hok hd
        go_wp2_with fail
        refine SB.out.mono ?_
        rintro e w2 ⟨rfl, hd2, ht2⟩
        have HD2 := hide (show Dec w2 g gc t (dnext (tbN t) st 0).1 (dnext (tbN t) st 0).2 by rw [HDE.out]; exact hd2)
        have HT2 := hide ht2
        have SR := hide (spec_read g gc 8 16 _ 256 t (dnext (tbN t) st 0) w2 rfl (by omega) (by omega) HK2.out (by omega) (by omega) HD2.out (by omega))
        have hnn := readG_node (tbN t) 16 8 (dnext (tbN t) st 0) 1
        have HK3 := hide (readG_ok (tbN t) 16 8 (dnext (tbN t) st 0) 1 _ HK2.out)
        obtain ⟨R, hR⟩ : ∃ R, R = readG (tbN t) 16 8 (dnext (tbN t) st 0) 1 := ⟨_, rfl⟩
        rw [← hR] at SR hnn HK3 HUB
        obtain ⟨y, hy⟩ : ∃ y, y = R.2 - 256 := ⟨_, rfl⟩
        rw [← hy] at SR HUB
        have hy8 : y < 256 := by have h1 := hnn.2; have e : (1 + 1) * 2 ^ 8 = 512 := rfl; omega
        have hw8 : IntKind.u8.wrap (y : Int) = (y : Int) := by rw [IntKind.wrap_u8]; omega
        clear hd2 ht2 hR hy hnn SB HDE HK2
        go_wp2_with fail
        refine SR.out.mono ?_
        rintro e w3 ⟨rfl, hd3, ht3⟩
        have HT3 := HT2.out.trans ht3
        have hg0 : (Value.slice ba b.length bcap).ownBlock ≠ some g := fun e => by have := (HO.out.lt _ e).1; omega
        have hg1' : (Value.slice ba b.length bcap).ownBlock ≠ some gc := fun e => by have := (HO.out.lt _ e).1; omega
        have O3 := HT3.own HO.out hg0 hg1'
        have B3 := hide (hbl.out.trans (HT3.below (by omega) (by omega) hbl.out.size))
        have HD3 := hide hd3
        have z3 := HT3.size
        have zb := hbl.out.size
        clear hd3 ht3 HT2 HT3 SR HD2 HO hbl
        go_wp2_with (at_builtin; refine wpList_append_lies _ rfl _ _ 22 rfl w1.heap.size 5 i0 (.int .u8 0) 1 1 Tryz.underlying22 hi hz0 hz1 hz2 rfl (by omega) (.slice ba b.length bcap) b.length (b.map byteV) rfl (O3.alloc _) ⟨w3.heap.size, 0, none⟩ 1 1 [.int .u8 (y : Int)] rfl rfl (one_cell w3 _ _) (one_oneCell .u8 _) (by omega) (by unfold maxLen; omega) (by omega) (by simp; omega) (w3.heap.size + 1) (by simp) ?_)
        intro g' cap' w9 hown' hg' _ _
        have hz9 := hg'.size
        simp at hz9
        have KB := hide (((Below.refl w1.heap.size w3).alloc (by omega) _).grown hg' (by simp; omega) (fun x hx => (O3.lt x hx).1))
        have R1 : w9.ownsRow w1.heap.size 5 1 (.slice (some ⟨g', 0, none⟩) (b.length + 1) cap') (b ++ [UInt8.ofNat y]).length ((b ++ [UInt8.ofNat y]).map byteV) := by
          rw [List.length_append, List.map_append]
          show w9.ownsRow w1.heap.size 5 1 _ (b.length + 1) (b.map byteV ++ [byteV (UInt8.ofNat y)])
          rw [byteV, ofNat_byte y hy8]; exact hown'
        have R2 := hide (B3.out.trans (KB.out.mono (by omega)))
        have R3 := hide (HD3.out.kept KB.out hgl hcl2)
        have R4 := hide (HK3.out.more (n := 17 * (many - k')) (by omega))
        have hl1 : (b ++ [UInt8.ofNat y]).length = b.length + 1 := by rw [List.length_append]; rfl
        clear hown' hg' KB O3 B3 HD3 HK3 hw8
        go_wp2_with fail
        go_roundw
        case rel => exact ⟨k', R.1, b ++ [UInt8.ofNat y], by omega, by rw [hl1]; omega, by rw [hl1]; omega, by omega, R1, HUB, R4, R3, R2⟩
        case measure => simp [lenV]; omega
      | true =>
        rw [hf] at SB
        have HDE := hide (show dnext (tbN t) st 0 = (step st.1 0 true, dx (tbN t) st.1 st.2 0) by unfold dnext; rw [hf])
        have HF0 := hide hf
        clear hf hok hd
        go_wp2_with fail
        refine SB.out.mono ?_
        rintro e w2 ⟨rfl, hd2, ht2⟩
        have HD2 := hide (show Dec w2 g gc t (dnext (tbN t) st 0).1 (dnext (tbN t) st 0).2 by rw [HDE.out]; exact hd2)
        have HT2 := hide ht2
        have SR := hide (spec_read g gc 6 300 _ 64 t (dnext (tbN t) st 0) w2 rfl (by omega) (by omega) HK2.out (by omega) (by omega) HD2.out (by omega))
        have hnn := readG_node (tbN t) 300 6 (dnext (tbN t) st 0) 1
        have HK3 := hide (readG_ok (tbN t) 300 6 (dnext (tbN t) st 0) 1 _ HK2.out)
        have HU1 := hide (unpackG_far (tbN t) many k' st b hlt HF0.out)
        have HU2 := hide (unpackG_match (tbN t) many k' st b hlt HF0.out)
        obtain ⟨R, hR⟩ : ∃ R, R = readG (tbN t) 300 6 (dnext (tbN t) st 0) 1 := ⟨_, rfl⟩
        rw [← hR] at SR hnn HK3 HU1 HU2
        obtain ⟨y, hy⟩ : ∃ y, y = R.2 - 64 := ⟨_, rfl⟩
        rw [← hy] at SR HU2
        have hy6 : y < 64 := by have h1 := hnn.2; have e : (1 + 1) * 2 ^ 6 = 128 := rfl; omega
        obtain ⟨M, hM⟩ : ∃ M, M = y + 3 := ⟨_, rfl⟩
        rw [← hM] at HU2
        have hM66 : M ≤ 66 := by omega
        have hyw : (3 : Int) + (y : Int) = (M : Int) := by omega
        have hyw2 : IntKind.i64.wrap ((3 : Int) + (y : Int)) = (M : Int) := by rw [IntKind.wrap_i64]; omega
        have hM3 : 3 ≤ M := by omega
        clear hM hd2 ht2 hR hy hnn SB HDE HK2
        go_wp2_with fail
        refine SR.out.mono ?_
        rintro e w3 ⟨rfl, hd3, ht3⟩
        have HD3 := hide hd3
        have HT3 := hide (HT2.out.trans ht3)
        have SR2 := hide (spec_read g gc 10 400 _ 1024 t R.1 w3 rfl (by omega) (by omega) HK3.out (by omega) (by omega) HD3.out (by omega))
        have hnn := readG_node (tbN t) 400 10 R.1 1
        have HK4 := hide (readG_ok (tbN t) 400 10 R.1 1 _ HK3.out)
        obtain ⟨R2, hR⟩ : ∃ R2, R2 = readG (tbN t) 400 10 R.1 1 := ⟨_, rfl⟩
        rw [← hR] at SR2 hnn HK4 HU1 HU2
        obtain ⟨f, hf⟩ : ∃ f, f = R2.2 - 1024 := ⟨_, rfl⟩
        rw [← hf] at SR2 HU2 HU1
        have hf10 : f < 1024 := by have h1 := hnn.2; have e : (1 + 1) * 2 ^ 10 = 2048 := rfl; omega
        obtain ⟨F, hF⟩ : ∃ F, F = f + 1 := ⟨_, rfl⟩
        rw [← hF] at HU1 HU2
        have hF1 : 1 ≤ F := by omega
        have hF1024 : F ≤ 1024 := by omega
        have hfw : (1 : Int) + (f : Int) = (F : Int) := by omega
        have hfw2 : IntKind.i64.wrap ((1 : Int) + (f : Int)) = (F : Int) := by rw [IntKind.wrap_i64]; omega
        clear hF hd3 ht3 hR hf hnn SR HT2 HD2 HK3
        go_wp2_with fail
        refine SR2.out.mono ?_
        rintro e w4 ⟨rfl, hd4, ht4⟩
        have HT4 := HT3.out.trans ht4
        have hg0 : (Value.slice ba b.length bcap).ownBlock ≠ some g := fun e => by have := (HO.out.lt _ e).1; omega
        have hg1' : (Value.slice ba b.length bcap).ownBlock ≠ some gc := fun e => by have := (HO.out.lt _ e).1; omega
        have O4 := hide (HT4.own HO.out hg0 hg1')
        have B4 := hide (hbl.out.trans (HT4.below (by omega) (by omega) hbl.out.size))
        have HD4 := hide hd4
        have z4 := HT4.size
        have zb := hbl.out.size
        clear hd4 ht4 HT3 HT4 SR2 HD3 HO hbl hg0 hg1'
        by_cases hl : b.length < F
        · have hl' : (b.length : Int) < (F : Int) := by omega
          have dl : decide ((b.length : Int) < (F : Int)) = true := decide_eq_true hl'
          have dlN : decide (b.length < F) = true := decide_eq_true hl
          have HUN := hide (show unpO t many = (⟨#[]⟩, false) by rw [HUE.out, ← hue.out, HU1.out hl]; rfl)
          clear HU1 HU2 hue HUE O4 HD4
          go_wp2_with fail
          go_ret2
          exact ⟨by rw [HUN.out]; rfl, B4.out⟩
        · have hl' : ¬ (b.length : Int) < (F : Int) := by omega
          have dl : decide ((b.length : Int) < (F : Int)) = false := decide_eq_false hl'
          have dlN : decide (b.length < F) = false := decide_eq_false hl
          have HUX := hide (show unpackG (tbN t) many k' R2.1 (copyN F M b) = U by rw [← hue.out, HU2.out hl])
          clear HU1 HU2 hue
          go_wp2_with fail
          clear hyw hyw2 hfw hfw2 hy6 hf10 dl dlN
          have Z4 : w1.heap.size ≤ w4.heap.size := by omega
          go_loopw [7, 8] (fun bv i wx => ∃ c : Nat, c ≤ M ∧ i = .int .i64 ((M : Int) - (c : Int)) ∧ w1.heap.size ≤ wx.heap.size ∧ wx.ownsRow w1.heap.size 5 1 bv (b.length + c) ((copyN F c b).map byteV) ∧ Hid (Dec wx g gc t R2.1.1 R2.1.2) ∧ Hid (Below w.heap.size w wx)) (fun _ i _ => (intOf i).toNat)
          case atStart => exact ⟨0, by omega, by go_num, Z4, O4.out, HD4, B4⟩
          case round =>
            clear O4 HD4 B4 Z4
            obtain ⟨c, hc, rfl, hsz2, hown, hdx, hbl⟩ := hrel
            obtain ⟨d, hd⟩ : ∃ d, d = M - c := ⟨_, rfl⟩
            have ed : (M : Int) - (c : Int) = (d : Int) := by omega
            rw [ed]
            by_cases hcM : c < M
            · have hd0 : (0 : Int) < (d : Int) := by omega
              have hd66 : (d : Int) ≤ 66 := by omega
              obtain ⟨n, hn⟩ : ∃ n, n = b.length + c := ⟨_, rfl⟩
              obtain ⟨p, hp⟩ : ∃ p, p = n - F := ⟨_, rfl⟩
              have hpn : p < n := by omega
              have hpn' : (p : Int) < (n : Int) := by omega
              have s1 : (n : Int) - (F : Int) = (p : Int) := by omega
              have s1w : IntKind.i64.wrap ((n : Int) - (F : Int)) = (p : Int) := by simp only [IntKind.wrap_i64]; omega
              have hnb : (n : Int) ≤ 20132 := by omega
              rw [← hn] at hown
              obtain ⟨go, ocap, hv, hoc⟩ : ∃ go cap, u7 = .slice (some ⟨go, 0, none⟩) n cap ∧ n ≤ cap := by
                obtain ⟨_, ⟨_, e0⟩ | ⟨g, cap, cur, e, _, _, h, _⟩⟩ := hown
                · omega
                · exact ⟨g, cap, e, h⟩
              subst hv
              have hlc : (copyN F c b).length = n := by rw [copyN_len, hn]
              obtain ⟨y, hy⟩ : ∃ y, y = (copyN F c b).getD p 0 := ⟨_, rfl⟩
              have hcell : wr.cell? ⟨go, p, none⟩ = some (.int .u8 (y.toNat : Int)) := by
                rw [hown.cellAt p (by omega), List.getElem?_map, hy, List.getD_eq_getElem?_getD, List.getElem?_eq_getElem (by omega)]; rfl
              have HCP := hide (show copyN F (c + 1) b = copyN F c b ++ [y] by rw [copyN_more, hlc, ← hp, ← hy])
              have hy8 := y.toNat_lt
              have HN := hide hn
              have HD := hide hd
              clear hlc hy hn hp hd ed
              go_wp2_with (at_builtin; refine wpList_append_lies _ rfl _ _ 22 rfl w1.heap.size 5 i0 (.int .u8 0) 1 1 Tryz.underlying22 hi hz0 hz1 hz2 rfl (by omega) (.slice (some ⟨go, 0, none⟩) n ocap) n _ rfl (hown.alloc _) ⟨wr.heap.size, 0, none⟩ 1 1 [.int .u8 (y.toNat : Int)] rfl rfl (one_cell wr _ _) (one_oneCell .u8 _) (by omega) (by unfold maxLen; omega) (by omega) (by simp; omega) (wr.heap.size + 1) (by simp) ?_)
              intro g' cap' w9 hown' hg' _ _
              have hz9 := hg'.size
              simp at hz9
              have KB := hide (((Below.refl w1.heap.size wr).alloc (by omega) _).grown hg' (by simp; omega) (fun x hx => (hown.lt x hx).1))
              have R1 : w9.ownsRow w1.heap.size 5 1 (.slice (some ⟨g', 0, none⟩) (n + 1) cap') (b.length + (c + 1)) ((copyN F (c + 1) b).map byteV) := by
                rw [HCP.out, List.map_append, show b.length + (c + 1) = n + 1 by have := HN.out; omega]; exact hown'
              have Rb := hide (hbl.out.trans (KB.out.mono (by omega)))
              have Rd := hide (hdx.out.kept KB.out hgl hcl2)
              have Rz : w1.heap.size ≤ w9.heap.size := by omega
              have HD1 := hide (show (d : Int) - 1 = (M : Int) - ((c + 1 : Nat) : Int) by have := HD.out; omega)
              clear hown' hg' hown hbl hcell HCP KB hdx hz9
              go_wp2_with fail
              go_roundw
              case rel => exact ⟨c + 1, by omega, by rw [← HD1.out], Rz, R1, Rd, Rb⟩
              case measure => simp [intOf]; omega
            · have hd0 : ¬ (0 : Int) < (d : Int) := by omega
              have ecM : c = M := by omega
              have HO := hide (show wr.ownsRow w1.heap.size 5 1 u7 (copyN F M b).length ((copyN F M b).map byteV) by
                rw [copyN_len, ← ecM]; exact hown)
              have hl9 : (copyN F M b).length = b.length + M := copyN_len F M b
              have HO' := HO.out
              have R4 := hide (HK4.out.more (n := 17 * (many - k')) (by omega))
              have hlv : lenV u7 = b.length + M := by
                obtain ⟨a9, c9, e9, _⟩ := own_form HO'
                rw [e9]; exact hl9
              clear hown ecM ed hd HO
              go_wp2_with fail
              go_roundw
              case rel => exact ⟨k', R2.1, copyN F M b, by omega, by omega, by omega, hsz2, HO', HUX, R4, hdx, hbl⟩
              case measure => rw [hlv]; simp [lenV]; omega
    · have hlt' : ¬ (b.length : Int) < (many : Int) := by omega
      have hcv := own_conv (P := Tryz.prog) hown Tryz.underlying22 Tryz.underlying5 Tryz.underlying9
      obtain ⟨X, hX⟩ : ∃ X : ByteArray, X = ⟨b.toArray⟩ := ⟨_, rfl⟩
      have HUN := hide (show unpO t many = (X, decide (b.length = many)) by rw [HUE.out, ← hue.out, unpackG_done _ _ _ _ _ hlt, hX]; rfl)
      rw [← hX] at hcv
      clear hX hown hue hok hd
      cases hq : decide (b.length = many) with
      | true =>
        rw [hq] at HUN
        have hnm : b.length = many := of_decide_eq_true hq
        have dN : (b.length == many) = true := by rw [hnm]; exact beq_self_eq_true _
        have dI : ((b.length : Int) == (many : Int)) = true := by rw [hnm]; exact beq_self_eq_true _
        have dI2 : decide ((b.length : Int) = (many : Int)) = true := decide_eq_true (by omega)
        clear hnm
        go_wp2_with fail
        go_ret2
        exact ⟨by rw [HUN.out]; rfl, hbl.out⟩
      | false =>
        rw [hq] at HUN
        have hnm : ¬ b.length = many := of_decide_eq_false hq
        have dN : (b.length == many) = false := by rw [beq_eq_false_iff_ne]; exact hnm
        have dI : ((b.length : Int) == (many : Int)) = false := by rw [beq_eq_false_iff_ne]; omega
        have dI2 : decide ((b.length : Int) = (many : Int)) = false := decide_eq_false (by omega)
        go_wp2_with fail
        go_ret2
        exact ⟨by rw [HUN.out]; rfl, hbl.out⟩
end Go.Proofs.YtconcnndghmdfaaGreatDoor
namespace Go.Proofs.YtconcnndghmdfaaGreatDoor
open Go Go.RowKit

/-- From the byte number k on, u read so far: the code (0, 3 or 4), the number, how many bytes. -/
def dec (k u : Nat) : List UInt8 → Nat × Nat × Nat
  | [] => (4, 0, 0)
  | b :: l =>
    if k = 9 ∧ 1 < b.toNat then (3, 0, 0)
    else if b.toNat < 128 then (if b.toNat = 0 ∧ 0 < k then (3, 0, 0) else (0, u + b.toNat % 128 * 2 ^ (7 * k), k + 1))
    else dec (k + 1) (u + b.toNat % 128 * 2 ^ (7 * k)) l

/-- What stands at that place of the text. -/
def decAt (s : ByteArray) (q : Nat) : Nat × Nat × Nat := dec 0 0 (s.data.toList.drop q)

theorem dec_short (s : ByteArray) (q k u : Nat) (T : Nat × Nat × Nat) (h : s.size ≤ q + k) (hd : dec k u (s.data.toList.drop (q + k)) = T) : T = (4, 0, 0) := by
  rw [List.drop_eq_nil_of_le (by simpa using h)] at hd; rw [← hd]; rfl
theorem drop_at (s : ByteArray) (i : Nat) (h : i < s.size) : s.data.toList.drop i = s[i] :: s.data.toList.drop (i + 1) := by
  have h' : i < s.data.toList.length := by simpa using h
  rw [List.drop_eq_getElem_cons h']; rfl
theorem dec_more (s : ByteArray) (q k u : Nat) (T : Nat × Nat × Nat) (h : q + k < s.size) (hk : k < 9) (hb : 128 ≤ s[q + k].toNat) (hd : dec k u (s.data.toList.drop (q + k)) = T) :
    dec (k + 1) (u + s[q + k].toNat % 128 * 2 ^ (7 * k)) (s.data.toList.drop (q + (k + 1))) = T := by
  rw [drop_at s _ h, dec, if_neg (by omega), if_neg (by omega)] at hd
  exact hd
theorem dec_bad (s : ByteArray) (q k u : Nat) (T : Nat × Nat × Nat) (h : q + k < s.size) (hb : (k = 9 ∧ 1 < s[q + k].toNat) ∨ (0 < k ∧ s[q + k].toNat = 0)) (hd : dec k u (s.data.toList.drop (q + k)) = T) : T = (3, 0, 0) := by
  rw [drop_at s _ h, dec] at hd
  rcases hb with hb | hb
  · rw [if_pos hb] at hd; exact hd.symm
  · rw [if_neg (by omega), if_pos (by omega), if_pos (by omega)] at hd; exact hd.symm
theorem dec_good (s : ByteArray) (q k u : Nat) (T : Nat × Nat × Nat) (h : q + k < s.size) (hb : s[q + k].toNat < 128) (h9 : k = 9 → s[q + k].toNat ≤ 1) (h0 : 0 < k → s[q + k].toNat ≠ 0) (hd : dec k u (s.data.toList.drop (q + k)) = T) :
    T = (0, u + s[q + k].toNat % 128 * 2 ^ (7 * k), k + 1) := by
  rw [drop_at s _ h, dec, if_neg (by omega), if_pos hb, if_neg (by omega)] at hd; exact hd.symm

theorem pow_le9 (k : Nat) (h : k ≤ 9) : 2 ^ (7 * k) ≤ 9223372036854775808 := by
  have : 2 ^ (7 * k) ≤ 2 ^ 63 := Nat.pow_le_pow_right (by decide) (by omega)
  exact Nat.le_trans this (by decide)
theorem next_lt (u c k : Nat) (hu : u < 2 ^ (7 * k)) : u + c % 128 * 2 ^ (7 * k) < 2 ^ (7 * (k + 1)) := by
  have e : 2 ^ (7 * (k + 1)) = 128 * 2 ^ (7 * k) := by rw [show 7 * (k + 1) = 7 * k + 7 from by omega, Nat.pow_add, Nat.mul_comm]
  have h1 : c % 128 * 2 ^ (7 * k) + 2 ^ (7 * k) ≤ 128 * 2 ^ (7 * k) := by
    have := Nat.mul_le_mul_right (2 ^ (7 * k)) (show c % 128 + 1 ≤ 128 by omega)
    rw [Nat.add_mul, Nat.one_mul] at this; exact this
  omega
theorem next_fits (u c k : Nat) (hk : k ≤ 9) (hu : u < 2 ^ (7 * k)) (h9 : k = 9 → c ≤ 1) : u + c % 128 * 2 ^ (7 * k) < 18446744073709551616 := by
  by_cases h : k = 9
  · subst h
    have := h9 rfl
    have e : (2 : Nat) ^ (7 * 9) = 9223372036854775808 := by decide
    rw [e] at *
    have : c % 128 ≤ 1 := by omega
    omega
  · have h1 := next_lt u c k hu
    have h2 := pow_le9 (k + 1) (by omega)
    omega

theorem wrap_u64_in (n : Int) (h0 : 0 ≤ n) (h1 : n < 18446744073709551616) : IntKind.u64.wrap n = n := by rw [IntKind.wrap_u64]; omega

/-- The byte's bits laid upon what is there. -/
theorem or_step (u c k : Nat) (hk : k ≤ 9) (hu : u < 2 ^ (7 * k)) (h9 : k = 9 → c ≤ 1) :
    bits .or .u64 (u : Int) (IntKind.u64.wrap (((c : Int) % 128) * 2 ^ (7 * k))) = ((u + c % 128 * 2 ^ (7 * k) : Nat) : Int) := by
  have hf := next_fits u c k hk hu h9
  have e : ((c : Int) % 128) * 2 ^ (7 * k) = ((c % 128 * 2 ^ (7 * k) : Nat) : Int) := by
    rw [Int.natCast_mul, Int.natCast_pow, Int.natCast_emod]; rfl
  rw [e, wrap_u64_in _ (by omega) (by omega), bits_or_u64_nat _ _ (by omega) (by omega)]
  have h := Nat.two_pow_add_eq_or_of_lt hu (c % 128)
  rw [Nat.or_comm, Nat.mul_comm (c % 128) (2 ^ (7 * k)), ← h]
  rw [Nat.add_comm]

/-- The number that u folds. -/
def unfold (u : Nat) : Int := if u % 2 = 1 then -((u / 2 : Nat) : Int) - 1 else ((u / 2 : Nat) : Int)

theorem xor_i64_zero (a : Int) (h0 : 0 ≤ a) (h1 : a < 9223372036854775808) : bits .xor .i64 a 0 = a := by
  obtain ⟨n, rfl⟩ := Int.eq_ofNat_of_zero_le h0
  have h : (BitVec.ofInt 64 (n : Int)).toNat = n := by
    rw [BitVec.ofInt_natCast, BitVec.toNat_ofNat]; exact Nat.mod_eq_of_lt (by omega)
  show IntKind.i64.wrap ((BitVec.ofInt 64 (n : Int) ^^^ BitVec.ofInt 64 0).toNat : Int) = _
  have e : BitVec.ofInt 64 0 = 0#64 := by decide
  rw [e, BitVec.xor_zero, h, IntKind.wrap_i64]
  omega
theorem xor_i64_ones (a : Int) (h0 : 0 ≤ a) (h1 : a < 9223372036854775808) : bits .xor .i64 a (-1) = -a - 1 := by
  obtain ⟨n, rfl⟩ := Int.eq_ofNat_of_zero_le h0
  have h : (BitVec.ofInt 64 (n : Int)).toNat = n := by
    rw [BitVec.ofInt_natCast, BitVec.toNat_ofNat]; exact Nat.mod_eq_of_lt (by omega)
  show IntKind.i64.wrap ((BitVec.ofInt 64 (n : Int) ^^^ BitVec.ofInt 64 (-1)).toNat : Int) = _
  have e : BitVec.ofInt 64 (-1) = BitVec.allOnes 64 := by decide
  rw [e, BitVec.xor_allOnes, BitVec.toNat_not, h, IntKind.wrap_i64]
  have e2 : (2 : Nat) ^ 64 - 1 - n = 18446744073709551615 - n := by omega
  rw [e2]
  omega
theorem wraps64' (n : Int) (h₀ : 0 ≤ n) (h₁ : n < 2 ^ 64) : IntKind.u64.wrap n = n := by rw [IntKind.wrap_u64]; omega
theorem u64_and1 (x : Int) (h₀ : 0 ≤ x) (h₁ : x < 18446744073709551616) : bits .and .u64 x 1 = x % 2 := bits_mask .u64 64 (by decide) wraps64' 1 (by decide) x h₀ h₁
theorem unfold_xor (U : Nat) (h : U < 18446744073709551616) : bits .xor .i64 ((U : Int) / 2) (-((U : Int) % 2)) = unfold U := by
  unfold unfold
  by_cases h1 : U % 2 = 1
  · rw [if_pos h1, show -((U : Int) % 2) = -1 from by omega, xor_i64_ones _ (by omega) (by omega)]
    omega
  · rw [if_neg h1, show -((U : Int) % 2) = 0 from by omega, xor_i64_zero _ (by omega) (by omega)]
    omega
end Go.Proofs.YtconcnndghmdfaaGreatDoor
namespace Go.Proofs.YtconcnndghmdfaaGreatDoor
open Go.RowKit

/-- A NumOut. -/
def numOut (n a c : Int) : Value := .agg #[.int .i64 n, .int .i64 a, .int .i64 c]

theorem dec_form (l : List UInt8) : ∀ k u, (∃ U m, dec k u l = (0, U, m) ∧ m ≤ k + l.length) ∨ dec k u l = (3, 0, 0) ∨ dec k u l = (4, 0, 0) := by
  induction l with
  | nil => intro k u; exact .inr (.inr rfl)
  | cons b l ih =>
    intro k u
    rw [dec]
    split
    · exact .inr (.inl rfl)
    · split
      · split
        · exact .inr (.inl rfl)
        · exact .inl ⟨_, _, rfl, by simp⟩
      · rcases ih (k + 1) (u + b.toNat % 128 * 2 ^ (7 * k)) with ⟨U, m, h, hm⟩ | h | h
        · exact .inl ⟨U, m, h, by simp; omega⟩
        · exact .inr (.inl h)
        · exact .inr (.inr h)
theorem decAt_form (s : ByteArray) (q : Nat) : (∃ U m, decAt s q = (0, U, m) ∧ m ≤ s.size - q) ∨ decAt s q = (3, 0, 0) ∨ decAt s q = (4, 0, 0) := by
  rcases dec_form (s.data.toList.drop q) 0 0 with ⟨U, m, h, hm⟩ | h | h
  · exact .inl ⟨U, m, h, by simpa using hm⟩
  · exact .inr (.inl h)
  · exact .inr (.inr h)

end Go.Proofs.YtconcnndghmdfaaGreatDoor
namespace Go.Proofs.YtconcnndghmdfaaGreatDoor
open Go

/-- As Q; by a goto to label l: J l. -/
def jumps (J : Nat → Act → World → Prop) (Q : Exit → Act → World → Prop) : Exit → Act → World → Prop
  | .goto l, a, w => J l a w
  | e, a, w => Q e a w

theorem wp_scope_labels {P : Program} {a : Act} {w : World} {Q : Exit → Act → World → Prop} {c : Code} (J : Nat → Act → World → Prop) (μ : Nat → Act → World → Nat)
    (first : c.wp P (jumps J Q) a w)
    (pass : ∀ l a w, J l a w → ∃ rest, findLabel c l = some rest ∧ rest.wp P (jumps (fun l' a' w' => J l' a' w' ∧ μ l' a' w' < μ l a w) Q) a w) : (Code.scope c).wp P Q a w := by
  intro b k cs
  have key : ∀ n l a w, μ l a w = n → J l a w → ∃ rest, gotoIn l (.inScope c :: k) = some (.code rest :: .inScope c :: k) ∧
      ∃ e a' w', Q e a' w' ∧ Arrives P (lone (b.at a (.code rest :: .inScope c :: k)) cs w) b k cs e a' w' := by
    intro n
    induction n using Nat.strongRecOn with
    | _ n ih =>
      intro l a w hn hJ
      obtain ⟨rest, hf, hp⟩ := pass l a w hJ
      refine ⟨rest, by simp [gotoIn, hf], ?_⟩
      obtain ⟨e, a₁, w₁, hq, harr⟩ := hp b (.inScope c :: k) cs
      cases e with
      | normal => exact ⟨.normal, a₁, w₁, hq, Steps.trans harr (.one step_inScope)⟩
      | exit id => exact ⟨.exit id, a₁, w₁, hq, fun k' hk => harr k' (by simp [exitTo, hk])⟩
      | goto l' =>
        obtain ⟨hJ', hlt⟩ := hq
        obtain ⟨rest', hg', e₂, a₂, w₂, hq₂, harr₂⟩ := ih _ (by omega) l' a₁ w₁ rfl hJ'
        exact ⟨e₂, a₂, w₂, hq₂, .of_steps (harr _ hg') harr₂⟩
      | ret => exact ⟨_, a₁, w₁, hq, harr⟩
      | panic ch => exact ⟨_, a₁, w₁, hq, harr⟩
      | outgrown => exact ⟨_, a₁, w₁, hq, harr⟩
  obtain ⟨e, a₁, w₁, hq, harr⟩ := first b (.inScope c :: k) cs
  cases e with
  | normal => exact ⟨.normal, a₁, w₁, hq, .head step_scope (Steps.trans harr (.one step_inScope))⟩
  | exit id => exact ⟨.exit id, a₁, w₁, hq, fun k' hk => .head step_scope (harr k' (by simp [exitTo, hk]))⟩
  | goto l' =>
    obtain ⟨rest', hg', e₂, a₂, w₂, hq₂, harr₂⟩ := key _ l' a₁ w₁ rfl hq
    exact ⟨e₂, a₂, w₂, hq₂, .of_steps (.head step_scope (harr _ hg')) harr₂⟩
  | ret => exact ⟨_, a₁, w₁, hq, .of_steps (.one step_scope) harr⟩
  | panic ch => exact ⟨_, a₁, w₁, hq, .of_steps (.one step_scope) harr⟩
  | outgrown => exact ⟨_, a₁, w₁, hq, .of_steps (.one step_scope) harr⟩

theorem jumps_goto {J : Nat → Act → World → Prop} {Q : Exit → Act → World → Prop} {l : Nat} {a : Act} {w : World} : jumps J Q (.goto l) a w = J l a w := rfl
theorem jumps_ret {J : Nat → Act → World → Prop} {Q : Exit → Act → World → Prop} {a : Act} {w : World} : jumps J Q .ret a w = Q .ret a w := rfl
end Go.Proofs.YtconcnndghmdfaaGreatDoor

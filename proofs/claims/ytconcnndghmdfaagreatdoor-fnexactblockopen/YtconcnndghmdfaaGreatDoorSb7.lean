/- Put together: AesK, AesC. -/
import Derived.Test.YtconcnndghmdfaaGreatDoorSb4
import Derived.Test.YtconcnndghmdfaaGreatDoorSb5
import Derived.Test.YtconcnndghmdfaaGreatDoorSb6
import Derived.BigRegion
import Derived.Deep.RegionHeld3
import Derived.Deep.DeepCutAuto
namespace Go.Proofs.YtconcnndghmdfaaGreatDoor
open Go.RowKit
def keyF (key : ByteArray) (j : Nat) : UInt8 := key.data.toList.getD j 0
theorem key_kL (key : ByteArray) (h : key.size = 16) : key.data.toList = kL (keyF key) 16 := by
  apply List.ext_getElem?
  intro j
  by_cases hj : j < 16
  · rw [kL_at _ _ _ hj, kB_lo _ _ hj, keyF, List.getD_eq_getElem?_getD]
    have : j < key.data.toList.length := by have e : key.data.toList.length = key.size := rfl; omega
    rw [List.getElem?_eq_getElem this]; rfl
  · rw [List.getElem?_eq_none (by have e : key.data.toList.length = key.size := rfl; omega), List.getElem?_eq_none (by rw [kL_len]; omega)]
/-- The word in front of word i. -/
def fore (K : Nat → UInt8) (n4 : Nat) : List UInt8 := [kB K n4, kB K (n4 + 1), kB K (n4 + 2), kB K (n4 + 3)]
theorem fore_cells {w : World} {base g n cap n4 : Nat} {K : Nat → UInt8} (h : hasRow w base (.slice (some ⟨g, 0, none⟩) n cap) (kL K n)) (hn : n4 + 4 = n) : ∀ j u, ((fore K n4).map byteV)[j]? = some u → w.cell? ((⟨g, n4, none⟩ : Addr).add j) = some u := by
  intro j u hu
  rw [Addr.add_lit]
  match j, hu with
  | 0, hu => simp [fore] at hu; subst hu; exact h.cell n4 _ (kL_at K n n4 (by omega))
  | 1, hu => simp [fore] at hu; subst hu; exact h.cell (n4 + 1) _ (kL_at K n (n4 + 1) (by omega))
  | 2, hu => simp [fore] at hu; subst hu; exact h.cell (n4 + 2) _ (kL_at K n (n4 + 2) (by omega))
  | 3, hu => simp [fore] at hu; subst hu; exact h.cell (n4 + 3) _ (kL_at K n (n4 + 3) (by omega))
/-- The word in front, turned: what its block holds. -/
theorem turned_word (w : World) (T : Nat) (K : Nat → UInt8) (i n4 : Nat) (a0 a1 a2 a3 : UInt8) (rc : Nat) (h4 : i % 4 = 0) (hi : 4 ≤ i) (hn : n4 = 4 * i - 4) (ha : a0 = kB K n4 ∧ a1 = kB K (n4 + 1) ∧ a2 = kB K (n4 + 2) ∧ a3 = kB K (n4 + 3)) (hrc : rc = rcN ((i - 1) / 4)) :
    ∀ r, r < 4 → (w.alloc (.cells #[.int .u8 (((sbox a1.toNat ^^^ UInt8.ofNat rc).toNat : Nat) : Int), .int .u8 ((sbox a2.toNat).toNat : Int), .int .u8 ((sbox a3.toNat).toNat : Int), .int .u8 ((sbox a0.toNat).toNat : Int)] T)).drew.cell? ⟨w.heap.size, r, none⟩ = some (.int .u8 ((tB K i r).toNat : Int)) := by
  intro r hr
  obtain ⟨e0, e1, e2, e3⟩ := ha
  have hm : n4 = 4 * (i - 1) := by omega
  have hq : (i - 1) / 4 = i / 4 - 1 := by omega
  have hc := cell_of_row (w.alloc (.cells #[.int .u8 (((sbox a1.toNat ^^^ UInt8.ofNat rc).toNat : Nat) : Int), .int .u8 ((sbox a2.toNat).toNat : Int), .int .u8 ((sbox a3.toNat).toNat : Int), .int .u8 ((sbox a0.toNat).toNat : Int)] T)).drew w.heap.size r _ _ _ (heap_alloc_new w _)
  rw [hc, tB, if_pos h4]
  match r, hr with
  | 0, _ => rw [if_pos rfl, hrc, hq, e1, hm]; rfl
  | 1, _ => rw [if_neg (by omega), e2, hm, UInt8.xor_zero]; rfl
  | 2, _ => rw [if_neg (by omega), e3, hm, UInt8.xor_zero]; rfl
  | 3, _ => rw [if_neg (by omega), e0, hm, UInt8.xor_zero]; rfl
set_option maxRecDepth 100000 in
set_option maxHeartbeats 1600000 in
theorem spec_keysA (key : ByteArray) (gb : Nat) (w : World) (hk : key.size = 16) (hgb : gb < w.heap.size) (hbox : w.rowIs gb 5 256 (u8V sbox)) :
    Calls Tryz.prog 91 #[.string key, .slice (some ⟨gb, 0, none⟩) 256 256] w fun e w' => ∃ g cap, e = .returned (.slice (some ⟨g, 0, none⟩) 176 cap) ∧ hasRow w' w.heap.size (.slice (some ⟨g, 0, none⟩) 176 cap) (kL (keyF key) 176) ∧ Below w.heap.size w w' := by
  have HB := hide hbox
  clear hbox
  have HK := hide (key_kL key hk)
  obtain ⟨i0, hi, hz0, hz1, hz2⟩ := info_parts Tryz.infoB8
  have hcv := fun (w : World) => run_bytes_of_string (P := Tryz.prog) w 9 22 5 key Tryz.underlying9 Tryz.underlying22 Tryz.underlying5
  have hcap := grownCap_ge w key.size 0 5
  have hrow0 := hide (hasRow.of_text w.drew w.heap.size 5 (grownCap w key.size 0 5) key hcap (Nat.le_refl _))
  have hbl0 := hide ((Below.refl w.heap.size w).drew.alloc (Nat.le_refl _) (.cells (bytesRow key (grownCap w key.size 0 5)) 5 ((bytesRow key (grownCap w key.size 0 5)).size, (bytesRow key (grownCap w key.size 0 5)).size + 1)))
  rw [HK.out] at hrow0
  obtain ⟨K, hK⟩ : ∃ K, K = keyF key := ⟨_, rfl⟩
  rw [← hK] at hrow0 ⊢
  clear hK HK
  rw [hk] at hcv hcap hrow0 hbl0
  go_enter Tryz.func91, Tryz.ntmps91
  go_wp2_with fail
  clear hcv hcap
  go_loopw [5, 6, 7] (fun v rc i wx => ∃ i' n g cap : Nat, 4 ≤ i' ∧ i' ≤ 44 ∧ n = 4 * i' ∧ i = .int .i64 i' ∧ v = .slice (some ⟨g, 0, none⟩) n cap ∧ rc = .int .i64 (rcN ((i' - 1) / 4) : Nat) ∧ hasRow wx w.heap.size (.slice (some ⟨g, 0, none⟩) n cap) (kL K n) ∧ Below w.heap.size w wx) (fun _ _ i _ => 44 - (intOf i).toNat)
  case atStart => exact ⟨4, 16, _, _, by omega, by omega, rfl, rfl, rfl, rfl, hrow0.out, hbl0.out⟩
  case round =>
    clear hrow0 hbl0
    obtain ⟨i', n, g, cap, hi4, hi44, hn, rfl, rfl, rfl, hr, hbl⟩ := hrel
    by_cases hlt : i' < 44
    · obtain ⟨n4, hn4⟩ : ∃ m, m = n - 4 := ⟨_, rfl⟩
      obtain ⟨_, hcapn, hgl⟩ := hr.facts
      have m0 : IntKind.i64.wrap (4 * (i' : Int)) = (n : Int) := by simp only [IntKind.wrap_i64]; omega
      have m1 : IntKind.i64.wrap ((n : Int) - 4) = (n4 : Int) := by simp only [IntKind.wrap_i64]; omega
      have hne : ¬ cap = n4 := by omega
      have e4 : n - n4 = 4 := by omega
      have hle : (n4 : Int) ≤ (n : Int) := by omega
      have hle2 : (n : Int) ≤ (cap : Int) := by omega
      have hfc := hide (fore_cells hr (show n4 + 4 = n by omega))
      have hfc2 := hide (show ∀ j u, ((fore K n4).map byteV)[j]? = some u → (wr.alloc (.cells #[] 5)).cell? ((⟨g, n4, none⟩ : Addr).add j) = some u from fun j u hu => by
        have h := hfc.out j u hu
        rw [Addr.add_lit] at h ⊢
        exact (World.cell?_alloc_past (w := wr) _ g (n4 + j) hgl.2).trans h)
      have hmade := hide (hasRow.made wr w.heap.size 5 _ (by omega) rfl)
      have HR := hide hr
      have HN := hide hn
      have HN4 := hide hn4
      have hnb : (n : Int) ≤ 176 := by omega
      clear hr hn hn4 hfc
      go_upto_if 27 with (at_builtin; refine wpList_append_hasrow rfl _ _ 22 rfl 5 i0 Tryz.underlying22 hi hz0 hz1 hz2 w.heap.size (.slice (some ⟨wr.heap.size, 0, none⟩) 0 0) [] rfl hmade.out ⟨g, n4, none⟩ _ (fore K n4) (by simp [fore]) rfl hfc2.out (by simp [fore]) (by simp; omega) ?_; intro gt capt w1 hrt hg1 hat)
      have hgt : w.heap.size ≤ gt ∧ gt < w1.heap.size ∧ gt ≠ g := by
        obtain ⟨_, _, h1, h2⟩ := hrt.facts
        refine ⟨h1, h2, ?_⟩
        rcases hat with h | h
        · have e : wr.heap.size = gt := by simpa [Value.ownBlock] using h
          omega
        · have e : gt = wr.heap.size + 1 := by simpa using h.1
          omega
      have hg1' : (wr.alloc (.cells #[] 5)).grownBy w1 (some wr.heap.size) := hg1
      have HR1 := hide ((HR.out.alloc (.cells #[] 5)).kept hg1' (by intro e; have e2 : g = wr.heap.size := (by simpa [Value.ownBlock] using e); omega))
      have hbl1 := hide (((hbl.alloc hbl.size (.cells #[] 5)).grown hg1' (by simp; have := hbl.size; omega) (fun k hk => by cases hk; exact hbl.size)))
      have hrt' := hide (show hasRow w1 w.heap.size (.slice (some ⟨gt, 0, none⟩) 4 capt) (fore K n4) from hrt)
      have hbx := hide (HB.out.of_block (hbl1.out.block gb hgb))
      clear hrt hg1 hg1' hat HR hfc2 hmade hbl m1 hne e4 hle hle2
      go_cut [6, 8] (fun rc t wx => ∃ gt2 cap2 : Nat, rc = .int .i64 (rcN (i' / 4) : Nat) ∧ t = .slice (some ⟨gt2, 0, none⟩) 4 cap2 ∧ gt2 ≠ g ∧ gt2 < wx.heap.size ∧ Hid (∀ r, r < 4 → wx.cell? ⟨gt2, r, none⟩ = some (.int .u8 ((tB K i' r).toNat : Int))) ∧ Hid (hasRow wx w.heap.size (.slice (some ⟨g, 0, none⟩) n cap) (kL K n)) ∧ Hid (Below w.heap.size w wx))
      case first =>
        by_cases h4 : i' % 4 = 0
        · have h4' : (i' : Int) % 4 = 0 := by omega
          have fl : (fore K n4).length = 4 := rfl
          have ct0 := hrt'.out.cell 0 (kB K n4) rfl
          have ct1 := hrt'.out.cell 1 (kB K (n4 + 1)) rfl
          have ct2 := hrt'.out.cell 2 (kB K (n4 + 2)) rfl
          have ct3 := hrt'.out.cell 3 (kB K (n4 + 3)) rfl
          obtain ⟨a0, ea0⟩ : ∃ a, a = kB K n4 := ⟨_, rfl⟩
          obtain ⟨a1, ea1⟩ : ∃ a, a = kB K (n4 + 1) := ⟨_, rfl⟩
          obtain ⟨a2, ea2⟩ : ∃ a, a = kB K (n4 + 2) := ⟨_, rfl⟩
          obtain ⟨a3, ea3⟩ : ∃ a, a = kB K (n4 + 3) := ⟨_, rfl⟩
          rw [← ea0] at ct0
          rw [← ea1] at ct1
          rw [← ea2] at ct2
          rw [← ea3] at ct3
          have HA := hide (show a0 = kB K n4 ∧ a1 = kB K (n4 + 1) ∧ a2 = kB K (n4 + 2) ∧ a3 = kB K (n4 + 3) from ⟨ea0, ea1, ea2, ea3⟩)
          clear ea0 ea1 ea2 ea3
          obtain ⟨s0, es0⟩ : ∃ x, x = sbox a0.toNat := ⟨_, rfl⟩
          obtain ⟨s1, es1⟩ : ∃ x, x = sbox a1.toNat := ⟨_, rfl⟩
          obtain ⟨s2, es2⟩ : ∃ x, x = sbox a2.toNat := ⟨_, rfl⟩
          obtain ⟨s3, es3⟩ : ∃ x, x = sbox a3.toNat := ⟨_, rfl⟩
          have cb0 : w1.cell? ⟨gb, a0.toNat, none⟩ = some (.int .u8 (s0.toNat : Int)) := by rw [es0]; exact hbx.out.cell (i := a0.toNat) a0.toNat_lt
          have cb1 : w1.cell? ⟨gb, a1.toNat, none⟩ = some (.int .u8 (s1.toNat : Int)) := by rw [es1]; exact hbx.out.cell (i := a1.toNat) a1.toNat_lt
          have cb2 : w1.cell? ⟨gb, a2.toNat, none⟩ = some (.int .u8 (s2.toNat : Int)) := by rw [es2]; exact hbx.out.cell (i := a2.toNat) a2.toNat_lt
          have cb3 : w1.cell? ⟨gb, a3.toNat, none⟩ = some (.int .u8 (s3.toNat : Int)) := by rw [es3]; exact hbx.out.cell (i := a3.toNat) a3.toNat_lt
          have l0 : (a0.toNat : Int) < 256 := by have := a0.toNat_lt; omega
          have l1 : (a1.toNat : Int) < 256 := by have := a1.toNat_lt; omega
          have l2 : (a2.toNat : Int) < 256 := by have := a2.toNat_lt; omega
          have l3 : (a3.toNat : Int) < 256 := by have := a3.toNat_lt; omega
          have hrc := rcN_lt ((i' - 1) / 4)
          have HT3 := hide (fun rc h => turned_word w1 5 K i' n4 a0 a1 a2 a3 rc h4 hi4 (by rw [HN4.out, HN.out]) HA.out h)
          rw [← es0, ← es1, ← es2, ← es3] at HT3
          clear es0 es1 es2 es3
          obtain ⟨rc, erc⟩ : ∃ r, r = rcN ((i' - 1) / 4) := ⟨_, rfl⟩
          rw [← erc] at hrc ⊢
          have HRC := hide erc
          obtain ⟨rc2, erc2⟩ : ∃ r, r = rcN (i' / 4) := ⟨_, rfl⟩
          have HRC2 := hide (show times rc 2 = rc2 by rw [erc2, erc, show i' / 4 = (i' - 1) / 4 + 1 by omega, rcN])
          have HRC3 := hide erc2
          clear erc2
          clear erc
          have hrc' : (rc : Int) ≤ 255 := by omega
          have gt_ne : w1.heap.size ≠ g := by have := HR1.out.facts; omega
          go_wp2_with fail
          go_region_held3 (fun w' => (w'.cell? ⟨gt, 0, none⟩ = some (.int .u8 (a0.toNat : Int)) ∧ w'.cell? ⟨gt, 1, none⟩ = some (.int .u8 (a1.toNat : Int)) ∧ w'.cell? ⟨gt, 2, none⟩ = some (.int .u8 (a2.toNat : Int)) ∧ w'.cell? ⟨gt, 3, none⟩ = some (.int .u8 (a3.toNat : Int))) ∧ w'.cell? ⟨gb, a0.toNat, none⟩ = some (.int .u8 (s0.toNat : Int)) ∧ w'.cell? ⟨gb, a1.toNat, none⟩ = some (.int .u8 (s1.toNat : Int)) ∧ w'.cell? ⟨gb, a2.toNat, none⟩ = some (.int .u8 (s2.toNat : Int)) ∧ w'.cell? ⟨gb, a3.toNat, none⟩ = some (.int .u8 (s3.toNat : Int))) (go_keep) (fail)
          rename_i _ hH
          clear hH
          have hwr : IntKind.u8.wrap (rc : Int) = (rc : Int) := by rw [IntKind.wrap_u8]; omega
          have hx := r_xor8 s1 (UInt8.ofNat rc)
          have hrn : (UInt8.ofNat rc).toNat = rc := by rw [UInt8.toNat_ofNat']; exact Nat.mod_eq_of_lt hrc
          rw [hrn] at hx
          simp only [hwr, hx]
          clear hwr
          obtain ⟨gt2, W2, e1, e2, HT2, hblA, HRA, gt_lt, gt_ne⟩ : ∃ gt2 W2, gt2 = w1.heap.size ∧ W2 = (w1.alloc (.cells #[.int .u8 (((s1 ^^^ UInt8.ofNat rc).toNat : Nat) : Int), .int .u8 (s2.toNat : Int), .int .u8 (s3.toNat : Int), .int .u8 (s0.toNat : Int)] 5)).drew ∧ Hid (∀ r, r < 4 → W2.cell? ⟨gt2, r, none⟩ = some (.int .u8 ((tB K i' r).toNat : Int))) ∧ Hid (Below w.heap.size w W2) ∧ Hid (hasRow W2 w.heap.size (.slice (some ⟨g, 0, none⟩) n cap) (kL K n)) ∧ gt2 < W2.heap.size ∧ gt2 ≠ g :=
            ⟨_, _, rfl, rfl, HT3.out rc HRC.out, (hbl1.out.alloc hbl1.out.size _).drew, (HR1.out.alloc _).drew, by simp, gt_ne⟩
          rw [← e2, ← e1]
          clear hx hrn ct0 ct1 ct2 ct3 cb0 cb1 cb2 cb3 l0 l1 l2 l3 HA hrt' hbx hrc' e1 e2 HT3 hbl1 HR1
          go_wp2_with fail
          refine (spec_timesT rc 2 rc2 _ hrc (by omega) HRC2.out).mono ?_
          rintro e wx ⟨rfl, rfl⟩
          go_wp2_with fail
          go_meet
          case rel => exact ⟨gt2, 4, by rw [HRC3.out], rfl, gt_ne, gt_lt, HT2.out, HRA.out, hblA.out⟩
        · have h4' : ((i' : Int) % 4 == 0) = false := by simp; omega
          have HT2 := hide (show ∀ r, r < 4 → w1.cell? ⟨gt, r, none⟩ = some (.int .u8 ((tB K i' r).toNat : Int)) from fun r hr => by
            have e : tB K i' r = kB K (n4 + r) := by rw [tB, if_neg h4, HN4.out, HN.out]; congr 1; omega
            rw [e]
            match r, hr with
            | 0, _ => exact hrt'.out.cell 0 (kB K n4) rfl
            | 1, _ => exact hrt'.out.cell 1 (kB K (n4 + 1)) rfl
            | 2, _ => exact hrt'.out.cell 2 (kB K (n4 + 2)) rfl
            | 3, _ => exact hrt'.out.cell 3 (kB K (n4 + 3)) rfl)
          go_wp2_with fail
          go_meet
          case rel => exact ⟨gt, capt, by rw [show (i' - 1) / 4 = i' / 4 by omega], rfl, hgt.2.2, hgt.2.1, HT2.out, HR1.out, hbl1.out⟩
      case rest =>
        clear HR1 hbl1 hrt' hbx hgt
        obtain ⟨gt2, cap2, rfl, rfl, gt_ne, gt_lt, HT2, HR1, hbl1⟩ := hcut
        go_wp2_with fail
        go_loopw [5, 9] (fun v i wx => ∃ k n' g cap : Nat, k ≤ 4 ∧ n' = n + k ∧ i = .int .i64 k ∧ v = .slice (some ⟨g, 0, none⟩) n' cap ∧ gt2 ≠ g ∧ gt2 < wx.heap.size ∧ Hid (∀ r, r < 4 → wx.cell? ⟨gt2, r, none⟩ = some (.int .u8 ((tB K i' r).toNat : Int))) ∧ Hid (hasRow wx w.heap.size (.slice (some ⟨g, 0, none⟩) n' cap) (kL K n')) ∧ Hid (Below w.heap.size w wx)) (fun _ i _ => 4 - (intOf i).toNat)
        case atStart => exact ⟨0, n, g, cap, by omega, rfl, rfl, rfl, gt_ne, gt_lt, HT2.out, HR1.out, hbl1.out⟩
        case round =>
          clear HR1 hbl1 HT2
          obtain ⟨k, n', g, cap, hk, hn', rfl, rfl, hgne, hglt, hT, hR, hB⟩ := hrel
          by_cases hk4 : k < 4
          · obtain ⟨q16, eq16⟩ : ∃ q, q = n - 16 := ⟨_, rfl⟩
            obtain ⟨q, eq⟩ : ∃ q, q = n - 16 + k := ⟨_, rfl⟩
            have hn16 : 16 ≤ n := by have := HN.out; omega
            have mm1 : IntKind.i64.wrap ((n : Int) - 16) = (q16 : Int) := by simp only [IntKind.wrap_i64]; omega
            have mm2 : IntKind.i64.wrap ((q16 : Int) + (k : Int)) = (q : Int) := by simp only [IntKind.wrap_i64]; omega
            have hq : (q : Int) < (n' : Int) := by omega
            have hk4' : (k : Int) < 4 := by omega
            have hn'b : n' ≤ 180 := by omega
            obtain ⟨_, hnc, hgb2, hgs⟩ := hR.out.facts
            have cA := hR.out.cell q (kB K q) (kL_at K n' q (by omega))
            have cB := hT.out k hk4
            have HY := hide (show kB K q ^^^ tB K i' k = kB K n' by rw [hn', HN.out, kB_hi K i' k hi4 hk4, eq, HN.out])
            have hqL := hide (kL_at K n' q (by omega))
            obtain ⟨A, hA⟩ : ∃ A, A = kB K q := ⟨_, rfl⟩
            obtain ⟨B, hB2⟩ : ∃ B, B = tB K i' k := ⟨_, rfl⟩
            rw [← hA] at cA HY hqL
            rw [← hB2] at cB HY
            have hxor := hide (r_xor8 A B)
            have HN' := hide hn'
            have hb1 : (kL K n').length + [A ^^^ B].length ≤ 140737488355328 := by rw [kL_len]; simp; omega
            have hbs := hB.out.size
            clear hA hB2 eq eq16 hn'
            go_wp2_with fail
            go_region_held3 (fun w' => w'.cell? ⟨g, q, none⟩ = some (.int .u8 (A.toNat : Int)) ∧ w'.cell? ⟨gt2, k, none⟩ = some (.int .u8 (B.toNat : Int)))
              (first | exact ⟨app_cell ((hR.out.alloc _).drew) hr' hat' hqL.out, (World.grownBy.cell_far hg' ⟨gt2, k, none⟩ (by simp; omega) (by simp [Value.ownBlock]; omega)).trans ((World.cell?_alloc_past (w := wr) _ gt2 k hglt).trans cB)⟩ | go_keep)
              ((refine step_append_row (by rfl) _ _ _ (by rfl) 5 i0 Tryz.underlying22 hi hz0 hz1 hz2 w.heap.size _ (kL K n') (by rfl) ((hR.out.alloc _).drew) ⟨wr.heap.size, 0, none⟩ 1 [A ^^^ B] (by simp) (by rfl) (one_byte (A ^^^ B) 5 wr.heap.size rfl hxor.out) hb1 (by simp; omega) ?_; intro g' cap' w' hr' hg' hat'))
            rename_i _ hH
            clear hH
            have hln : (kL K n' ++ [A ^^^ B]).length = n' + 1 := by rw [List.length_append, kL_len]; rfl
            have R1 := hide (show hasRow w' w.heap.size (.slice (some ⟨g', 0, none⟩) (n' + 1) cap') (kL K (n' + 1)) by rw [hln] at hr'; rw [← kL_succ, ← HY.out]; exact hr')
            have R2 := hide (((hB.out.alloc hbs _).drew).grown hg' (by simp; omega) (fun x hx => by have e : g = x := (by simpa [Value.ownBlock] using hx); omega))
            have R3 : gt2 ≠ g' := by
              rcases hat' with h | h
              · have e : g = g' := by simpa [Value.ownBlock] using h
                omega
              · have e : g' = wr.heap.size + 1 := by simpa using h.1
                omega
            have R4 : gt2 < w'.heap.size := by have := hg'.size; simp at this; omega
            have R5 := hide (show ∀ r, r < 4 → w'.cell? ⟨gt2, r, none⟩ = some (.int .u8 ((tB K i' r).toNat : Int)) from fun r hr => (World.grownBy.cell_far hg' ⟨gt2, r, none⟩ (by simp; omega) (by simp [Value.ownBlock]; omega)).trans ((World.cell?_alloc_past (w := wr) _ gt2 r hglt).trans (hT.out r hr)))
            clear hr' hg' hat' cA cB hR hB hT mm1 mm2 hq hxor hqL HY
            go_wp2_with fail
            go_roundw
            case rel => exact ⟨k + 1, n' + 1, g', cap', by omega, by have := HN'.out; omega, by go_num, rfl, R3, R4, R5, R1, R2⟩
            case measure => simp [intOf]; omega
          · have hE := hide (show n' = 4 * (i' + 1) by have := HN.out; omega)
            have hRC := hide (show rcN (i' / 4) = rcN ((i' + 1 - 1) / 4) by congr 1)
            go_wp2_with fail
            go_roundw
            case rel => exact ⟨i' + 1, n', g, cap, by omega, by omega, hE.out, by go_num, rfl, by rw [hRC.out], hR.out, hB.out⟩
            case measure => simp [intOf]; omega
    · have hE : n = 176 := by omega
      subst hE
      go_wp2_with fail
      go_ret
      exact ⟨g, cap, rfl, hr, hbl⟩
end Go.Proofs.YtconcnndghmdfaaGreatDoor
namespace Go.Proofs.YtconcnndghmdfaaGreatDoor
open Go.RowKit
attribute [local irreducible] times sbox
theorem below3A {w w1 w2 : World} (h : Below w.heap.size w w1) (h2 : Below w1.heap.size w1 w2) : Below w.heap.size w w2 := h.trans (h2.mono h.size)
/-- AesBlock. -/
def aesS (key block : ByteArray) : ByteArray := if key.size = 16 ∧ block.size = 16 then ⟨(encL (kB (keyF key)) (bF block)).toArray⟩ else ⟨#[]⟩
theorem kL_cells {w : World} {base g cap : Nat} {K : Nat → UInt8} (h : hasRow w base (.slice (some ⟨g, 0, none⟩) 176 cap) (kL K 176)) : ∀ j, j < 176 → w.cell? ⟨g, j, none⟩ = some (.int .u8 ((kB K j).toNat : Int)) :=
  fun j hj => h.cell j _ (kL_at K 176 j hj)
theorem kL_cellsK {w : World} {base g cap : Nat} {key : ByteArray} (h : hasRow w base (.slice (some ⟨g, 0, none⟩) 176 cap) (kL (keyF key) 176)) : ∀ j, j < 176 → w.cell? ⟨g, j, none⟩ = some (.int .u8 ((kB (keyF key) j).toNat : Int)) := kL_cells h
end Go.Proofs.YtconcnndghmdfaaGreatDoor

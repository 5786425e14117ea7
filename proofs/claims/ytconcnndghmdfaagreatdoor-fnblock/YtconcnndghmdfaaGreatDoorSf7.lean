/- Put together: AesK, AesC, AesCtr. -/
import Derived.Test.YtconcnndghmdfaaGreatDoorSf6
namespace Go.Proofs.YtconcnndghmdfaaGreatDoor
open Go.RowKit
def keyF (key : ByteArray) (j : Nat) : UInt8 := key.data.toList.getD j 0
theorem key_kL (key : ByteArray) (h : key.size = 16) : key.data.toList = kL (keyF key) 16 := by
 apply List.ext_getElem?
 intro j
 by_cases hj : j < 16
 · rw [kL_at _ _ _ hj, kB_lo _ _ hj, keyF, List.getD_eq_getElem?_getD]
   have : j < key.data.toList.length := by have e : key.data.toList.length = key.size := rfl; omega
   rw [List.getElem?_eq_getElem this]; rfl
 · rw [List.getElem?_eq_none (by have e : key.data.toList.length = key.size := rfl; omega), List.getElem?_eq_none (by rw [kL_len]; omega)]
def fore (K : Nat → UInt8) (n4 : Nat) : List UInt8 := [kB K n4, kB K (n4 + 1), kB K (n4 + 2), kB K (n4 + 3)]
theorem fore_cells {w : World} {base g n cap n4 : Nat} {K : Nat → UInt8} (h : hasRow w base (.slice (some ⟨g, 0, none⟩) n cap) (kL K n)) (hn : n4 + 4 = n) : ∀ j u, ((fore K n4).map byteV)[j]? = some u → w.cell? ((⟨g, n4, none⟩ : Addr).add j) = some u := by
 intro j u hu
 rw [Addr.add_lit]
 match j, hu with
 | 0, hu => simp [fore] at hu; subst hu; exact h.cell n4 _ (kL_at K n n4 (by omega))
 | 1, hu => simp [fore] at hu; subst hu; exact h.cell (n4 + 1) _ (kL_at K n (n4 + 1) (by omega))
 | 2, hu => simp [fore] at hu; subst hu; exact h.cell (n4 + 2) _ (kL_at K n (n4 + 2) (by omega))
 | 3, hu => simp [fore] at hu; subst hu; exact h.cell (n4 + 3) _ (kL_at K n (n4 + 3) (by omega))
theorem turned_word (w : World) (T : Nat) (K : Nat → UInt8) (i n4 : Nat) (a0 a1 a2 a3 : UInt8) (rc : Nat) (h4 : i % 4 = 0) (hi : 4 ≤ i) (hn : n4 = 4 * i - 4) (ha : a0 = kB K n4 ∧ a1 = kB K (n4 + 1) ∧ a2 = kB K (n4 + 2) ∧ a3 = kB K (n4 + 3)) (hrc : rc = rcN ((i - 1) / 4)) :
 ∀ r, r < 4 → (w.alloc (.cells #[.int .u8 (((sbox a1.toNat ^^^ UInt8.ofNat rc).toNat : Nat) : Int), .int .u8 ((sbox a2.toNat).toNat : Int), .int .u8 ((sbox a3.toNat).toNat : Int), .int .u8 ((sbox a0.toNat).toNat : Int)] T)).drew.cell? ⟨w.heap.size, r, none⟩ = some (.int .u8 ((tB K i r).toNat : Int)) := by
 intro r hr
 obtain ⟨e0, e1, e2, e3⟩ := ha
 have hm : n4 = 4 * (i - 1) := by omega
 have hq : (i - 1) / 4 = i / 4 - 1 := by omega
 have hc := cell_of_row (w.alloc (.cells #[.int .u8 (((sbox a1.toNat ^^^ UInt8.ofNat rc).toNat : Nat) : Int), .int .u8 ((sbox a2.toNat).toNat : Int), .int .u8 ((sbox a3.toNat).toNat : Int), .int .u8 ((sbox a0.toNat).toNat : Int)] T)).drew w.heap.size r _ _ _ (heap_alloc_new w _)
 rw [hc, tB, if_pos h4]
 match r, hr with
 | 0, _ => rw [if_pos rfl, hrc, hq, e1, hm]; rfl
 | 1, _ => rw [if_neg (by omega), e2, hm, UInt8.xor_zero]; rfl
 | 2, _ => rw [if_neg (by omega), e3, hm, UInt8.xor_zero]; rfl
 | 3, _ => rw [if_neg (by omega), e0, hm, UInt8.xor_zero]; rfl
set_option maxRecDepth 100000 in
set_option maxHeartbeats 1600000 in
theorem spec_keysA (key : ByteArray) (gb : Nat) (w : World) (hk : key.size = 16) (hgb : gb < w.heap.size) (hbox : w.rowIs gb 5 256 (u8V sbox)) :
 Calls Tryz.prog 91 #[.string key, .slice (some ⟨gb, 0, none⟩) 256 256] w fun e w' => ∃ g cap, e = .returned (.slice (some ⟨g, 0, none⟩) 176 cap) ∧ hasRow w' w.heap.size (.slice (some ⟨g, 0, none⟩) 176 cap) (kL (keyF key) 176) ∧ Below w.heap.size w w' := by
 have HB := hide hbox
 clear hbox
 have HK := hide (key_kL key hk)
 obtain ⟨i0, hi, hz0, hz1, hz2⟩ := info_parts Tryz.infoB8
 have hcv := fun (w : World) => run_bytes_of_string (P := Tryz.prog) w 9 22 5 key Tryz.underlying9 Tryz.underlying22 Tryz.underlying5
 have hcap := grownCap_ge w key.size 0 5
 have hrow0 := hide (hasRow.of_text w.drew w.heap.size 5 (grownCap w key.size 0 5) key hcap (Nat.le_refl _))
 have hbl0 := hide ((Below.refl w.heap.size w).drew.alloc (Nat.le_refl _) (.cells (bytesRow key (grownCap w key.size 0 5)) 5 ((bytesRow key (grownCap w key.size 0 5)).size, (bytesRow key (grownCap w key.size 0 5)).size + 1)))
 rw [HK.out] at hrow0
 obtain ⟨K, hK⟩ : ∃ K, K = keyF key := ⟨_, rfl⟩
 rw [← hK] at hrow0 ⊢
 clear hK HK
 rw [hk] at hcv hcap hrow0 hbl0
 go_enter Tryz.func91, Tryz.ntmps91
 go_wp2_with fail
 clear hcv hcap
 go_loopw [5, 6, 7] (fun v rc i wx => ∃ i' n g cap : Nat, 4 ≤ i' ∧ i' ≤ 44 ∧ n = 4 * i' ∧ i = .int .i64 i' ∧ v = .slice (some ⟨g, 0, none⟩) n cap ∧ rc = .int .i64 (rcN ((i' - 1) / 4) : Nat) ∧ hasRow wx w.heap.size (.slice (some ⟨g, 0, none⟩) n cap) (kL K n) ∧ Below w.heap.size w wx) (fun _ _ i _ => 44 - (intOf i).toNat)
 case atStart => exact ⟨4, 16, _, _, by omega, by omega, rfl, rfl, rfl, rfl, hrow0.out, hbl0.out⟩
 case round =>
  clear hrow0 hbl0
  obtain ⟨i', n, g, cap, hi4, hi44, hn, rfl, rfl, rfl, hr, hbl⟩ := hrel
  by_cases hlt : i' < 44
  · obtain ⟨n4, hn4⟩ : ∃ m, m = n - 4 := ⟨_, rfl⟩
    obtain ⟨_, hcapn, hgl⟩ := hr.facts
    have m0 : IntKind.i64.wrap (4 * (i' : Int)) = (n : Int) := by simp only [IntKind.wrap_i64]; omega
    have m1 : IntKind.i64.wrap ((n : Int) - 4) = (n4 : Int) := by simp only [IntKind.wrap_i64]; omega
    have hne : ¬ cap = n4 := by omega
    have e4 : n - n4 = 4 := by omega
    have hle : (n4 : Int) ≤ (n : Int) := by omega
    have hle2 : (n : Int) ≤ (cap : Int) := by omega
    have hfc := hide (fore_cells hr (show n4 + 4 = n by omega))
    have hfc2 := hide (show ∀ j u, ((fore K n4).map byteV)[j]? = some u → (wr.alloc (.cells #[] 5)).cell? ((⟨g, n4, none⟩ : Addr).add j) = some u from fun j u hu => by
     have h := hfc.out j u hu
     rw [Addr.add_lit] at h ⊢
     exact (World.cell?_alloc_past (w := wr) _ g (n4 + j) hgl.2).trans h)
    have hmade := hide (hasRow.made wr w.heap.size 5 _ (by omega) rfl)
    have HR := hide hr
    have HN := hide hn
    have HN4 := hide hn4
    have hnb : (n : Int) ≤ 176 := by omega
    clear hr hn hn4 hfc
    go_upto_if 27 with (at_builtin; refine wpList_append_hasrow rfl _ _ 22 rfl 5 i0 Tryz.underlying22 hi hz0 hz1 hz2 w.heap.size (.slice (some ⟨wr.heap.size, 0, none⟩) 0 0) [] rfl hmade.out ⟨g, n4, none⟩ _ (fore K n4) (by simp [fore]) rfl hfc2.out (by simp [fore]) (by simp; omega) ?_; intro gt capt w1 hrt hg1 hat)
    have hgt : w.heap.size ≤ gt ∧ gt < w1.heap.size ∧ gt ≠ g := by
     obtain ⟨_, _, h1, h2⟩ := hrt.facts
     refine ⟨h1, h2, ?_⟩
     rcases hat with h | h
     · have e : wr.heap.size = gt := by simpa [Value.ownBlock] using h
       omega
     · have e : gt = wr.heap.size + 1 := by simpa using h.1
       omega
    have hg1' : (wr.alloc (.cells #[] 5)).grownBy w1 (some wr.heap.size) := hg1
    have HR1 := hide ((HR.out.alloc (.cells #[] 5)).kept hg1' (by intro e; have e2 : g = wr.heap.size := (by simpa [Value.ownBlock] using e); omega))
    have hbl1 := hide (((hbl.alloc hbl.size (.cells #[] 5)).grown hg1' (by simp; have := hbl.size; omega) (fun k hk => by cases hk; exact hbl.size)))
    have hrt' := hide (show hasRow w1 w.heap.size (.slice (some ⟨gt, 0, none⟩) 4 capt) (fore K n4) from hrt)
    have hbx := hide (HB.out.of_block (hbl1.out.block gb hgb))
    clear hrt hg1 hg1' hat HR hfc2 hmade hbl m1 hne e4 hle hle2
    go_cut [6, 8] (fun rc t wx => ∃ gt2 cap2 : Nat, rc = .int .i64 (rcN (i' / 4) : Nat) ∧ t = .slice (some ⟨gt2, 0, none⟩) 4 cap2 ∧ gt2 ≠ g ∧ gt2 < wx.heap.size ∧ Hid (∀ r, r < 4 → wx.cell? ⟨gt2, r, none⟩ = some (.int .u8 ((tB K i' r).toNat : Int))) ∧ Hid (hasRow wx w.heap.size (.slice (some ⟨g, 0, none⟩) n cap) (kL K n)) ∧ Hid (Below w.heap.size w wx))
    case first =>
     by_cases h4 : i' % 4 = 0
     · have h4' : (i' : Int) % 4 = 0 := by omega
       have fl : (fore K n4).length = 4 := rfl
       have ct0 := hrt'.out.cell 0 (kB K n4) rfl
       have ct1 := hrt'.out.cell 1 (kB K (n4 + 1)) rfl
       have ct2 := hrt'.out.cell 2 (kB K (n4 + 2)) rfl
       have ct3 := hrt'.out.cell 3 (kB K (n4 + 3)) rfl
       obtain ⟨a0, ea0⟩ : ∃ a, a = kB K n4 := ⟨_, rfl⟩
       obtain ⟨a1, ea1⟩ : ∃ a, a = kB K (n4 + 1) := ⟨_, rfl⟩
       obtain ⟨a2, ea2⟩ : ∃ a, a = kB K (n4 + 2) := ⟨_, rfl⟩
       obtain ⟨a3, ea3⟩ : ∃ a, a = kB K (n4 + 3) := ⟨_, rfl⟩
       rw [← ea0] at ct0
       rw [← ea1] at ct1
       rw [← ea2] at ct2
       rw [← ea3] at ct3
       have HA := hide (show a0 = kB K n4 ∧ a1 = kB K (n4 + 1) ∧ a2 = kB K (n4 + 2) ∧ a3 = kB K (n4 + 3) from ⟨ea0, ea1, ea2, ea3⟩)
       clear ea0 ea1 ea2 ea3
       obtain ⟨s0, es0⟩ : ∃ x, x = sbox a0.toNat := ⟨_, rfl⟩
       obtain ⟨s1, es1⟩ : ∃ x, x = sbox a1.toNat := ⟨_, rfl⟩
       obtain ⟨s2, es2⟩ : ∃ x, x = sbox a2.toNat := ⟨_, rfl⟩
       obtain ⟨s3, es3⟩ : ∃ x, x = sbox a3.toNat := ⟨_, rfl⟩
       have cb0 : w1.cell? ⟨gb, a0.toNat, none⟩ = some (.int .u8 (s0.toNat : Int)) := by rw [es0]; exact hbx.out.cell (i := a0.toNat) a0.toNat_lt
       have cb1 : w1.cell? ⟨gb, a1.toNat, none⟩ = some (.int .u8 (s1.toNat : Int)) := by rw [es1]; exact hbx.out.cell (i := a1.toNat) a1.toNat_lt
       have cb2 : w1.cell? ⟨gb, a2.toNat, none⟩ = some (.int .u8 (s2.toNat : Int)) := by rw [es2]; exact hbx.out.cell (i := a2.toNat) a2.toNat_lt
       have cb3 : w1.cell? ⟨gb, a3.toNat, none⟩ = some (.int .u8 (s3.toNat : Int)) := by rw [es3]; exact hbx.out.cell (i := a3.toNat) a3.toNat_lt
       have l0 : (a0.toNat : Int) < 256 := by have := a0.toNat_lt; omega
       have l1 : (a1.toNat : Int) < 256 := by have := a1.toNat_lt; omega
       have l2 : (a2.toNat : Int) < 256 := by have := a2.toNat_lt; omega
       have l3 : (a3.toNat : Int) < 256 := by have := a3.toNat_lt; omega
       have hrc := rcN_lt ((i' - 1) / 4)
       have HT3 := hide (fun rc h => turned_word w1 5 K i' n4 a0 a1 a2 a3 rc h4 hi4 (by rw [HN4.out, HN.out]) HA.out h)
       rw [← es0, ← es1, ← es2, ← es3] at HT3
       clear es0 es1 es2 es3
       obtain ⟨rc, erc⟩ : ∃ r, r = rcN ((i' - 1) / 4) := ⟨_, rfl⟩
       rw [← erc] at hrc ⊢
       have HRC := hide erc
       obtain ⟨rc2, erc2⟩ : ∃ r, r = rcN (i' / 4) := ⟨_, rfl⟩
       have HRC2 := hide (show times rc 2 = rc2 by rw [erc2, erc, show i' / 4 = (i' - 1) / 4 + 1 by omega, rcN])
       have HRC3 := hide erc2
       clear erc2
       clear erc
       have hrc' : (rc : Int) ≤ 255 := by omega
       have gt_ne : w1.heap.size ≠ g := by have := HR1.out.facts; omega
       go_wp2_with fail
       go_region_held3 (fun w' => (w'.cell? ⟨gt, 0, none⟩ = some (.int .u8 (a0.toNat : Int)) ∧ w'.cell? ⟨gt, 1, none⟩ = some (.int .u8 (a1.toNat : Int)) ∧ w'.cell? ⟨gt, 2, none⟩ = some (.int .u8 (a2.toNat : Int)) ∧ w'.cell? ⟨gt, 3, none⟩ = some (.int .u8 (a3.toNat : Int))) ∧ w'.cell? ⟨gb, a0.toNat, none⟩ = some (.int .u8 (s0.toNat : Int)) ∧ w'.cell? ⟨gb, a1.toNat, none⟩ = some (.int .u8 (s1.toNat : Int)) ∧ w'.cell? ⟨gb, a2.toNat, none⟩ = some (.int .u8 (s2.toNat : Int)) ∧ w'.cell? ⟨gb, a3.toNat, none⟩ = some (.int .u8 (s3.toNat : Int))) (go_keep) (fail)
       rename_i _ hH
       clear hH
       have hwr : IntKind.u8.wrap (rc : Int) = (rc : Int) := by rw [IntKind.wrap_u8]; omega
       have hx := r_xor8 s1 (UInt8.ofNat rc)
       have hrn : (UInt8.ofNat rc).toNat = rc := by rw [UInt8.toNat_ofNat']; exact Nat.mod_eq_of_lt hrc
       rw [hrn] at hx
       simp only [hwr, hx]
       clear hwr
       obtain ⟨gt2, W2, e1, e2, HT2, hblA, HRA, gt_lt, gt_ne⟩ : ∃ gt2 W2, gt2 = w1.heap.size ∧ W2 = (w1.alloc (.cells #[.int .u8 (((s1 ^^^ UInt8.ofNat rc).toNat : Nat) : Int), .int .u8 (s2.toNat : Int), .int .u8 (s3.toNat : Int), .int .u8 (s0.toNat : Int)] 5)).drew ∧ Hid (∀ r, r < 4 → W2.cell? ⟨gt2, r, none⟩ = some (.int .u8 ((tB K i' r).toNat : Int))) ∧ Hid (Below w.heap.size w W2) ∧ Hid (hasRow W2 w.heap.size (.slice (some ⟨g, 0, none⟩) n cap) (kL K n)) ∧ gt2 < W2.heap.size ∧ gt2 ≠ g :=
        ⟨_, _, rfl, rfl, HT3.out rc HRC.out, (hbl1.out.alloc hbl1.out.size _).drew, (HR1.out.alloc _).drew, by simp, gt_ne⟩
       rw [← e2, ← e1]
       clear hx hrn ct0 ct1 ct2 ct3 cb0 cb1 cb2 cb3 l0 l1 l2 l3 HA hrt' hbx hrc' e1 e2 HT3 hbl1 HR1
       go_wp2_with fail
       refine (spec_timesT rc 2 rc2 _ hrc (by omega) HRC2.out).mono ?_
       rintro e wx ⟨rfl, rfl⟩
       go_wp2_with fail
       go_meet
       case rel => exact ⟨gt2, 4, by rw [HRC3.out], rfl, gt_ne, gt_lt, HT2.out, HRA.out, hblA.out⟩
     · have h4' : ((i' : Int) % 4 == 0) = false := by simp; omega
       have HT2 := hide (show ∀ r, r < 4 → w1.cell? ⟨gt, r, none⟩ = some (.int .u8 ((tB K i' r).toNat : Int)) from fun r hr => by
        have e : tB K i' r = kB K (n4 + r) := by rw [tB, if_neg h4, HN4.out, HN.out]; congr 1; omega
        rw [e]
        match r, hr with
        | 0, _ => exact hrt'.out.cell 0 (kB K n4) rfl
        | 1, _ => exact hrt'.out.cell 1 (kB K (n4 + 1)) rfl
        | 2, _ => exact hrt'.out.cell 2 (kB K (n4 + 2)) rfl
        | 3, _ => exact hrt'.out.cell 3 (kB K (n4 + 3)) rfl)
       go_wp2_with fail
       go_meet
       case rel => exact ⟨gt, capt, by rw [show (i' - 1) / 4 = i' / 4 by omega], rfl, hgt.2.2, hgt.2.1, HT2.out, HR1.out, hbl1.out⟩
    case rest =>
     clear HR1 hbl1 hrt' hbx hgt
     obtain ⟨gt2, cap2, rfl, rfl, gt_ne, gt_lt, HT2, HR1, hbl1⟩ := hcut
     go_wp2_with fail
     go_loopw [5, 9] (fun v i wx => ∃ k n' g cap : Nat, k ≤ 4 ∧ n' = n + k ∧ i = .int .i64 k ∧ v = .slice (some ⟨g, 0, none⟩) n' cap ∧ gt2 ≠ g ∧ gt2 < wx.heap.size ∧ Hid (∀ r, r < 4 → wx.cell? ⟨gt2, r, none⟩ = some (.int .u8 ((tB K i' r).toNat : Int))) ∧ Hid (hasRow wx w.heap.size (.slice (some ⟨g, 0, none⟩) n' cap) (kL K n')) ∧ Hid (Below w.heap.size w wx)) (fun _ i _ => 4 - (intOf i).toNat)
     case atStart => exact ⟨0, n, g, cap, by omega, rfl, rfl, rfl, gt_ne, gt_lt, HT2.out, HR1.out, hbl1.out⟩
     case round =>
      clear HR1 hbl1 HT2
      obtain ⟨k, n', g, cap, hk, hn', rfl, rfl, hgne, hglt, hT, hR, hB⟩ := hrel
      by_cases hk4 : k < 4
      · obtain ⟨q16, eq16⟩ : ∃ q, q = n - 16 := ⟨_, rfl⟩
        obtain ⟨q, eq⟩ : ∃ q, q = n - 16 + k := ⟨_, rfl⟩
        have hn16 : 16 ≤ n := by have := HN.out; omega
        have mm1 : IntKind.i64.wrap ((n : Int) - 16) = (q16 : Int) := by simp only [IntKind.wrap_i64]; omega
        have mm2 : IntKind.i64.wrap ((q16 : Int) + (k : Int)) = (q : Int) := by simp only [IntKind.wrap_i64]; omega
        have hq : (q : Int) < (n' : Int) := by omega
        have hk4' : (k : Int) < 4 := by omega
        have hn'b : n' ≤ 180 := by omega
        obtain ⟨_, hnc, hgb2, hgs⟩ := hR.out.facts
        have cA := hR.out.cell q (kB K q) (kL_at K n' q (by omega))
        have cB := hT.out k hk4
        have HY := hide (show kB K q ^^^ tB K i' k = kB K n' by rw [hn', HN.out, kB_hi K i' k hi4 hk4, eq, HN.out])
        have hqL := hide (kL_at K n' q (by omega))
        obtain ⟨A, hA⟩ : ∃ A, A = kB K q := ⟨_, rfl⟩
        obtain ⟨B, hB2⟩ : ∃ B, B = tB K i' k := ⟨_, rfl⟩
        rw [← hA] at cA HY hqL
        rw [← hB2] at cB HY
        have hxor := hide (r_xor8 A B)
        have HN' := hide hn'
        have hb1 : (kL K n').length + [A ^^^ B].length ≤ 140737488355328 := by rw [kL_len]; simp; omega
        have hbs := hB.out.size
        clear hA hB2 eq eq16 hn'
        go_wp2_with fail
        go_region_held3 (fun w' => w'.cell? ⟨g, q, none⟩ = some (.int .u8 (A.toNat : Int)) ∧ w'.cell? ⟨gt2, k, none⟩ = some (.int .u8 (B.toNat : Int)))
         (first | exact ⟨app_cell ((hR.out.alloc _).drew) hr' hat' hqL.out, (World.grownBy.cell_far hg' ⟨gt2, k, none⟩ (by simp; omega) (by simp [Value.ownBlock]; omega)).trans ((World.cell?_alloc_past (w := wr) _ gt2 k hglt).trans cB)⟩ | go_keep)
         ((refine step_append_row (by rfl) _ _ _ (by rfl) 5 i0 Tryz.underlying22 hi hz0 hz1 hz2 w.heap.size _ (kL K n') (by rfl) ((hR.out.alloc _).drew) ⟨wr.heap.size, 0, none⟩ 1 [A ^^^ B] (by simp) (by rfl) (one_byte (A ^^^ B) 5 wr.heap.size rfl hxor.out) hb1 (by simp; omega) ?_; intro g' cap' w' hr' hg' hat'))
        rename_i _ hH
        clear hH
        have hln : (kL K n' ++ [A ^^^ B]).length = n' + 1 := by rw [List.length_append, kL_len]; rfl
        have R1 := hide (show hasRow w' w.heap.size (.slice (some ⟨g', 0, none⟩) (n' + 1) cap') (kL K (n' + 1)) by rw [hln] at hr'; rw [← kL_succ, ← HY.out]; exact hr')
        have R2 := hide (((hB.out.alloc hbs _).drew).grown hg' (by simp; omega) (fun x hx => by have e : g = x := (by simpa [Value.ownBlock] using hx); omega))
        have R3 : gt2 ≠ g' := by
         rcases hat' with h | h
         · have e : g = g' := by simpa [Value.ownBlock] using h
           omega
         · have e : g' = wr.heap.size + 1 := by simpa using h.1
           omega
        have R4 : gt2 < w'.heap.size := by have := hg'.size; simp at this; omega
        have R5 := hide (show ∀ r, r < 4 → w'.cell? ⟨gt2, r, none⟩ = some (.int .u8 ((tB K i' r).toNat : Int)) from fun r hr => (World.grownBy.cell_far hg' ⟨gt2, r, none⟩ (by simp; omega) (by simp [Value.ownBlock]; omega)).trans ((World.cell?_alloc_past (w := wr) _ gt2 r hglt).trans (hT.out r hr)))
        clear hr' hg' hat' cA cB hR hB hT mm1 mm2 hq hxor hqL HY
        go_wp2_with fail
        go_roundw
        case rel => exact ⟨k + 1, n' + 1, g', cap', by omega, by have := HN'.out; omega, by go_num, rfl, R3, R4, R5, R1, R2⟩
        case measure => simp [intOf]; omega
      · have hE := hide (show n' = 4 * (i' + 1) by have := HN.out; omega)
        have hRC := hide (show rcN (i' / 4) = rcN ((i' + 1 - 1) / 4) by congr 1)
        go_wp2_with fail
        go_roundw
        case rel => exact ⟨i' + 1, n', g, cap, by omega, by omega, hE.out, by go_num, rfl, by rw [hRC.out], hR.out, hB.out⟩
        case measure => simp [intOf]; omega
  · have hE : n = 176 := by omega
    subst hE
    go_wp2_with fail
    go_ret
    exact ⟨g, cap, rfl, hr, hbl⟩
attribute [local irreducible] times sbox
theorem below3A {w w1 w2 : World} (h : Below w.heap.size w w1) (h2 : Below w1.heap.size w1 w2) : Below w.heap.size w w2 := h.trans (h2.mono h.size)
theorem kL_cells {w : World} {base g cap : Nat} {K : Nat → UInt8} (h : hasRow w base (.slice (some ⟨g, 0, none⟩) 176 cap) (kL K 176)) : ∀ j, j < 176 → w.cell? ⟨g, j, none⟩ = some (.int .u8 ((kB K j).toNat : Int)) :=
 fun j hj => h.cell j _ (kL_at K 176 j hj)
theorem kL_cellsK {w : World} {base g cap : Nat} {key : ByteArray} (h : hasRow w base (.slice (some ⟨g, 0, none⟩) 176 cap) (kL (keyF key) 176)) : ∀ j, j < 176 → w.cell? ⟨g, j, none⟩ = some (.int .u8 ((kB (keyF key) j).toNat : Int)) := kL_cells h
end Go.Proofs.YtconcnndghmdfaaGreatDoor
namespace Go.Proofs.YtconcnndghmdfaaGreatDoor
open Go.RowKit
attribute [local irreducible] times sbox
def ctrB (N m j : Nat) : UInt8 := if j < 8 then UInt8.ofNat (N / 2 ^ (8 * (7 - j)) % 256) else UInt8.ofNat (m / 2 ^ (8 * (15 - j)) % 256)
def ctrF (K : Nat → UInt8) (N : Nat) (T : Nat → UInt8) (j : Nat) : UInt8 := T j ^^^ encF K (ctrB N (j / 16)) 10 (j % 16)
def ctrL (K : Nat → UInt8) (N : Nat) (T : Nat → UInt8) (n : Nat) : List UInt8 := (List.range n).map (ctrF K N T)
theorem encF_congr (K : Nat → UInt8) {B B' : Nat → UInt8} (h : ∀ j, j < 16 → B j = B' j) : ∀ n j, j < 16 → encF K B n j = encF K B' n j
 | 0, j, hj => by show B j ^^^ K j = B' j ^^^ K j; rw [h j hj]
 | n + 1, j, hj => by
   show midF (n + 1) (encF K B n) j ^^^ K (16 * (n + 1) + j) = midF (n + 1) (encF K B' n) j ^^^ K (16 * (n + 1) + j)
   rw [midF_congr (n + 1) (fun i hi => encF_congr K h n i hi) j hj]
set_option maxRecDepth 100000 in
set_option maxHeartbeats 1600000 in
theorem spec_ctrA (key text : ByteArray) (N : Nat) (w : World) (hk : key.size = 16) (ht : text.size ≤ 20000) (hN : N ≤ 9223372036854775807) :
 Calls Tryz.prog 58 #[.string key, .int .i64 (N : Int), .string text] w fun e w' => e = .returned (.string ⟨(ctrL (kB (keyF key)) N (bF text) text.size).toArray⟩) ∧ Below w.heap.size w w' := by
 have hcv := fun (w : World) => run_bytes_of_string (P := Tryz.prog) w 9 22 5 text Tryz.underlying9 Tryz.underlying22 Tryz.underlying5
 have hat := hide (bF_at text text.size rfl)
 obtain ⟨n, hn⟩ : ∃ n, n = text.size := ⟨_, rfl⟩
 obtain ⟨T, hT⟩ : ∃ T, T = bF text := ⟨_, rfl⟩
 obtain ⟨K, hK⟩ : ∃ K, K = kB (keyF key) := ⟨_, rfl⟩
 rw [← hT] at hat
 rw [← hT, ← hK, ← hn]
 rw [← hn] at ht
 have HKK := hide hK
 have HNN := hide hn
 clear hT hK hn
 have hmk : ∀ w : World, (Instr.makeSlice 22 (.int .i64 16) (.int .i64 16)).run Tryz.prog w = .ok (.slice (some ⟨w.heap.size, 0, none⟩) 16 16) (w.alloc (.cells (madeCells #[.int .u8 0] 16) 5)) := run_make_row' (P := Tryz.prog) 22 5 (.int .u8 0) 1 (by kernel_rfl) Tryz.infoB8 rfl .i64 .i64 16 (by omega) (by omega)
 have hN' : (N : Int) ≤ 9223372036854775807 := by omega
 go_enter Tryz.func58, Tryz.ntmps58
 go_wp2_with fail
 refine (spec_box _).mono ?_
 rintro e w1 ⟨rfl, hbx, hb1⟩
 have HBX := hide hbx
 have hlt1 := hbx.lt
 clear hbx
 go_wp2_with fail
 refine (spec_keysA key w.heap.size w1 hk hlt1 HBX.out).mono ?_
 rintro e w2 ⟨gw, cw, rfl, hr, hb2⟩
 have HR := hide (show ∀ j, j < 176 → w2.cell? ⟨gw, j, none⟩ = some (.int .u8 ((K j).toNat : Int)) by rw [HKK.out]; exact kL_cellsK hr)
 have hg := hr.facts.2.2.2
 have HBX2 := hide (HBX.out.of_block (hb2.block _ hlt1))
 have hc2 := hide (below3A hb1 hb2)
 have hlt2 : w.heap.size < w2.heap.size := Nat.lt_of_lt_of_le hlt1 hb2.size
 clear hr hb2 hb1 HBX
 have hcap := grownCap_ge w2 text.size 0 5
 have hrow0 := hasRow.of_text w2.drew w2.heap.size 5 (grownCap w2 text.size 0 5) text hcap (Nat.le_refl _)
 have hbl0 := hide ((Below.refl w2.heap.size w2).drew.alloc (Nat.le_refl _) (.cells (bytesRow text (grownCap w2 text.size 0 5)) 5 ((bytesRow text (grownCap w2 text.size 0 5)).size, (bytesRow text (grownCap w2 text.size 0 5)).size + 1)))
 have HR0 := hide (rowC.of_text hrow0 hat.out)
 clear hrow0 hat hcap
 rw [← HNN.out] at HR0 hbl0
 have hn2 := HNN.out.symm
 go_wp2_with fail
 clear hcv hn2
 have HR1 : rowC (w2.alloc (.cells (bytesRow text (grownCap w2 n 0 5)) 5 ((bytesRow text (grownCap w2 n 0 5)).size, (bytesRow text (grownCap w2 n 0 5)).size + 1))).drew w2.heap.size n T := HR0.out
 have hbl1 : Below w2.heap.size w2 (w2.alloc (.cells (bytesRow text (grownCap w2 n 0 5)) 5 ((bytesRow text (grownCap w2 n 0 5)).size, (bytesRow text (grownCap w2 n 0 5)).size + 1))).drew := hbl0.out
 clear HR0 hbl0
 go_loopw [10] (fun i wx => ∃ (m p : Nat) (f : Nat → UInt8), p = 16 * m ∧ p ≤ n + 15 ∧ i = .int .i64 p ∧ Hid (∀ j, j < n → f j = if j < p then ctrF K N T j else T j) ∧ rowC wx w2.heap.size n f ∧ Below w2.heap.size w2 wx) (fun i _ => n + 16 - (intOf i).toNat)
 case atStart => exact ⟨0, 0, T, rfl, by omega, rfl, fun j _ => by simp, HR1, hbl1⟩
 case round =>
  clear HR1 hbl1
  obtain ⟨m, p, f, hp, hpn, rfl, hf, hr, hbl⟩ := hrel
  have HP := hide hp
  have hpm : (p : Int).tdiv 16 = (m : Int) := by rw [Int.tdiv_eq_ediv_of_nonneg (by omega)]; omega
  have hpm2 : (p : Int) / 16 = (m : Int) := by omega
  have hmb : (m : Int) ≤ 1300 := by omega
  clear hp
  by_cases hlt : p < n
  · have hlt' : decide ((p : Int) < (n : Int)) = true := decide_eq_true (by omega)
    obtain ⟨gc, hgc⟩ : ∃ x, x = wr.heap.size := ⟨_, rfl⟩
    have hgcl : w2.heap.size < gc := by have := hr.1; omega
    have hr1 := hr.alloc (.cells (madeCells #[.int .u8 0] 16) 5)
    have hbl1 := hbl.alloc hbl.size (.cells (madeCells #[.int .u8 0] 16) 5)
    have hx1 := World.rowIs_made wr (.int .u8 0) 16 5
    rw [← hgc] at hx1
    go_wp2_with fail
    rw [← hgc]
    generalize wr.alloc (.cells (madeCells #[.int .u8 0] 16) 5) = W1 at *
    clear hgc
    go_loopw [12] (fun i wx => ∃ (k : Nat) (h : Nat → UInt8), k ≤ 8 ∧ i = .int .i64 k ∧ Hid (∀ j, j < 16 → ((j < 8 ∧ 8 ≤ j + k) ∨ 16 ≤ j + k) → h j = ctrB N m j) ∧ wx.rowIs gc 5 16 (u8V h) ∧ rowC wx w2.heap.size n f ∧ Below w2.heap.size w2 wx) (fun i _ => 8 - (intOf i).toNat)
    case atStart => exact ⟨0, fun _ => 0, by omega, rfl, fun j hj h => by omega, hx1, hr1, hbl1⟩
    case round =>
     clear hr hbl hr1 hbl1 hx1
     obtain ⟨k, h, hk8, rfl, hh, hx, hr, hbl⟩ := hrel
     by_cases hklt : k < 8
     · obtain ⟨k8, ek8⟩ : ∃ q, q = 8 * k := ⟨_, rfl⟩
       obtain ⟨q7, eq7⟩ : ∃ q, q = 7 - k := ⟨_, rfl⟩
       obtain ⟨q15, eq15⟩ : ∃ q, q = 15 - k := ⟨_, rfl⟩
       have w0 : IntKind.i64.wrap (8 * (k : Int)) = (k8 : Int) := w_mul (show 8 * k = k8 by omega) (by omega)
       have w7 : IntKind.i64.wrap (7 - (k : Int)) = (q7 : Int) := by simp only [IntKind.wrap_i64]; omega
       have w15 : IntKind.i64.wrap (15 - (k : Int)) = (q15 : Int) := by simp only [IntKind.wrap_i64]; omega
       have n7 : (q7 : Int) < 16 := by omega
       have n15 : (q15 : Int) < 16 := by omega
       have b8 : (k8 : Int) ≤ 56 := by omega
       have hq7 : q7 < 16 := by omega
       have hq15 : q15 < 16 := by omega
       have c7 := hx.cell (i := q7) hq7
       have f7 := hx.frozen q7
       have d : q7 ≠ q15 := by omega
       have c15 : ∀ v, (wr.setCell ⟨gc, q7, none⟩ v).cell? ⟨gc, q15, none⟩ = some (u8V h q15) := fun v => (World.cell?_setCell_other wr ⟨gc, q7, none⟩ ⟨gc, q15, none⟩ v (by intro e; injection e with _ e2; exact d e2)).trans (hx.cell hq15)
       have f15 := hx.frozen q15
       have HQ := hide (show k8 = 8 * k ∧ q7 = 7 - k ∧ q15 = 15 - k from ⟨ek8, eq7, eq15⟩)
       clear ek8 eq7 eq15
       go_wp2_with fail
       obtain ⟨hq1, hq2, hq3⟩ := HQ.out
       have hv7 : ((N : Int) / 2 ^ k8 % 256) = (((ctrB N m q7).toNat : Nat) : Int) := by
        rw [ctrB, if_pos (by omega), show 8 * (7 - q7) = k8 by omega, ofNat_byte _ (by omega)]; simp
       have hv15 : ((m : Int) / 2 ^ k8 % 256) = (((ctrB N m q15).toNat : Nat) : Int) := by
        rw [ctrB, if_neg (by omega), show 8 * (15 - q15) = k8 by omega, ofNat_byte _ (by omega)]; simp
       rw [hv7, hv15]
       refine ⟨⟨k + 1, fun j => if j = q15 then ctrB N m q15 else if j = q7 then ctrB N m q7 else h j, by omega, by go_num, fun j hj hc => ?_, set_byte (set_byte hx rfl) rfl, (hr.far (by omega)).far (by omega), (hbl.setCell (by show w2.heap.size ≤ gc; omega) _).setCell (by show w2.heap.size ≤ gc; omega) _⟩, by simp [intOf]; omega⟩
       show (if j = q15 then ctrB N m q15 else if j = q7 then ctrB N m q7 else h j) = _
       by_cases e : j = q15
       · rw [if_pos e, e]
       · by_cases e2 : j = q7
         · rw [if_neg e, if_pos e2, e2]
         · rw [if_neg e, if_neg e2]; exact hh.out j hj (by omega)
     · have hcv := conv_row (P := Tryz.prog) (cap := 16) hx (l := (List.range 16).map (ctrB N m)) (fun j hj => by rw [List.getElem?_map, List.getElem?_range hj, hh.out j hj (by omega)]; rfl) (by simp) Tryz.underlying22 Tryz.underlying5 Tryz.underlying9
       obtain ⟨cs, hcs⟩ : ∃ x : ByteArray, x = ⟨((List.range 16).map (ctrB N m)).toArray⟩ := ⟨_, rfl⟩
       rw [← hcs] at hcv
       have hcsz : cs.size = 16 := by rw [hcs, size_mk]; simp
       have hbF := hide (show ∀ j, j < 16 → bF cs j = ctrB N m j from fun j hj => by rw [hcs, bF]; simp [hj])
       have hKc := hide (show ∀ j, j < 176 → wr.cell? ⟨gw, j, none⟩ = some (.int .u8 ((K j).toNat : Int)) from fun j hj => (hbl.cell (p := ⟨gw, j, none⟩) hg).trans (HR.out j hj))
       have hBc := hide (HBX2.out.of_block (hbl.block w.heap.size hlt2))
       have hbs := hbl.size
       have hkf : decide ((k : Int) < 8) = false := decide_eq_false (by omega)
       clear hcs hx hh
       go_wp2_with fail
       refine (spec_enc gw cw w.heap.size K cs wr hcsz (by omega) (by omega) hKc.out hBc.out).mono ?_
       rintro e w5 ⟨rfl, hb5⟩
       obtain ⟨X, hX⟩ : ∃ x : ByteArray, x = ⟨(encL K (bF cs)).toArray⟩ := ⟨_, rfl⟩
       have hXs : X.size = 16 := by rw [hX, size_mk]; simp [encL]
       have hXa := hide (show ∀ j (h : j < X.size), X[j] = encF K (ctrB N m) 10 j from fun j h => by
        subst hX
        have hj : j < 16 := by rw [size_mk] at h; simpa [encL] using h
        rw [← encF_congr K hbF.out 10 j hj]
        show (encL K (bF cs)).toArray[j]'_ = _
        simp [encL])
       rw [← hX]
       have hr5 := hr.below hb5
       have hbl5 := hbl.trans (hb5.mono hbs)
       clear hX hcv hKc hBc hr hbl hb5
       go_wp2_with fail
       obtain ⟨p16, ep16⟩ : ∃ q, q = p + 16 := ⟨_, rfl⟩
       have w16 : IntKind.i64.wrap ((p : Int) + 16) = (p16 : Int) := by simp only [IntKind.wrap_i64]; omega
       have HP16 := hide ep16
       clear ep16
       go_loopw [14] (fun i wx => ∃ (q : Nat) (f' : Nat → UInt8), p ≤ q ∧ q ≤ p16 ∧ q ≤ n ∧ i = .int .i64 q ∧ Hid (∀ j, j < n → f' j = if j < q then ctrF K N T j else T j) ∧ rowC wx w2.heap.size n f' ∧ Below w2.heap.size w2 wx) (fun i _ => p16 - (intOf i).toNat)
       case atStart => exact ⟨p, f, Nat.le_refl _, by have := HP16.out; omega, by omega, rfl, hf, hr5, hbl5⟩
       case round =>
        clear hf hr5 hbl5
        obtain ⟨q, f', hq1, hq2, hq3, rfl, hf, hr, hbl⟩ := hrel
        by_cases hq16 : q < p16
        · have a1 : decide ((q : Int) < (p16 : Int)) = true := decide_eq_true (by omega)
          have a1' : (q : Int) < (p16 : Int) := by omega
          by_cases hqn : q < n
          · have a2 : decide ((q : Int) < (n : Int)) = true := decide_eq_true (by omega)
            have a2' : (q : Int) < (n : Int) := by omega
            obtain ⟨d, ed⟩ : ∃ d, d = q - p := ⟨_, rfl⟩
            have wd1 : IntKind.i64.wrap ((q : Int) - (p : Int)) = (d : Int) := by simp only [IntKind.wrap_i64]; omega
            have hd : d < X.size := by have := HP16.out; omega
            have hd16 : (d : Int) < 16 := by omega
            have cq := (hr.2 q hqn).1
            have fq := (hr.2 q hqn).2
            have xx := r_xor8 (f' q) X[d]
            have HV := hide (show f' q ^^^ X[d] = ctrF K N T q by
             have e0 := HP.out
             have e1 := HP16.out
             rw [hf.out q hqn, if_neg (by omega), hXa.out d hd, ctrF, show q / 16 = m by omega, show q % 16 = d by omega])
            obtain ⟨Y, hY⟩ : ∃ Y, Y = f' q ^^^ X[d] := ⟨_, rfl⟩
            rw [← hY] at HV xx
            obtain ⟨fq0, hfq⟩ : ∃ x, x = f' q := ⟨_, rfl⟩
            rw [← hfq] at cq xx
            clear hY hfq ed
            go_wp2_with fail
            go_region
            clear wd1 cq fq
            go_wp2_with fail
            go_roundw
            case rel =>
             refine ⟨q + 1, fun j => if j = q then Y else f' j, by omega, by omega, by omega, by go_num, fun j hj => ?_, (hr.set hqn rfl).drew, (hbl.setCell (Nat.le_refl _) _).drew⟩
             show (if j = q then Y else f' j) = _
             by_cases e : j = q
             · rw [if_pos e, if_pos (by omega), e, HV.out]
             · rw [if_neg e, hf.out j hj]
               by_cases e2 : j < q
               · rw [if_pos e2, if_pos (by omega)]
               · rw [if_neg e2, if_neg (by omega)]
            case measure => simp [intOf]; omega
          · have a2 : decide ((q : Int) < (n : Int)) = false := decide_eq_false (by omega)
            have hE := hide (show ∀ j, j < n → f' j = if j < p16 then ctrF K N T j else T j from fun j hj => by rw [hf.out j hj]; by_cases e : j < q; rw [if_pos e, if_pos (by omega)]; rw [if_neg e, if_neg (by omega)])
            have h3 := HP16.out
            have h4 := hide (show p16 = 16 * (m + 1) by have := HP.out; omega)
            have h5 := hide (show p16 ≤ n + 15 by omega)
            clear h3
            go_wp2_with fail
            go_roundw
            case rel => exact ⟨m + 1, p16, f', h4.out, h5.out, by go_num, hE, hr, hbl⟩
            case measure => have := HP16.out; simp [intOf]; omega
        · have a1 : decide ((q : Int) < (p16 : Int)) = false := decide_eq_false (by omega)
          have hE := hide (show ∀ j, j < n → f' j = if j < p16 then ctrF K N T j else T j from fun j hj => by rw [hf.out j hj]; by_cases e : j < q; rw [if_pos e, if_pos (by omega)]; rw [if_neg e, if_neg (by omega)])
          have h3 := HP16.out
          have h4 := hide (show p16 = 16 * (m + 1) by have := HP.out; omega)
          have h5 := hide (show p16 ≤ n + 15 by omega)
          clear h3
          go_wp2_with fail
          go_roundw
          case rel => exact ⟨m + 1, p16, f', h4.out, h5.out, by go_num, hE, hr, hbl⟩
          case measure => have := HP16.out; simp [intOf]; omega
  · have hlt' : decide ((p : Int) < (n : Int)) = false := decide_eq_false (by omega)
    have hcv := conv_rowC (P := Tryz.prog) (cap := grownCap w2 n 0 5) (l := ctrL K N T n) hr (fun j hj => by rw [ctrL, List.getElem?_map, List.getElem?_range hj, hf.out j hj, if_pos (by omega)]; rfl) (by simp [ctrL]) Tryz.underlying22 Tryz.underlying5 Tryz.underlying9
    go_wp2_with fail
    go_ret
    exact ⟨rfl, hc2.out.trans (hbl.mono hc2.out.size)⟩
def ctrS (key : ByteArray) (nonce : Int) (text : ByteArray) : ByteArray := if key.size = 16 ∧ 0 ≤ nonce ∧ text.size ≤ 20000 then ⟨(ctrL (kB (keyF key)) nonce.toNat (bF text) text.size).toArray⟩ else ⟨#[]⟩
end Go.Proofs.YtconcnndghmdfaaGreatDoor

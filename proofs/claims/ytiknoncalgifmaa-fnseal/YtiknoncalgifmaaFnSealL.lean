/- The walk over the law FnSeal. -/
import Derived.Test.YtiknoncalgifmaaDrawSeal
import Derived.Test.YtiknoncalgifmaaLwAt
import Derived.Test.YtiknoncalgifmaaUnsealI
import Derived.Test.YtiknoncalgifmaaSealTurn
namespace Go.Proofs.Ytiknoncalgifmaa
open Go.RowKit

theorem cat_list (s t : ByteArray) : (s ++ t).data.toList = s.data.toList ++ t.data.toList := by simp
theorem BytesIn.mono {w : World} {B B' : Nat} {a : Option Addr} {len : Nat} (h : BytesIn w B a len) (hB : B ≤ B') : BytesIn w B' a len := by
  rcases h with h | ⟨b, off, rfl, hb, hc⟩
  · exact .inl h
  · exact .inr ⟨b, off, rfl, by omega, hc⟩

theorem row_cell {W : World} {G T cp i : Nat} {S : ByteArray} (h : W.heap[G]? = some (.cells (bytesRow S cp) T ((bytesRow S cp).size, (bytesRow S cp).size + 1))) (hi : i < S.size) :
    W.cell? ⟨G, i, none⟩ = some (.int .u8 ((S.data.toList[i]'(by rw [size_list]; exact hi)).toNat : Int)) ∧ W.frozen? ⟨G, i, none⟩ = false := by
  have hlt : i < (bytesRow S cp).size := by unfold bytesRow; simp; omega
  constructor
  · simp only [World.cell?, h]
    rw [bytesRow_at S cp i (by exact hi)]
    simp
  · simp only [World.frozen?, h]
    simp; omega

theorem field_code (x : ByteArray) (n c : Int) (w : World) : (Instr.field 27 (.agg #[.string x, .int .i64 n, .int .i64 c]) 2).run Try.prog w = .ok (.int .i64 c) w := by kernel_rfl

theorem turned_conv {P : Program} {W W6 : World} {G T cp i Y n src dst : Nat} {S : ByteArray} {fr : Nat × Nat} (_hi : i < S.data.toList.length) (hY : Y < 256)
    (h : W.heap[G]? = some (.cells ((bytesRow S cp).setIfInBounds i (.int .u8 (Y : Int))) T fr)) (hG : G < W.heap.size) (hB : Below W.heap.size W W6) (hs : P.underlying src = some (.slice T)) (he : P.underlying T = some (.int .u8)) (hd : P.underlying dst = some .string) (hn : S.data.toList.length = n) :
    (convert src dst (.slice (some ⟨G, 0, none⟩) n cp)).run P W6 = .ok (.string ⟨(S.data.toList.set i (UInt8.ofNat Y)).toArray⟩) W6 := by
  have hl : (S.data.toList.set i (UInt8.ofNat Y)).length = n := by rw [List.length_set]; exact hn
  rw [← hl]
  refine run_convert_bytes_back W6 src dst T ⟨G, 0, none⟩ cp _ hs he hd (fun j hj => ?_)
  have e1 : (⟨G, 0, none⟩ : Addr).add j = ⟨G, j, none⟩ := by by_cases hz : j = 0 <;> simp [Addr.add, hz]
  have h6 : W6.heap[G]? = some (.cells ((bytesRow S cp).setIfInBounds i (.int .u8 (Y : Int))) T fr) := (hB.block G hG).trans h
  rw [e1]
  simp only [World.cell?, h6]
  have hjS : j < S.data.toList.length := by rw [List.length_set] at hj; exact hj
  have hrow : (bytesRow S cp)[j]? = some (.int .u8 ((S.data.toList[j]).toNat : Int)) := by
    rw [bytesRow_at S cp j (by simpa using hjS)]; simp
  have hjr : j < (bytesRow S cp).size := (Array.getElem?_eq_some_iff.1 hrow).1
  by_cases hij : i = j
  · subst hij
    rw [Array.getElem?_setIfInBounds_self_of_lt hjr]
    simp
    omega
  · rw [Array.getElem?_setIfInBounds_ne hij, hrow, List.getElem_set_ne hij]; rfl

set_option maxRecDepth 100000 in
set_option maxHeartbeats 3200000 in
theorem fnSeal_main (a0 : Option Addr) (len0 cap0 : Nat) (a1 : Option Addr) (len1 cap1 : Nat) (w : World) (hl0 : len0 ≤ 1048576) (hl1 : len1 ≤ 1048576) (hb0 : BytesIn w w.heap.size a0 len0) (hb1 : BytesIn w w.heap.size a1 len1) :
    Calls Try.prog 3 #[.slice a0 len0 cap0, .slice a1 len1 cap1] w fun e w' => e = .returned (.bool true) ∧ Below w.heap.size w w' := by
  have HB0 := hide hb0
  have HB1 := hide hb1
  have hl0' : (len0 : Int) ≤ 1048576 := by omega
  have hl1' : (len1 : Int) ≤ 1048576 := by omega
  clear hb0 hb1
  go_enter Try.func3, Try.ntmps3
  go_wp2_with fail
  refine (drawSeal_any _ a0 len0 cap0 hl0 HB0.out).mono ?_
  rintro e w1 ⟨t, rfl, ht, hG1⟩
  by_cases hlong : 19996 < t.size
  · go_wp2_with fail
    refine (impl_seal_long t _ (by omega) hlong).mono ?_
    rintro e wx ⟨rfl, rfl⟩
    go_wp2_with fail
    refine (spec_seal_long t _ (by omega) hlong).mono ?_
    rintro e wx ⟨rfl, rfl⟩
    go_wp2_with fail
    refine (drawCrcMore_any _ a1 len1 cap1 hl1 (HB1.out.below (grownBy_toBelow hG1) (Nat.le_refl _) |>.mono (by have := hG1.size; omega))).mono ?_
    rintro e wd ⟨c, u, rfl, k0, k1, hu, hgd⟩
    have hGd := grownBy_none hG1 hgd
    clear hgd
    by_cases hsum : 20000 < t.size + u.size
    · have hsum' : 20000 < (t.size : Int) + (u.size : Int) := by omega
      go_wp2_with fail
      go_ret
      exact ⟨rfl, grownBy_toBelow hGd⟩
    have hsum' : (t.size : Int) + (u.size : Int) ≤ 20000 := by omega
    have hcc := crcMore_lt 0 t.data.toList (by omega)
    have HCC := hide (crcMore_more t.data.toList u.data.toList)
    by_cases hbad : u.size ≤ 20000 ∧ 0 ≤ c ∧ c ≤ 4294967295
    · obtain ⟨_, d0, d1⟩ := hbad
      obtain ⟨d, rfl⟩ := Int.eq_ofNat_of_zero_le d0
      go_wp2_with fail
      refine (impl_crcMore d u _ d1 (by omega)).mono ?_
      rintro e wx ⟨rfl, rfl⟩
      go_wp2_with fail
      refine (spec_crcMore d u _ d1 (by omega)).mono ?_
      rintro e wx ⟨rfl, rfl⟩
      go_wp2_with fail
      refine (impl_crc t _ (by omega)).mono ?_
      rintro e wx ⟨rfl, rfl⟩
      go_wp2_with fail
      refine (impl_crcMore _ u _ (by omega) (by omega)).mono ?_
      rintro e wx ⟨rfl, rfl⟩
      rw [unhide HCC]
      go_wp2_with fail
      refine (impl_crc (t ++ u) _ (by simp; omega)).mono ?_
      rintro e wx ⟨rfl, rfl⟩
      rw [cat_list]
      go_wp2_with fail
      go_ret
      exact ⟨rfl, grownBy_toBelow hGd⟩
    · have hb' : CrcBad c u := by unfold CrcBad; omega
      clear hbad
      go_wp2_with fail
      refine (impl_crcMore_bad c u _ (by omega) hb').mono ?_
      rintro e wx ⟨rfl, rfl⟩
      go_wp2_with fail
      refine (spec_crcMore_bad c u _ (by omega) hb').mono ?_
      rintro e wx ⟨rfl, rfl⟩
      go_wp2_with fail
      refine (impl_crc t _ (by omega)).mono ?_
      rintro e wx ⟨rfl, rfl⟩
      go_wp2_with fail
      refine (impl_crcMore _ u _ (by omega) (by omega)).mono ?_
      rintro e wx ⟨rfl, rfl⟩
      rw [unhide HCC]
      go_wp2_with fail
      refine (impl_crc (t ++ u) _ (by simp; omega)).mono ?_
      rintro e wx ⟨rfl, rfl⟩
      rw [cat_list]
      go_wp2_with fail
      go_ret
      exact ⟨rfl, grownBy_toBelow hGd⟩
  · go_wp2_with fail
    refine (impl_seal t _ (by omega)).mono ?_
    rintro e w2 ⟨rfl, hB2⟩
    have hG2 := grownBy_none hG1 (below_grownBy hB2)
    clear hB2 hG1
    go_wp2_with fail
    refine (spec_seal t _ (by omega)).mono ?_
    rintro e w3 ⟨rfl, hB3⟩
    have hG3 := grownBy_none hG2 (below_grownBy hB3)
    clear hB3 hG2
    have hemp : (sealB t).toList.isEmpty = false := by
      rw [ByteArray.toList_eq]
      have := seal_size t
      rw [← size_list] at this
      cases h : (sealB t).data.toList with
      | nil => rw [h] at this; simp at this
      | cons _ _ => rfl
    have hss := seal_size t
    have hcv := run_bytes_of_string (P := Try.prog) w3 9 22 5 (sealB t) Try.underlying9 Try.underlying22 Try.underlying5
    generalize hcap : grownCap w3 (sealB t).size 0 5 = cp at *
    clear hcap
    go_wp2_with fail
    refine (lwAt_any _ w.heap.size a1 len1 cap1 0 _ hl1 (by omega) (by omega) ?_ ?_).mono ?_
    · omega
    · exact HB1.out.below (grownBy_toBelow (grownBy_alloc (grownBy_drew hG3) _)) (Nat.le_refl _)
    rintro e w4 ⟨v, rfl, v0, v1, rfl⟩
    obtain ⟨i, rfl⟩ := Int.eq_ofNat_of_zero_le v0
    have hi : i < (sealB t).data.toList.length := by rw [size_list]; omega
    have hi' : (i : Int) < ((sealB t).size : Int) := by rw [size_list] at hi; omega
    have hi4 : (i : Int) < (t.size : Int) + 4 := by omega
    clear v1
    go_wp2_with fail
    have hG4 : w.grownBy (w3.alloc (Obj.cells (bytesRow (sealB t) cp) 5 ((bytesRow (sealB t) cp).size, (bytesRow (sealB t) cp).size + 1))).drew none := grownBy_alloc (grownBy_drew hG3) _
    have hsz4 : (w3.alloc (Obj.cells (bytesRow (sealB t) cp) 5 ((bytesRow (sealB t) cp).size, (bytesRow (sealB t) cp).size + 1))).drew.heap.size = w3.heap.size + 1 := by simp
    have hrow : (w3.alloc (Obj.cells (bytesRow (sealB t) cp) 5 ((bytesRow (sealB t) cp).size, (bytesRow (sealB t) cp).size + 1))).drew.heap[w3.heap.size]? = some (.cells (bytesRow (sealB t) cp) 5 ((bytesRow (sealB t) cp).size, (bytesRow (sealB t) cp).size + 1)) := heap_alloc_new w3 _
    generalize (w3.alloc (Obj.cells (bytesRow (sealB t) cp) 5 ((bytesRow (sealB t) cp).size, (bytesRow (sealB t) cp).size + 1))).drew = W at *
    obtain ⟨hci, hfi⟩ := row_cell hrow (by rw [size_list] at hi; exact hi)
    have HB4 := hide (HB1.out.below (grownBy_toBelow hG4) (Nat.le_refl _))
    have HROW := hide hrow
    have HSZ := hide hsz4
    generalize hz : (sealB t).data.toList[i] = zb at *
    have HZ := hide hz
    clear hrow hsz4 hcv hz
    go_region_with (go_at_call 10; refine (lwAt_any _ w.heap.size a1 len1 cap1 1 255 hl1 ?_ ?_ ?_ ?_).mono ?_; omega; omega; omega; exact HB4.out; rintro e w' ⟨v2, rfl, x0, x1, rfl⟩)
    all_goals
      obtain ⟨x2, rfl⟩ := Int.eq_ofNat_of_zero_le x0
      have hx2 : x2 < 255 := by omega
      clear x1 HB4 hci hfi
      have hwx : IntKind.u8.wrap (IntKind.i64.wrap (1 + (x2 : Int))) = ((x2 + 1 : Nat) : Int) := by rw [IntKind.wrap_i64, IntKind.wrap_u8]; omega
      rw [hwx]
      obtain ⟨Y, hY, hY256, hYne⟩ := xor_turn zb.toNat (x2 + 1) (by have := zb.toNat_lt; omega) (by omega) (by omega)
      rw [hY]
      have hG5 : w.grownBy (W.setCell ⟨w3.heap.size, i, none⟩ (.int .u8 (Y : Int))).drew none := grownBy_drew (grownBy_set_new hG4 hG3.size _)
      have hrow5 : (W.setCell ⟨w3.heap.size, i, none⟩ (.int .u8 (Y : Int))).drew.heap[w3.heap.size]? = some (.cells ((bytesRow (sealB t) cp).setIfInBounds i (.int .u8 (Y : Int))) 5 ((bytesRow (sealB t) cp).size, (bytesRow (sealB t) cp).size + 1)) := Go.Lib.heap_setCell_same HROW.out _
      have hsz5 : w3.heap.size < (W.setCell ⟨w3.heap.size, i, none⟩ (.int .u8 (Y : Int))).drew.heap.size := (Array.getElem?_eq_some_iff.1 hrow5).1
      generalize (W.setCell ⟨w3.heap.size, i, none⟩ (.int .u8 (Y : Int))).drew = W5 at *
      have HROW5 := hide hrow5
      have HYne := hide hYne
      clear hrow5 HROW HSZ hwx hY hYne hG4
      go_wp2_with fail
      refine (impl_unseal_yes (sealB t) _ ?_ ?_ (sealed_self t)).mono ?_
      · omega
      · omega
      rintro e w6 ⟨rfl, hB6⟩
      rw [body_self]
      unfold textOut
      have hcv2 := turned_conv (P := Try.prog) (Y := Y) (n := t.size + 4) hi hY256 HROW5.out hsz5 hB6 Try.underlying22 Try.underlying5 Try.underlying9 (by rw [size_list]; exact hss)
      have HN := hide (unsealed_turn t i (UInt8.ofNat Y) hi (by rw [HZ.out]; intro e; exact HYne.out (by have := congrArg UInt8.toNat e; simp [UInt8.toNat_ofNat'] at this; omega)))
      have hS2 : (⟨((sealB t).data.toList.set i (UInt8.ofNat Y)).toArray⟩ : ByteArray).size = t.size + 4 := by rw [size_mk, List.length_set, size_list]; exact hss
      generalize (⟨((sealB t).data.toList.set i (UInt8.ofNat Y)).toArray⟩ : ByteArray) = S2 at *
      have hG6 := grownBy_none hG5 (below_grownBy hB6)
      clear hB6 hG5 HROW5 HYne HZ hi
      go_wp2_with fail
      refine (impl_unseal_no S2 _ ?_ ?_ HN.out).mono ?_
      · omega
      · omega
      rintro e w7 ⟨rfl, hB7⟩
      unfold textOut
      have hG7 := grownBy_none hG6 (below_grownBy hB7)
      clear hB7 hG6 HN hS2 hcv2
      have hfc := field_code
      go_wp2_with fail
      refine (drawCrcMore_any _ a1 len1 cap1 hl1 (HB1.out.below (grownBy_toBelow hG7) (Nat.le_refl _) |>.mono (by have := hG7.size; omega))).mono ?_
      rintro e wd ⟨c, u, rfl, k0, k1, hu, hgd⟩
      have hGd := grownBy_none hG7 hgd
      clear hgd
      by_cases hsum : 20000 < t.size + u.size
      · have hsum' : 20000 < (t.size : Int) + (u.size : Int) := by omega
        go_wp2_with fail
        go_ret
        exact ⟨rfl, grownBy_toBelow hGd⟩
      have hsum' : (t.size : Int) + (u.size : Int) ≤ 20000 := by omega
      have hcc := crcMore_lt 0 t.data.toList (by omega)
      have HCC := hide (crcMore_more t.data.toList u.data.toList)
      by_cases hbad : u.size ≤ 20000 ∧ 0 ≤ c ∧ c ≤ 4294967295
      · obtain ⟨_, d0, d1⟩ := hbad
        obtain ⟨d, rfl⟩ := Int.eq_ofNat_of_zero_le d0
        go_wp2_with fail
        refine (impl_crcMore d u _ d1 (by omega)).mono ?_
        rintro e wx ⟨rfl, rfl⟩
        go_wp2_with fail
        refine (spec_crcMore d u _ d1 (by omega)).mono ?_
        rintro e wx ⟨rfl, rfl⟩
        go_wp2_with fail
        refine (impl_crc t _ (by omega)).mono ?_
        rintro e wx ⟨rfl, rfl⟩
        go_wp2_with fail
        refine (impl_crcMore _ u _ (by omega) (by omega)).mono ?_
        rintro e wx ⟨rfl, rfl⟩
        rw [unhide HCC]
        go_wp2_with fail
        refine (impl_crc (t ++ u) _ (by simp; omega)).mono ?_
        rintro e wx ⟨rfl, rfl⟩
        rw [cat_list]
        go_wp2_with fail
        go_ret
        exact ⟨rfl, grownBy_toBelow hGd⟩
      · have hb' : CrcBad c u := by unfold CrcBad; omega
        clear hbad
        go_wp2_with fail
        refine (impl_crcMore_bad c u _ (by omega) hb').mono ?_
        rintro e wx ⟨rfl, rfl⟩
        go_wp2_with fail
        refine (spec_crcMore_bad c u _ (by omega) hb').mono ?_
        rintro e wx ⟨rfl, rfl⟩
        go_wp2_with fail
        refine (impl_crc t _ (by omega)).mono ?_
        rintro e wx ⟨rfl, rfl⟩
        go_wp2_with fail
        refine (impl_crcMore _ u _ (by omega) (by omega)).mono ?_
        rintro e wx ⟨rfl, rfl⟩
        rw [unhide HCC]
        go_wp2_with fail
        refine (impl_crc (t ++ u) _ (by simp; omega)).mono ?_
        rintro e wx ⟨rfl, rfl⟩
        rw [cat_list]
        go_wp2_with fail
        go_ret
        exact ⟨rfl, grownBy_toBelow hGd⟩
end Go.Proofs.Ytiknoncalgifmaa

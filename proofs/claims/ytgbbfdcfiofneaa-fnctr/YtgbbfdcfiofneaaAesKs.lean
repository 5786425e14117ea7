/- The walk over the model's AesKeys. -/
import Derived.Test.YtgbbfdcfiofneaaAesC
import Derived.OwnWalk
import Derived.Deep.AppendLies
namespace Go.Proofs.Ytgbbfdcfiofneaa
open Go.RowKit
attribute [local irreducible] times sbox
/-- The key of round k. -/
def roundKey (K : Nat → UInt8) (k : Nat) : ByteArray := ⟨((List.range 16).map fun j => K (16 * k + j)).toArray⟩
def roundKeys (K : Nat → UInt8) (n : Nat) : List ByteArray := (List.range n).map (roundKey K)
theorem roundKeys_succ (K : Nat → UInt8) (n : Nat) : roundKeys K n ++ [roundKey K n] = roundKeys K (n + 1) := by simp [roundKeys, List.range_succ]
theorem roundKeys_len (K : Nat → UInt8) (n : Nat) : (roundKeys K n).length = n := by simp [roundKeys]
theorem Try.infoStr : (Try.prog.info? 9).map (fun i => (i.zero, i.size, i.bytes)) = some (some (.string ⟨#[]⟩), 1, 16) := by kernel_rfl
theorem key_conv {P : Program} {w : World} {g p c src dst e k : Nat} {K : Nat → UInt8} (h : ∀ j, j < 176 → w.cell? ⟨g, j, none⟩ = some (.int .u8 ((K j).toNat : Int))) (hp : p = 16 * k) (hk : k < 11) (hs : P.underlying src = some (.slice e)) (he : P.underlying e = some (.int .u8)) (hd : P.underlying dst = some .string) :
    (convert src dst (.slice (some ⟨g, p, none⟩) 16 c)).run P w = .ok (.string (roundKey K k)) w := by
  have hn : ((List.range 16).map fun j => K (16 * k + j)).length = 16 := by simp
  have hr := run_convert_bytes_back (P := P) w src dst e ⟨g, p, none⟩ c ((List.range 16).map fun j => K (16 * k + j)) hs he hd (fun j hj => by
    rw [hn] at hj
    rw [Addr.add_lit, h (p + j) (by omega), hp]
    simp)
  rw [hn] at hr
  exact hr
set_option maxRecDepth 100000 in
set_option maxHeartbeats 1600000 in
theorem spec_aesKeys (key : ByteArray) (w : World) (_hk : key.size ≤ 9223372036854775807) :
    Calls Try.prog 15 #[.string key] w fun e w' => ∃ v, e = .returned v ∧ w'.ownsRow w.heap.size 9 1 v (roundKeys (kB (keyF key)) (if key.size = 16 then 11 else 0)).length ((roundKeys (kB (keyF key)) (if key.size = 16 then 11 else 0)).map Value.string) ∧ Below w.heap.size w w' := by
  obtain ⟨i0, hi, hz0, hz1, hz2⟩ := info_parts Try.infoStr
  have hown0 := hide (show (w.alloc (.cells #[] 9)).ownsRow w.heap.size 9 1 (.slice (some ⟨w.heap.size, 0, none⟩) 0 0) 0 [] by
    have h := World.ownsRow_made (e := 9) (size := 1) (base := w.heap.size) w #[] 0 (Nat.le_refl _) (by decide) (by simp)
    simpa using h)
  by_cases h16 : key.size = 16
  · rw [if_pos h16]
    have h' : (key.size : Int) = 16 := by omega
    obtain ⟨K, hK⟩ : ∃ K, K = kB (keyF key) := ⟨_, rfl⟩
    rw [← hK]
    have HK := hide hK
    clear hK
    go_enter Try.func15, Try.ntmps15
    have hb0 := hide ((Below.refl w.heap.size w).alloc (Nat.le_refl _) (.cells #[] 9))
    have hsz0 : (w.alloc (.cells #[] 9)).heap.size = w.heap.size + 1 := by simp
    go_wp2_with fail
    generalize w.alloc (.cells #[] 9) = W0 at *
    obtain ⟨gb, hgb⟩ : ∃ g, g = W0.heap.size := ⟨_, rfl⟩
    refine (spec_box W0).mono ?_
    rintro e w1 ⟨rfl, hbx, hb1⟩
    rw [← hgb] at hbx hb1 hsz0 ⊢
    have HBX := hide hbx
    have hlt1 := hbx.lt
    have hown1 := hide (hown0.out.kept (below_grownBy (hgb ▸ hb1)) (by right; simp [Value.ownBlock]))
    have hc1 := hide (hb0.out.trans (hb1.mono (by omega)))
    clear hbx hown0 hb0 hb1 hgb
    have HSZ := hide hsz0
    clear hsz0
    go_wp2_with fail
    refine (spec_keysA key gb w1 h16 hlt1 HBX.out).mono ?_
    rintro e w2 ⟨gw, cw, rfl, hr, hb2⟩
    have HR := hide (show ∀ j, j < 176 → w2.cell? ⟨gw, j, none⟩ = some (.int .u8 ((K j).toNat : Int)) by rw [HK.out]; exact kL_cellsK hr)
    obtain ⟨_, hcw, hgw1, hgw2⟩ := hr.facts
    have hown2 := hide (hown1.out.kept (below_grownBy hb2) (by right; simp [Value.ownBlock]))
    have hc2 := hide (below3A hc1.out hb2)
    have hwg : w.heap.size < gw := by have := HSZ.out; omega
    clear hr hb2 hown1 hc1 HBX
    go_wp2_with fail
    go_loopw [3, 5] (fun v i wx => ∃ k : Nat, k ≤ 11 ∧ i = .int .i64 k ∧ wx.ownsRow w.heap.size 9 1 v k ((roundKeys K k).map Value.string) ∧ v.ownBlock ≠ some gw ∧ gw < wx.heap.size ∧ Hid (∀ j, j < 176 → wx.cell? ⟨gw, j, none⟩ = some (.int .u8 ((K j).toNat : Int))) ∧ Hid (Below w.heap.size w wx)) (fun _ i _ => 11 - (intOf i).toNat)
    case atStart => exact ⟨0, by omega, rfl, hown2.out, by simp [Value.ownBlock]; omega, hgw2, HR, hc2⟩
    case round =>
      clear HR hown2 hc2
      obtain ⟨k, hk, rfl, hown, hne, hlt, HR, hbl⟩ := hrel
      by_cases hklt : k < 11
      · obtain ⟨p, ep⟩ : ∃ q, q = 16 * k := ⟨_, rfl⟩
        obtain ⟨p2, ep2⟩ : ∃ q, q = 16 * k + 16 := ⟨_, rfl⟩
        have w0 : IntKind.i64.wrap (16 * (k : Int)) = (p : Int) := by simp only [IntKind.wrap_i64]; omega
        have w1 : IntKind.i64.wrap ((p : Int) + 16) = (p2 : Int) := by simp only [IntKind.wrap_i64]; omega
        have l1 : (p : Int) ≤ (p2 : Int) := by omega
        have l2 : (p2 : Int) ≤ (cw : Int) := by omega
        have d16 : p2 - p = 16 := by omega
        have hnc : ¬ cw = p := by omega
        have hcv := key_conv (P := Try.prog) (c := cw - p) HR.out ep hklt Try.underlying22 Try.underlying5 Try.underlying9
        obtain ⟨R, hR⟩ : ∃ R, R = roundKey K k := ⟨_, rfl⟩
        rw [← hR] at hcv
        have HRK := hide hR
        have hbs := hbl.out.size
        clear ep ep2 hR
        go_wp2_with (at_builtin; refine wpList_append_lies _ rfl _ _ 29 rfl w.heap.size 9 i0 (.string ⟨#[]⟩) 1 16 Try.underlying29 hi hz0 hz1 hz2 rfl (by omega) u3 k ((roundKeys K k).map Value.string) rfl (hown.alloc _) ⟨wr.heap.size, 0, none⟩ 1 1 [.string R] rfl rfl (one_cell wr _ _) (by intro u hu; simp at hu; subst hu; rfl) (by omega) (by unfold maxLen; omega) (by omega) (by simp; omega) (wr.heap.size + 1) (by simp) ?_)
        intro g' cap' w' hown' hg' hat' hlt'
        have R1 : w'.ownsRow w.heap.size 9 1 (.slice (some ⟨g', 0, none⟩) (k + 1) cap') (k + 1) ((roundKeys K (k + 1)).map Value.string) := by
          rw [← roundKeys_succ, List.map_append, ← HRK.out]; exact hown'
        have R2 : (Value.slice (some ⟨g', 0, none⟩) (k + 1) cap').ownBlock ≠ some gw := by
          intro e
          have e1 : g' = gw := by simpa [Value.ownBlock] using e
          subst e1
          rcases hat' with h | h
          · exact hne h
          · omega
        have R3 : gw < w'.heap.size := by have := hg'.size; simp at this; omega
        have R4 := hide (show ∀ j, j < 176 → w'.cell? ⟨gw, j, none⟩ = some (.int .u8 ((K j).toNat : Int)) from fun j hj => (World.grownBy.cell_far hg' ⟨gw, j, none⟩ (by simp; omega) (fun e => hne e.symm)).trans ((World.cell?_alloc_past (w := wr) _ gw j hlt).trans (HR.out j hj)))
        have R5 := hide (((hbl.out.alloc hbs _)).grown hg' (by simp; omega) (fun x hx => (hown.lt x hx).1))
        clear hown' hg' hat' hlt' hcv w0 w1 l1 l2 d16 hnc hown HR hbl
        go_wp2_with fail
        go_roundw
        case rel => exact ⟨k + 1, by omega, by go_num, R1, R2, R3, R4, R5⟩
        case measure => simp [intOf]; omega
      · have e11 : k = 11 := by omega
        subst e11
        go_wp2_with fail
        go_ret
        exact ⟨_, rfl, by rw [roundKeys_len]; exact hown, hbl.out⟩
  · rw [if_neg h16]
    have h' : ¬ (key.size : Int) = 16 := by omega
    go_enter Try.func15, Try.ntmps15
    go_wp2_with fail
    go_ret
    exact ⟨_, rfl, hown0.out, (Below.refl _ _).alloc (Nat.le_refl _) _⟩
end Go.Proofs.Ytgbbfdcfiofneaa

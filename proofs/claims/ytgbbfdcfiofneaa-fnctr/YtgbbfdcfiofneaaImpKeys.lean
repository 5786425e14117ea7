/- The walk over the program's AesKeys. -/
import Derived.Test.YtgbbfdcfiofneaaImpCip2
import Derived.Test.YtgbbfdcfiofneaaHeldOne
import Derived.Test.YtgbbfdcfiofneaaAesKs
namespace Go.Proofs.Ytgbbfdcfiofneaa
open Go.RowKit
attribute [local irreducible] times sbox dbl dU
theorem Try.sizeKeys : (Try.prog.info? 57).map (·.size) = some 176 := by kernel_rfl
theorem Try.size16k : (Try.prog.info? 48).map (·.size) = some 16 := by kernel_rfl
set_option maxRecDepth 100000 in
set_option maxHeartbeats 1600000 in
theorem imp_aesKeys (key : ByteArray) (w : World) (_hk : key.size ≤ 9223372036854775807) :
    Calls Try.prog 14 #[.string key] w fun e w' => ∃ v, e = .returned v ∧ w'.ownsRow w.heap.size 9 1 v (roundKeys (kB (keyF key)) (if key.size = 16 then 11 else 0)).length ((roundKeys (kB (keyF key)) (if key.size = 16 then 11 else 0)).map Value.string) ∧ Below w.heap.size w w' := by
  obtain ⟨i0, hi, hz0, hz1, hz2⟩ := info_parts Try.infoStr
  have hown0 := hide (show w.ownsRow w.heap.size 9 1 (.slice none 0 0) 0 [] from ⟨rfl, .inl ⟨rfl, rfl⟩⟩)
  by_cases h16 : key.size = 16
  · rw [if_pos h16]
    have h' : (key.size : Int) = 16 := by omega
    obtain ⟨K, hK⟩ : ∃ K, K = kB (bF key) := ⟨_, rfl⟩
    have HK := hide (show kB (keyF key) = K from hK.symm)
    rw [show kB (keyF key) = K from hK.symm]
    go_enter Try.func14, Try.ntmps14
    go_wp2_with fail
    refine (imp_cipher key _ h16).mono ?_
    rintro e w1 ⟨g, rfl, hgg, rc, hb1⟩
    rw [← hK] at rc
    clear hK
    go_wp2_with (first | (with_reducible (show wpList _ _ _ ({ dst := _, op := .load _ (.tmp 12), type := _, pos := _, after := _, guard := _ } :: _) _ _); refine wpList_load_B rfl 57 (.tmp 12) rfl g 256 rfl _ _ 176 _ K _ rc (Nat.le_refl _) (fun j _ => by rw [cipF, if_neg (by omega), show 256 + j - 256 = j by omega]) Try.underlying57 rfl Try.sizeKeys ?_))
    have hown1 := hide (hown0.out.kept (below_grownBy hb1) (Classical.em _))
    have hb1' := hide hb1
    clear rc hb1 hown0 hgg
    go_loopw [3, 14] (fun v i wx => ∃ k : Nat, k ≤ 11 ∧ i = .int .i64 k ∧ wx.ownsRow w.heap.size 9 1 v k ((roundKeys K k).map Value.string) ∧ Hid (Below w.heap.size w wx)) (fun _ i _ => 11 - (intOf i).toNat)
    case atStart => exact ⟨0, by omega, rfl, hown1.out, hb1'⟩
    case round =>
      clear hown1 hb1'
      obtain ⟨k, hk, rfl, hown, hbl⟩ := hrel
      by_cases hklt : k < 11
      · have hk' : (k : Int) < 11 := by omega
        obtain ⟨L, hL⟩ : ∃ L : Nat → UInt8, L = fun j => K (16 * k + j) := ⟨_, rfl⟩
        have HL := hide (show ∀ j, L j = K (16 * k + j) from fun j => by rw [hL])
        have hidx : ∀ w, (Instr.index 57 (.agg (bL 176 K).toArray) (.int .i64 (k : Int))).run Try.prog w = .ok (.agg (bL 16 L).toArray) w := run_index_part 57 48 11 16 176 K L _ k Try.underlying57 Try.underlying48 rfl Try.size16k hklt rfl (fun j _ => HL.out j)
        have z0 : (wr.alloc (.cells #[Value.int .u8 0, Value.int .u8 0, Value.int .u8 0, Value.int .u8 0, Value.int .u8 0, Value.int .u8 0, Value.int .u8 0, Value.int .u8 0, Value.int .u8 0, Value.int .u8 0, Value.int .u8 0, Value.int .u8 0, Value.int .u8 0, Value.int .u8 0, Value.int .u8 0, Value.int .u8 0] 48)).rowIs wr.heap.size 48 16 (u8V fun _ => 0) := zeros8_row 16 wr _ _ rfl
        have hst := run_stB (P := Try.prog) (k := L) (row_there (o := 0) (n := 16) z0 (by omega))
        have lL : (bL 16 L).length = 16 := bL_len 16 L
        have se := row_setCells0 (k := L) z0
        have hcv := conv_row (P := Try.prog) (cap := 16) (l := (List.range 16).map fun j => K (16 * k + j)) se (fun j hj => by rw [List.getElem?_map, List.getElem?_range hj, HL.out]; rfl) (by simp) Try.underlying22 Try.underlying5 Try.underlying9
        have hbW := below_setCells' (b := wr.heap.size) (o := 0) (vs := bL 16 L) ((Below.refl wr.heap.size wr).alloc (Nat.le_refl _) (.cells #[Value.int .u8 0, Value.int .u8 0, Value.int .u8 0, Value.int .u8 0, Value.int .u8 0, Value.int .u8 0, Value.int .u8 0, Value.int .u8 0, Value.int .u8 0, Value.int .u8 0, Value.int .u8 0, Value.int .u8 0, Value.int .u8 0, Value.int .u8 0, Value.int .u8 0, Value.int .u8 0] 48)) (Nat.le_refl _)
        have hownW := hown.kept (below_grownBy hbW) (Classical.em _)
        have hbl2 := hide (hbl.out.trans (hbW.mono hbl.out.size))
        have szW := hide (show ((wr.alloc (.cells #[Value.int .u8 0, Value.int .u8 0, Value.int .u8 0, Value.int .u8 0, Value.int .u8 0, Value.int .u8 0, Value.int .u8 0, Value.int .u8 0, Value.int .u8 0, Value.int .u8 0, Value.int .u8 0, Value.int .u8 0, Value.int .u8 0, Value.int .u8 0, Value.int .u8 0, Value.int .u8 0] 48)).setCells wr.heap.size 0 (bL 16 L)).heap.size = wr.heap.size + 1 by rw [size_setCells, World.size_alloc])
        obtain ⟨R, hR⟩ : ∃ R, R = roundKey K k := ⟨_, rfl⟩
        have e1 : (⟨((List.range 16).map fun j => K (16 * k + j)).toArray⟩ : ByteArray) = R := by rw [hR]; rfl
        rw [e1] at hcv
        have HRK := hide hR
        have hbs := hbl.out.size
        clear hL hR e1 z0 se hown hbW
        generalize hWW : (wr.alloc (.cells #[Value.int .u8 0, Value.int .u8 0, Value.int .u8 0, Value.int .u8 0, Value.int .u8 0, Value.int .u8 0, Value.int .u8 0, Value.int .u8 0, Value.int .u8 0, Value.int .u8 0, Value.int .u8 0, Value.int .u8 0, Value.int .u8 0, Value.int .u8 0, Value.int .u8 0, Value.int .u8 0] 48)).setCells wr.heap.size 0 (bL 16 L) = W5 at *
        go_wp2_with (at_builtin; refine wpList_append_lies _ rfl _ _ 29 rfl w.heap.size 9 i0 (.string ⟨#[]⟩) 1 16 Try.underlying29 hi hz0 hz1 hz2 rfl (by omega) u3 k ((roundKeys K k).map Value.string) rfl (hownW.alloc _) ⟨W5.heap.size, 0, none⟩ 1 1 [.string R] rfl rfl (one_cell W5 _ _) (by intro u hu; simp at hu; subst hu; rfl) (by omega) (by unfold maxLen; omega) (by omega) (by have := szW.out; simp; omega) (W5.heap.size + 1) (by simp) ?_)
        intro g' cap' w' hown' hg' hat' hlt'
        have R1 : w'.ownsRow w.heap.size 9 1 (.slice (some ⟨g', 0, none⟩) (k + 1) cap') (k + 1) ((roundKeys K (k + 1)).map Value.string) := by
          rw [← roundKeys_succ, List.map_append, ← HRK.out]; exact hown'
        have R5 := hide (((hbl2.out.alloc hbl2.out.size _)).grown hg' (by have := szW.out; simp; omega) (fun x hx => (hownW.lt x hx).1))
        clear hown' hg' hat' hlt' hcv hst lL hidx hownW hbl2 hbl szW hWW
        go_wp2_with fail
        go_roundw
        case rel => exact ⟨k + 1, by omega, by go_num, R1, R5⟩
        case measure => simp [intOf]; omega
      · have e11 : k = 11 := by omega
        subst e11
        go_wp2_with fail
        go_ret
        exact ⟨_, rfl, by rw [roundKeys_len]; exact hown, hbl.out⟩
  · rw [if_neg h16]
    have h' : ¬ (key.size : Int) = 16 := by omega
    go_enter Try.func14, Try.ntmps14
    go_wp2_with fail
    go_ret
    exact ⟨_, rfl, hown0.out, Below.refl _ _⟩
end Go.Proofs.Ytgbbfdcfiofneaa

/- The walks over a source's bytes and edge. -/
import Derived.Test.YtipeelkmmjgehabSrcS
import Derived.Test.YtipeelkmmjgehabOwnConv
namespace Go.Proofs.Ytipeelkmmjgehab
open Go.RowKit

theorem Try.infoV8 : (Try.prog.info? 5).map (fun i => (i.zero, i.size, i.bytes)) = some (some (.int .u8 0), 1, 1) := by kernel_rfl

set_option maxRecDepth 100000 in
set_option maxHeartbeats 1600000 in
theorem src_bytes (B : Nat) (w : World) (g : Nat) (a : Option Addr) (len cap : Nat) (n : Nat) (hn : n ≤ 1048576) (hs : Src 88 B w g a len cap) :
    Calls Try.prog 37 #[.pointer (some ⟨g, 0, none⟩), .int .i64 n] w fun e w' => ∃ t : ByteArray, e = .returned (.string t) ∧ t.size = n ∧ Src 88 B w' g a len cap ∧ w.grownBy w' (some g) := by
  have hlt := hs.lt
  have hBg := hs.1
  have HS := hide hs
  clear hs
  obtain ⟨i0, hi, hz0, hz1, hz2⟩ := info_parts Try.infoV8
  go_enter Try.func37, Try.ntmps37
  go_wp2_with fail
  go_loopw [5, 6] (fun v i wr => ∃ (l : List UInt8), l.length ≤ n ∧ i = .int .i64 l.length ∧ wr.ownsRow w.heap.size 5 1 v l.length (l.map byteV) ∧ Hid (Src 88 B wr g a len cap) ∧ w.grownBy wr (some g)) (fun _ i _ => n - (intOf i).toNat)
  case atStart => exact ⟨[], by simp, rfl, by simpa using World.ownsRow_made (e := 5) (size := 1) (base := w.heap.size) w #[] 0 (Nat.le_refl _) (by decide) (by simp), HS.out.kept (grownBy_alloc (World.grownBy.refl w none) _) (fun k hk => by cases hk) (by omega), grownBy_alloc (World.grownBy.refl _ _) _⟩
  case round =>
    obtain ⟨l, hl, rfl, hown, hsr, hg⟩ := hrel
    have hsz := hg.size
    by_cases hlt2 : l.length < n
    · have hlt' : (l.length : Int) < (n : Int) := by omega
      go_wp2_with fail
      refine (src_n B _ g a len cap 256 (by omega) hsr.out).mono ?_
      rintro e w1 ⟨x, rfl, x0, x1, hs1, hg1⟩
      have hx : x < 256 := by omega
      have hown1 := hown.kept hg1 (by
        rcases hq : u5.ownBlock with _ | q
        · exact .inl rfl
        · refine .inr ?_
          intro he
          have := (hown.lt q hq).1
          simp at he
          omega)
      have hg2 := grownBy_trans hg hg1
      have HS1 := hide hs1
      have hsz1 := hg2.size
      clear hown hg hg1 hs1 hsr
      go_wp2_with (at_builtin; refine wpList_append_own _ rfl _ _ 22 rfl w.heap.size 5 i0 (.int .u8 0) 1 1 Try.underlying22 hi hz0 hz1 hz2 rfl (by decide) _ _ _ rfl (hown1.alloc _) ⟨w1.heap.size, 0, none⟩ 1 1 [.int .u8 x] rfl rfl (one_cell _ _ _) (one_oneCell _ _) ?c3 ?c4 ?c5 ?_)
      case c3 => unfold maxLen; omega
      case c4 => omega
      case c5 => simp; omega
      intro v' w2 hown2 hgrow _
      have R1 := own_push (UInt8.ofNat x.toNat) hown2 (by rw [ofNat_byte _ (by omega)]; omega)
      have R2 := push_below hown1 hg2 hgrow
      have R3 : Src 88 B w2 g a len cap := (HS1.out.kept (grownBy_alloc (World.grownBy.refl w1 none) _) (fun k hk => by cases hk) (by omega)).kept hgrow (fun k hk => by have := (hown1.lt k hk).1; omega) (by simp; omega)
      have HR := hide R3
      clear hown1 hown2 hgrow hg2 R3 HS1
      go_wp2_with fail
      go_roundw
      case rel => exact ⟨l ++ [UInt8.ofNat x.toNat], by simp; omega, by simp, R1, HR, R2⟩
      case measure => simp [intOf]; omega
    · have hcv := own_conv (P := Try.prog) hown Try.underlying22 Try.underlying5 Try.underlying9
      clear hown
      go_wp2_with fail
      go_ret
      exact ⟨_, rfl, by rw [size_mk]; omega, hsr.out, hg⟩
end Go.Proofs.Ytipeelkmmjgehab

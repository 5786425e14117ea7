/- The walk over the program's RangeEncode. -/
import Derived.Test.YtdoodkabmeojmaaLayNum
import Derived.Test.YtdoodkabmeojmaaRngE
import Derived.Test.YtdoodkabmeojmaaRngF
namespace Go.Proofs.Ytdoodkabmeojmaa
open Go.RowKit
theorem BitsAt.below {w w' : World} {B : Nat} {v : Value} {l : List (Nat × Bool)} (h : BitsAt w B v l) (hb : Below B w w') : BitsAt w' B v l := by
  obtain ⟨a, cap, e, hc, h⟩ := h
  refine ⟨a, cap, e, hc, ?_⟩
  rcases h with h | ⟨r, o, e2, hr, hcell⟩
  · exact .inl h
  · exact .inr ⟨r, o, e2, hr, fun j x hx => ⟨(hb.cell (p := ⟨r, o + 2 * j, none⟩) hr).trans (hcell j x hx).1, (hb.cell (p := ⟨r, o + 2 * j + 1, none⟩) hr).trans (hcell j x hx).2⟩⟩
set_option maxRecDepth 100000 in
set_option maxHeartbeats 800000 in
theorem imp_rangeEncode (v : Value) (l : List (Int × Bool)) (w : World) (hlen : l.length ≤ 9223372036854775807) (hb : BitsI w w.heap.size v l) :
    Calls Try.prog 9 #[v] w fun e w' => e = .returned (.string (encS l)) ∧ Below w.heap.size w w' := by
  have hb0 := hide hb
  obtain ⟨a, cap, rfl, hcap, hbits⟩ := hb
  clear hbits
  by_cases h400 : l.length ≤ 400
  · have h4' : ¬ (400 : Int) < (l.length : Int) := by omega
    have h4d : decide ((400 : Int) < (l.length : Int)) = false := decide_eq_false h4'
    by_cases hall : bitsOk l
    · have hE := hide (show encS l = ⟨(codeOf (bitsN l)).toArray⟩ from if_pos ⟨h400, hall⟩)
      have SC := hide (imp_containsBit _ l true w hlen hb0.out ⟨fun _ => hall, fun _ => rfl⟩)
      have HALL := hide hall
      clear hall
      go_enter Try.func9, Try.ntmps9
      go_wp2_with fail
      refine SC.out.mono ?_
      rintro e w1 ⟨rfl, hb1⟩
      clear SC
      go_wp2_with fail
      refine (imp_newCoder w1).mono ?_
      rintro e w2 ⟨g, rfl, hg2, hc2, hb2⟩
      obtain ⟨L, hL⟩ : ∃ L, L = bitsN l := ⟨_, rfl⟩
      have hlL : L.length = l.length := by rw [hL]; simp [bitsN]
      have HLE := hide hL
      have B2 := hide (hb1.trans (hb2.mono hb1.size))
      have hgw : w.heap.size ≤ g := Nat.le_trans hb1.size hg2
      have hctx := hide (show ∀ x ∈ L, x.1 < 1600 from fun x hx => by
        rw [hL] at hx
        obtain ⟨y, hy, rfl⟩ := List.mem_map.1 hx
        have := of_decide_eq_true (HALL.out y hy)
        show y.1.toNat < 1600
        omega)
      have C2 := hide (show CodR w2 w.heap.size g rc0 from by
        obtain ⟨ov, h1, h2, h3, _⟩ := hc2 0 (fun _ => True)
        exact ⟨ov, h1, ⟨h2.1, h2.2.imp id (fun ⟨k, c, cur, q1, q2, q3⟩ => ⟨k, c, cur, q1, Nat.le_trans hb1.size q2, q3⟩)⟩, h3⟩)
      have HBB := hide (show BitsAt w2 w.heap.size (.slice a l.length cap) L from by rw [hL]; exact (hb0.out.nat HALL.out).below B2.out)
      have hcap' : (l.length : Int) ≤ (cap : Int) := by omega
      clear hL hb1 hb2 hc2 hg2
      go_wp2_with fail
      go_loopw [16] (fun i wx => ∃ k : Nat, k ≤ L.length ∧ i = .int .i64 k ∧ Hid (CodR wx w.heap.size g (run rc0 (L.take k))) ∧ Hid (Below w.heap.size w wx) ∧ Hid (Below w.heap.size w2 wx)) (fun i _ => L.length - (intOf i).toNat)
      case atStart => exact ⟨0, by omega, rfl, C2, B2, Below.refl _ _⟩
      case round =>
        clear C2
        obtain ⟨k, hk, rfl, hcod, hbel, hbe2⟩ := hrel
        by_cases hlt : k < L.length
        · have hlt' : (k : Int) < (l.length : Int) := by omega
          obtain ⟨x, hx⟩ : ∃ x, L[k]? = some x := ⟨_, List.getElem?_eq_getElem hlt⟩
          obtain ⟨a2, _, e3, _, h0 | ⟨r, o, h1, hr, hcells⟩⟩ := HBB.out
          · rw [h0] at hlt; simp at hlt
          obtain rfl : a = some ⟨r, o, none⟩ := by
            have e4 : a = a2 := by injection e3
            rw [e4, h1]
          clear e3 h1
          obtain ⟨x1, x2⟩ := hcells k x hx
          obtain ⟨q, hq⟩ : ∃ q, q = o + 2 * k := ⟨_, rfl⟩
          rw [← hq] at x1 x2
          have y1 := (hbe2.out.cell (p := ⟨r, q, none⟩) hr).trans x1
          have y2 := (hbe2.out.cell (p := ⟨r, q + 1, none⟩) hr).trans x2
          have n1 : o + 2 * k = q := hq.symm
          have n2 : o + k * 2 = q := by omega
          have hxc := hctx.out x (List.mem_of_getElem? hx)
          have hs := hide (take_step L k x hx)
          have hok := hide (run_ok (L.take k) rc0 rc0_ok)
          have hnn := hide (show (run rc0 (L.take k)).n ≤ 90000 by have := run_n_le (L.take k) rc0; have h2 : (L.take k).length ≤ k := List.length_take_le _ _; have h3 : rc0.n = 0 := rfl; omega)
          generalize run rc0 (L.take k) = s at *
          obtain ⟨c, one⟩ := x
          simp only at y1 y2 hxc
          have hgl : g < wr.heap.size := by obtain ⟨_, hr, _⟩ := hcod.out; exact hr.lt
          clear hq x1 x2 hcells HBB hx
          go_wp2_with fail
          refine (imp_put w.heap.size g c one s _ hok.out hnn.out hxc hgw (CodP.keep hcod.out (fun j hj => Below.heap_alloc _ _ _ hj))).mono ?_
          rintro e w9 ⟨rfl, hc9, hb9⟩
          have hc9' := hide (show CodR w9 w.heap.size g (run rc0 (L.take (k + 1))) by rw [hs.out]; exact hc9)
          have hb9' := hide ((hbel.out.alloc (show w.heap.size ≤ wr.heap.size by omega) _).trans hb9)
          have hb8' := hide ((hbe2.out.alloc (show w.heap.size ≤ wr.heap.size by omega) _).trans hb9)
          clear hc9 hb9 y1 y2 n1 n2 hs hok hnn hcod hbel hbe2
          go_wp2_with fail
          go_roundw
          case rel => exact ⟨k + 1, by omega, by go_num, hc9', hb9', hb8'⟩
          case measure => simp [intOf]; omega
        · have hlt' : ¬ (k : Int) < (l.length : Int) := by omega
          have hfin := show CodR wr w.heap.size g (run rc0 L) by have h := hcod.out; rw [List.take_of_length_le (by omega)] at h; exact h
          have SE := hide (imp_end w.heap.size g (run rc0 L) wr (by have := run_n_le L rc0; have h3 : rc0.n = 0 := rfl; omega) hgw hfin)
          have HX := hide (show (⟨(bytesOf ((run rc0 L).n + 4) (run rc0 L).low).toArray⟩ : ByteArray) = encS l by rw [hE.out, HLE.out]; rfl)
          rw [HX.out] at SE
          clear hcod hfin
          go_wp2_with fail
          refine SE.out.mono ?_
          rintro e w5 ⟨rfl, hb5⟩
          have B6 := hide (hbel.out.trans hb5)
          clear hb5 SE
          go_wp2_with fail
          go_ret
          exact ⟨rfl, B6.out⟩
    · have hE := hide (show encS l = ⟨#[]⟩ from if_neg (fun h => hall h.2))
      have SC := hide (imp_containsBit _ l false w hlen hb0.out ⟨fun h => (by cases h), fun h => absurd h hall⟩)
      clear hall
      go_enter Try.func9, Try.ntmps9
      go_wp2_with fail
      refine SC.out.mono ?_
      rintro e w1 ⟨rfl, hb1⟩
      clear SC
      go_wp2_with fail
      go_ret
      exact ⟨by rw [hE.out]; rfl, hb1⟩
  · have h4' : (400 : Int) < (l.length : Int) := by omega
    have h4d : decide ((400 : Int) < (l.length : Int)) = true := decide_eq_true h4'
    have hE := hide (show encS l = ⟨#[]⟩ from if_neg (fun h => h400 h.1))
    go_enter Try.func9, Try.ntmps9
    go_wp2_with fail
    go_ret
    exact ⟨by rw [hE.out]; rfl, Below.refl _ _⟩
end Go.Proofs.Ytdoodkabmeojmaa

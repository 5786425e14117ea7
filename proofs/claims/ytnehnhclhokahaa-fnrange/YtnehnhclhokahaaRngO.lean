/- The walks over the program's bitsOut and RangeEncode. -/
import Derived.Test.YtnehnhclhokahaaRngP
import Derived.Test.YtnehnhclhokahaaRngF
namespace Go.Proofs.Ytnehnhclhokahaa
open Go.RowKit
theorem BitsAt.below {w w' : World} {B : Nat} {v : Value} {l : List (Nat × Bool)} (h : BitsAt w B v l) (hb : Below B w w') : BitsAt w' B v l := by
  obtain ⟨a, cap, e, hc, h⟩ := h
  refine ⟨a, cap, e, hc, ?_⟩
  rcases h with h | ⟨r, o, e2, hr, hcell⟩
  · exact .inl h
  · exact .inr ⟨r, o, e2, hr, fun j x hx => ⟨(hb.cell (p := ⟨r, o + 2 * j, none⟩) hr).trans (hcell j x hx).1, (hb.cell (p := ⟨r, o + 2 * j + 1, none⟩) hr).trans (hcell j x hx).2⟩⟩
set_option maxRecDepth 100000 in
set_option maxHeartbeats 800000 in
theorem imp_bitsOut (base g : Nat) (v : Value) (L : List (Nat × Bool)) (w : World) (hL : L.length ≤ 400) (hc : ∀ x ∈ L, x.1 < 1600) (hbg : base ≤ g) (hb : BitsAt w base v L) (hcod : CodR w base g rc0) :
    Calls Try.prog 26 #[v, .func (.func 27) #[.pointer (some ⟨g, 0, none⟩)] #[]] w fun e w' => e = .returned (.tuple #[]) ∧ CodR w' base g (run rc0 L) ∧ Below base w w' := by
  obtain ⟨a, cap, rfl, hcap, hbits⟩ := hb
  have HB := hide hbits
  have HC := hide hc
  have HCOD := hide hcod
  clear hbits hc hcod
  have hcap' : (L.length : Int) ≤ (cap : Int) := by omega
  go_enter Try.func26, Try.ntmps26
  go_wp2_with fail
  go_loopw [8] (fun i wx => ∃ k : Nat, k ≤ L.length ∧ i = .int .i64 k ∧ Hid (CodR wx base g (run rc0 (L.take k))) ∧ Hid (Below base w wx)) (fun i _ => L.length - (intOf i).toNat)
  case atStart => exact ⟨0, by omega, rfl, HCOD, Below.refl _ _⟩
  case round =>
    clear HCOD
    obtain ⟨k, hk, rfl, hcod, hbel⟩ := hrel
    by_cases hlt : k < L.length
    · have hlt' : (k : Int) < (L.length : Int) := by omega
      obtain ⟨x, hx⟩ : ∃ x, L[k]? = some x := ⟨_, List.getElem?_eq_getElem hlt⟩
      obtain h0 | ⟨r, o, rfl, hr, hcells⟩ := HB.out
      · rw [h0] at hlt; simp at hlt
      obtain ⟨x1, x2⟩ := hcells k x hx
      obtain ⟨q, hq⟩ : ∃ q, q = o + 2 * k := ⟨_, rfl⟩
      rw [← hq] at x1 x2
      have y1 := (hbel.out.cell (p := ⟨r, q, none⟩) hr).trans x1
      have y2 := (hbel.out.cell (p := ⟨r, q + 1, none⟩) hr).trans x2
      have n1 : o + 2 * k = q := hq.symm
      have n2 : o + k * 2 = q := by omega
      have hxc := HC.out x (List.mem_of_getElem? hx)
      have hs := hide (take_step L k x hx)
      have hok := hide (run_ok (L.take k) rc0 rc0_ok)
      have hnn := hide (show (run rc0 (L.take k)).n ≤ 10000 by have := run_n_le (L.take k) rc0; have h2 : (L.take k).length ≤ k := List.length_take_le _ _; have h3 : rc0.n = 0 := rfl; omega)
      generalize run rc0 (L.take k) = s at *
      obtain ⟨c, one⟩ := x
      simp only at y1 y2 hxc
      have hgl : g < wr.heap.size := by obtain ⟨_, hr, _⟩ := hcod.out; exact hr.lt
      clear hq x1 x2 hcells HB hx
      go_wp2_with fail
      refine (imp_put base g c one s _ hok.out hnn.out hxc hbg (CodP.keep hcod.out (fun j hj => Below.heap_alloc _ _ _ hj))).mono ?_
      rintro e w9 ⟨rfl, hc9, hb9⟩
      have hc9' := hide (show CodR w9 base g (run rc0 (L.take (k + 1))) by rw [hs.out]; exact hc9)
      have hb9' := hide ((hbel.out.alloc (show base ≤ wr.heap.size by omega) _).trans hb9)
      clear hc9 hb9 y1 y2 n1 n2 hs hok hnn hcod hbel
      go_wp2_with fail
      go_roundw
      case rel => exact ⟨k + 1, by omega, by go_num, hc9', hb9'⟩
      case measure => simp [intOf]; omega
    · have hlt' : ¬ (k : Int) < (L.length : Int) := by omega
      have hfin := hide (show CodR wr base g (run rc0 L) by have h := hcod.out; rw [List.take_of_length_le (by omega)] at h; exact h)
      clear hcod
      go_wp2_with fail
      go_end0
      exact ⟨rfl, hfin.out, hbel.out⟩
set_option maxRecDepth 100000 in
set_option maxHeartbeats 800000 in
theorem imp_rangeEncode (v : Value) (l : List (Int × Bool)) (w : World) (hlen : l.length ≤ 9223372036854775807) (hb : BitsI w w.heap.size v l) :
    Calls Try.prog 7 #[v] w fun e w' => e = .returned (.string (encS l)) ∧ Below w.heap.size w w' := by
  have hb0 := hide hb
  obtain ⟨a, cap, rfl, hcap, hbits⟩ := hb
  clear hbits
  by_cases h400 : l.length ≤ 400
  · have h4' : ¬ (400 : Int) < (l.length : Int) := by omega
    have h4d : decide ((400 : Int) < (l.length : Int)) = false := decide_eq_false h4'
    by_cases hall : bitsOk l
    · have hE := hide (show encS l = ⟨(codeOf (bitsN l)).toArray⟩ from if_pos ⟨h400, hall⟩)
      have SC := hide (imp_containsBit _ l true w hlen hb0.out ⟨fun _ => hall, fun _ => rfl⟩)
      have HALL := hide hall
      clear hall
      go_enter Try.func7, Try.ntmps7
      go_wp2_with fail
      refine SC.out.mono ?_
      rintro e w1 ⟨rfl, hb1⟩
      clear SC
      go_wp2_with fail
      refine (imp_parting w1).mono ?_
      rintro e w2 ⟨rfl, hb2⟩
      have HBT := hide (Try.builtCod 4294967295 fun _ => 1024)
      have B2 := hide (hb1.trans (hb2.mono hb1.size))
      clear hb1 hb2
      go_wp2_with (first | (with_reducible (show wpList _ _ _ ({ dst := _, op := .build _ _, type := _, pos := _, after := _, guard := _ } :: _) _ _); refine wpList_build_1 rfl 57 0 _ rfl (.agg (vL 1601 (parF 4294967295 fun _ => 1024)).toArray) rfl _ HBT.out ?_))
      have R3 := vrow_alloc w2 57 1603 (cdF 4294967295 (fun _ => 1024) 0 (.slice none 0 0))
      have B3 := B2.out.alloc B2.out.size (.cells (vL 1603 (cdF 4294967295 (fun _ => 1024) 0 (.slice none 0 0))).toArray 57)
      have hg2 := B2.out.size
      generalize w2.alloc (.cells (vL 1603 (cdF 4294967295 (fun _ => 1024) 0 (.slice none 0 0))).toArray 57) = W3 at *
      generalize w2.heap.size = g at *
      have C3 : CodR W3 w.heap.size g rc0 := ⟨.slice none 0 0, R3, ⟨rfl, .inl ⟨rfl, rfl⟩⟩, by simp [Value.ownBlock]⟩
      have hn4 : (bitsN l).length ≤ 400 := by simpa [bitsN] using h400
      refine (imp_bitsOut w.heap.size g _ (bitsN l) W3 hn4 (fun x hx => by
        obtain ⟨y, hy, rfl⟩ := List.mem_map.1 hx
        have := of_decide_eq_true (HALL.out y hy)
        show y.1.toNat < 1600
        omega) hg2 ((hb0.out.nat HALL.out).below B3) C3).mono ?_
      rintro e w4 ⟨rfl, C4, B4⟩
      have SE := hide (imp_end w.heap.size g (run rc0 (bitsN l)) w4 (by have := run_n_le (bitsN l) rc0; have h3 : rc0.n = 0 := rfl; omega) hg2 C4)
      have B5 := hide (B3.trans B4)
      clear C4 B4 B3 C3 R3
      go_wp2_with fail
      refine SE.out.mono ?_
      rintro e w5 ⟨rfl, hb5⟩
      have B6 := hide (B5.out.trans hb5)
      have HX := hide (show (⟨(bytesOf ((run rc0 (bitsN l)).n + 4) (run rc0 (bitsN l)).low).toArray⟩ : ByteArray) = encS l by rw [hE.out]; rfl)
      rw [HX.out]
      clear hb5 SE B5
      go_wp2_with fail
      go_ret
      exact ⟨rfl, B6.out⟩
    · have hE := hide (show encS l = ⟨#[]⟩ from if_neg (fun h => hall h.2))
      have SC := hide (imp_containsBit _ l false w hlen hb0.out ⟨fun h => (by cases h), fun h => absurd h hall⟩)
      clear hall
      go_enter Try.func7, Try.ntmps7
      go_wp2_with fail
      refine SC.out.mono ?_
      rintro e w1 ⟨rfl, hb1⟩
      clear SC
      go_wp2_with fail
      go_ret
      exact ⟨by rw [hE.out]; rfl, hb1⟩
  · have h4' : (400 : Int) < (l.length : Int) := by omega
    have h4d : decide ((400 : Int) < (l.length : Int)) = true := decide_eq_true h4'
    have hE := hide (show encS l = ⟨#[]⟩ from if_neg (fun h => h400 h.1))
    go_enter Try.func7, Try.ntmps7
    go_wp2_with fail
    go_ret
    exact ⟨by rw [hE.out]; rfl, Below.refl _ _⟩
end Go.Proofs.Ytnehnhclhokahaa

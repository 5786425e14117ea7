/- The walk over the model's Expand. -/
import Derived.Test.YtdoodkabmeojmaaMatchT
import Derived.Test.YtdoodkabmeojmaaTokC
import Derived.Test.YtdoodkabmeojmaaSrc
import Derived.Test.YtdoodkabmeojmaaSrcB
namespace Go.Proofs.Ytdoodkabmeojmaa
open Go.RowKit
theorem split_at {α : Type} (l : List α) (k : Nat) (x : α) (h : l[k]? = some x) : l = l.take k ++ x :: l.drop (k + 1) := by
  have hk := (List.getElem?_eq_some_iff.1 h).1
  rw [List.getElem?_eq_getElem hk] at h
  rw [← Option.some.inj h, List.getElem_cons_drop, List.take_append_drop]
theorem take_snoc {α : Type} (l : List α) (k : Nat) (x : α) (h : l[k]? = some x) : l.take (k + 1) = l.take k ++ [x] := by
  have hk := (List.getElem?_eq_some_iff.1 h).1
  rw [List.take_succ_eq_append_getElem hk]
  rw [List.getElem?_eq_getElem hk] at h
  rw [Option.some.inj h]
theorem tokOk_cases (x : Tok) (h : tokOk x = true) : (x.f = 0 ∧ x.m = 0 ∧ 0 ≤ x.b ∧ x.b ≤ 255) ∨ (x.f ≠ 0 ∧ 3 ≤ x.m ∧ x.m ≤ 66 ∧ 1 ≤ x.f ∧ x.f ≤ 1024) := by
  unfold tokOk at h
  split at h
  · rename_i h2
    have := of_decide_eq_true h
    exact .inl ⟨h2.2, h2.1, this.1, this.2⟩
  · have := of_decide_eq_true h
    exact .inr ⟨by omega, this.2⟩
theorem Try.infoB8m : (Try.prog.info? 5).map (fun i => (i.zero, i.size, i.bytes)) = some (some (.int .u8 0), 1, 1) := by kernel_rfl
set_option maxRecDepth 100000 in
set_option maxHeartbeats 1600000 in
theorem spec_expand (v : Value) (l : List Tok) (w : World) (hlen : l.length ≤ 9223372036854775807) (hb : TokI w w.heap.size v l) :
    Calls Try.prog 21 #[v] w fun e w' => e = .returned (.string (expS l)) ∧ Below w.heap.size w w' := by
  obtain ⟨a, cap, rfl, hcap, htoks⟩ := hb
  obtain ⟨i0, hi, hz0, hz1, hz2⟩ := info_parts Try.infoB8m
  have HT := hide htoks
  clear htoks
  have hcap' : (l.length : Int) ≤ (cap : Int) := by omega
  by_cases h20 : l.length ≤ 20000
  · have h20' : ¬ (20000 : Int) < (l.length : Int) := by omega
    have hown0 := (show (w.alloc (.cells #[] 5)).ownsRow w.heap.size 5 1 (.slice (some ⟨w.heap.size, 0, none⟩) 0 0) 0 [] by
      have h := World.ownsRow_made (e := 5) (size := 1) (base := w.heap.size) w #[] 0 (Nat.le_refl _) (by decide) (by simp)
      simpa using h)
    have hb0 := hide ((Below.refl w.heap.size w).alloc (Nat.le_refl _) (.cells #[] 5))
    go_enter Try.func21, Try.ntmps21
    go_wp2_with fail
    generalize w.alloc (.cells #[] 5) = W0 at *
    go_loopw [3, 4] (fun bv i wx => ∃ (k : Nat) (b : List UInt8), k ≤ l.length ∧ i = .int .i64 k ∧ wx.ownsRow w.heap.size 5 1 bv b.length (b.map byteV) ∧ b.length ≤ 20066 ∧ Hid (expandG [] (l.take k) = some b) ∧ Hid (Below w.heap.size w wx)) (fun _ i _ => l.length - (intOf i).toNat)
    case atStart => exact ⟨0, [], by omega, rfl, hown0, Nat.zero_le _, rfl, hb0⟩
    case round =>
      clear hown0 hb0
      obtain ⟨k, b, hk, rfl, hown, hbl20, hex, hbl⟩ := hrel
      by_cases hlt : k < l.length
      · have hlt' : (k : Int) < (l.length : Int) := by omega
        obtain ⟨x, hx⟩ : ∃ x, l[k]? = some x := ⟨_, List.getElem?_eq_getElem hlt⟩
        obtain h0 | ⟨r, o, rfl, hr, hcells⟩ := HT.out
        · rw [h0] at hlt; simp at hlt
        obtain ⟨x1, x2, x3⟩ := hcells k x hx
        obtain ⟨q, hq⟩ : ∃ q, q = o + 3 * k := ⟨_, rfl⟩
        rw [← hq] at x1 x2 x3
        have y1 := (hbl.out.cell (p := ⟨r, q, none⟩) hr).trans x1
        have y2 := (hbl.out.cell (p := ⟨r, q + 1, none⟩) hr).trans x2
        have y3 := (hbl.out.cell (p := ⟨r, q + 2, none⟩) hr).trans x3
        have n1 : o + 3 * k = q := hq.symm
        have n2 : o + k * 3 = q := by omega
        have y3' : wr.cell? ⟨r, q + 1 + 1, none⟩ = some (.int .i64 x.f) := y3
        have HSP := hide (split_at l k x hx)
        have HTK := hide (take_snoc l k x hx)
        have hws := hbl.out.size
        clear hcells hx x1 x2 x3 hq
        obtain ⟨xb, hxb⟩ : ∃ xb, xb = x.b := ⟨_, rfl⟩
        obtain ⟨xm, hxm⟩ : ∃ xm, xm = x.m := ⟨_, rfl⟩
        obtain ⟨xf, hxf⟩ : ∃ xf, xf = x.f := ⟨_, rfl⟩
        rw [← hxb] at y1
        rw [← hxm] at y2
        rw [← hxf] at y3 y3'
        have hxe : x = ⟨xb, xm, xf⟩ := by rw [hxb, hxm, hxf]
        clear hxb hxm hxf
        have SR := hide (fun w => spec_tokenRight xb xm xf w)
        rw [← hxe] at SR
        have HXE := hide hxe
        have HOWN := hide hown
        clear hown
        go_wp2_with fail
        refine (SR.out _).mono ?_
        rintro e w2 ⟨rfl, hb2⟩
        have c0 := (hb2.cell (p := ⟨wr.heap.size, 0, none⟩) (by simp)).trans (show (wr.alloc (.cells #[.int .i64 xb, .int .i64 xm, .int .i64 xf] 40)).cell? ⟨wr.heap.size, 0, none⟩ = some (.int .i64 xb) by simp)
        have c1 := (hb2.cell (p := ⟨wr.heap.size, 1, none⟩) (by simp)).trans (show (wr.alloc (.cells #[.int .i64 xb, .int .i64 xm, .int .i64 xf] 40)).cell? ⟨wr.heap.size, 1, none⟩ = some (.int .i64 xm) by simp)
        have c2 := (hb2.cell (p := ⟨wr.heap.size, 2, none⟩) (by simp)).trans (show (wr.alloc (.cells #[.int .i64 xb, .int .i64 xm, .int .i64 xf] 40)).cell? ⟨wr.heap.size, 2, none⟩ = some (.int .i64 xf) by simp)
        have HO2 := hide ((HOWN.out.alloc (.cells #[.int .i64 xb, .int .i64 xm, .int .i64 xf] 40)).kept (below_grownBy hb2) (Classical.em _))
        have B2 := hide ((hbl.out.alloc hws (.cells #[.int .i64 xb, .int .i64 xm, .int .i64 xf] 40)).trans (hb2.mono (by simp; omega)))
        have hzlt : wr.heap.size < w2.heap.size := by have := hb2.size; simp at this; omega
        have hzo : ∀ k, u3.ownBlock = some k → k < wr.heap.size := fun k hk => (HOWN.out.lt k hk).2
        have HZO := hide hzo
        have hvf := HO2.out
        obtain ⟨ba, bcap, hbv, hbc, _⟩ : ∃ a cap, u3 = .slice a b.length cap ∧ b.length ≤ cap ∧ True := by
          obtain ⟨_, ⟨e, e0⟩ | ⟨g, cap, cur, e, _, _, h, _⟩⟩ := hvf
          · exact ⟨none, 0, by rw [e, e0], by omega, trivial⟩
          · exact ⟨_, cap, e, h, trivial⟩
        subst hbv
        clear hb2 HOWN hzo hbl SR y1 y2 y3 y3' n1 n2 hvf
        cases hok : tokOk x with
        | false =>
          have HE := hide (show expS l = ⟨#[]⟩ by rw [HSP.out]; exact expS_wrong hex.out (fun h => by rw [hok] at h; cases h.1))
          clear hok HSP HTK hex
          go_wp2_with fail
          go_ret
          exact ⟨by rw [HE.out]; rfl, B2.out⟩
        | true =>
          by_cases hf : xf ≤ (b.length : Int)
          · have hf' : ¬ (b.length : Int) < xf := by omega
            have df : decide ((b.length : Int) < xf) = false := decide_eq_false hf'
            by_cases hb20 : b.length ≤ 20000
            · have hb20' : ¬ (20000 : Int) < (b.length : Int) := by omega
              have hcs := tokOk_cases x hok
              have HEX := hide (show expandG [] (l.take (k + 1)) = some (exp1 b x) by
                rw [HTK.out, expandG_snoc, hex.out]
                show (if tokOk x = true ∧ x.f ≤ b.length then some (exp1 b x) else none) = _
                rw [if_pos ⟨hok, by rw [HXE.out]; exact hf⟩])
              rw [HXE.out] at hcs
              clear hok HSP HTK hex
              rcases hcs with ⟨hf0, hm0, hb0, hb1⟩ | ⟨hf0, hm3, hm66, hf1, hf1024⟩
              · have df0 : (xf == 0) = true := by
                  have e : xf = 0 := hf0
                  rw [e]; rfl
                obtain ⟨y, rfl⟩ := Int.eq_ofNat_of_zero_le (show (0 : Int) ≤ xb from hb0)
                have hy : y < 256 := by have h : (y : Int) ≤ 255 := hb1; omega
                have hw8 : IntKind.u8.wrap (y : Int) = (y : Int) := by rw [IntKind.wrap_u8]; omega
                have HE1 := hide (show exp1 b x = b ++ [UInt8.ofNat y] by
                  unfold exp1
                  rw [HXE.out, if_pos (show xf = 0 from hf0)]; rfl)
                rw [HE1.out] at HEX
                have hws2 := B2.out.size
                clear hf0 hm0 hb0 hb1 HXE
                go_wp2_with (at_builtin; refine wpList_append_lies _ rfl _ _ 22 rfl w.heap.size 5 i0 (.int .u8 0) 1 1 Try.underlying22 hi hz0 hz1 hz2 rfl (by omega) (.slice ba b.length bcap) b.length (b.map byteV) rfl (HO2.out.alloc _) ⟨w2.heap.size, 0, none⟩ 1 1 [.int .u8 (y : Int)] rfl rfl (one_cell w2 _ _) (one_oneCell .u8 _) (by omega) (by unfold maxLen; omega) (by omega) (by simp; omega) (w2.heap.size + 1) (by simp) ?_)
                intro g' cap' w9 hown' hg' _ _
                have R1 : w9.ownsRow w.heap.size 5 1 (.slice (some ⟨g', 0, none⟩) (b.length + 1) cap') (b ++ [UInt8.ofNat y]).length ((b ++ [UInt8.ofNat y]).map byteV) := by
                  rw [List.length_append, List.map_append]
                  show w9.ownsRow w.heap.size 5 1 _ (b.length + 1) (b.map byteV ++ [byteV (UInt8.ofNat y)])
                  rw [byteV, ofNat_byte y hy]; exact hown'
                have R2 := hide ((B2.out.alloc hws2 _).grown hg' (by simp; omega) (fun x hx => (HO2.out.lt x hx).1))
                clear hown' hg' HO2 B2 c0 c1 c2
                go_wp2_with fail
                go_roundw
                case rel => exact ⟨k + 1, b ++ [UInt8.ofNat y], by omega, by go_num, R1, by rw [List.length_append]; show b.length + 1 ≤ _; omega, HEX, R2⟩
                case measure => simp [intOf]; omega
              · have df0 : (xf == 0) = false := by rw [beq_eq_false_iff_ne]; exact hf0
                obtain ⟨F, rfl⟩ := Int.eq_ofNat_of_zero_le (show (0 : Int) ≤ xf by have h : (1 : Int) ≤ xf := hf1; omega)
                obtain ⟨M, rfl⟩ := Int.eq_ofNat_of_zero_le (show (0 : Int) ≤ xm by have h : (3 : Int) ≤ xm := hm3; omega)
                have hF1 : 1 ≤ F := by have h : (1 : Int) ≤ (F : Int) := hf1; omega
                have hFb : F ≤ b.length := by omega
                have dfN : decide (b.length < F) = false := decide_eq_false (by omega)
                have d20 : decide ((20000 : Int) < (b.length : Int)) = false := decide_eq_false hb20'
                have hM : M ≤ 66 := by have h : (M : Int) ≤ 66 := hm66; omega
                have HE1 := hide (show exp1 b x = copyN F M b by
                  unfold exp1
                  rw [HXE.out, if_neg (show ¬ (F : Int) = 0 from hf0)]; rfl)
                rw [HE1.out] at HEX
                have hzn : (Value.slice ba b.length bcap).ownBlock ≠ some wr.heap.size := fun e => by have := HZO.out _ e; omega
                obtain ⟨z, hz⟩ : ∃ z, z = wr.heap.size := ⟨_, rfl⟩
                rw [← hz] at c0 c1 c2 hzlt hzn ⊢
                have C2 := hide c2
                clear hf0 hm3 hm66 hf1 hf1024 HXE HZO HE1 hz
                go_wp2_with fail
                clear c0 c1 c2
                go_loopw [3, 6] (fun bv i wx => ∃ c : Nat, c ≤ M ∧ i = .int .i64 ((M : Int) - (c : Int)) ∧ wx.ownsRow w.heap.size 5 1 bv (b.length + c) ((copyN F c b).map byteV) ∧ bv.ownBlock ≠ some z ∧ z < wx.heap.size ∧ wx.cell? ⟨z, 2, none⟩ = some (.int .i64 (F : Int)) ∧ Hid (Below w.heap.size w wx)) (fun _ i _ => (intOf i).toNat)
                case atStart => exact ⟨0, by omega, by go_num, HO2.out, hzn, hzlt, C2.out, B2⟩
                case round =>
                  clear HO2 hzn hzlt C2 B2
                  obtain ⟨c, hc, rfl, hown, hzn, hzlt, c2, hbl⟩ := hrel
                  obtain ⟨d, hd⟩ : ∃ d, d = M - c := ⟨_, rfl⟩
                  have ed : (M : Int) - (c : Int) = (d : Int) := by omega
                  rw [ed]
                  by_cases hcM : c < M
                  · have hd0 : (0 : Int) < (d : Int) := by omega
                    have hd66 : (d : Int) ≤ 66 := by omega
                    obtain ⟨n, hn⟩ : ∃ n, n = b.length + c := ⟨_, rfl⟩
                    obtain ⟨p, hp⟩ : ∃ p, p = n - F := ⟨_, rfl⟩
                    have hpn : p < n := by omega
                    have hpn' : (p : Int) < (n : Int) := by omega
                    have s1 : (n : Int) - (F : Int) = (p : Int) := by omega
                    have s1w : IntKind.i64.wrap ((n : Int) - (F : Int)) = (p : Int) := by simp only [IntKind.wrap_i64]; omega
                    have hnb : (n : Int) ≤ 20132 := by omega
                    rw [← hn] at hown
                    obtain ⟨go, ocap, hv, hoc⟩ : ∃ go cap, u3 = .slice (some ⟨go, 0, none⟩) n cap ∧ n ≤ cap := by
                      obtain ⟨_, ⟨_, e0⟩ | ⟨g, cap, cur, e, _, _, h, _⟩⟩ := hown
                      · omega
                      · exact ⟨g, cap, e, h⟩
                    subst hv
                    have hlc : (copyN F c b).length = n := by rw [copyN_len, hn]
                    obtain ⟨y, hy⟩ : ∃ y, y = (copyN F c b).getD p 0 := ⟨_, rfl⟩
                    have hcell : wr.cell? ⟨go, p, none⟩ = some (.int .u8 (y.toNat : Int)) := by
                      rw [hown.cellAt p (by omega), List.getElem?_map, hy, List.getD_eq_getElem?_getD, List.getElem?_eq_getElem (by omega)]; rfl
                    have HCP := hide (show copyN F (c + 1) b = copyN F c b ++ [y] by rw [copyN_more, hlc, ← hp, ← hy])
                    have hy8 := y.toNat_lt
                    have hwsr := hbl.out.size
                    have HN := hide hn
                    have HD := hide hd
                    clear hlc hy hn hp hd ed
                    go_wp2_with (at_builtin; refine wpList_append_lies _ rfl _ _ 22 rfl w.heap.size 5 i0 (.int .u8 0) 1 1 Try.underlying22 hi hz0 hz1 hz2 rfl (by omega) (.slice (some ⟨go, 0, none⟩) n ocap) n _ rfl (hown.alloc _) ⟨wr.heap.size, 0, none⟩ 1 1 [.int .u8 (y.toNat : Int)] rfl rfl (one_cell wr _ _) (one_oneCell .u8 _) (by omega) (by unfold maxLen; omega) (by omega) (by simp; omega) (wr.heap.size + 1) (by simp) ?_)
                    intro g' cap' w9 hown' hg' hat' _
                    have R1 : w9.ownsRow w.heap.size 5 1 (.slice (some ⟨g', 0, none⟩) (n + 1) cap') (b.length + (c + 1)) ((copyN F (c + 1) b).map byteV) := by
                      rw [HCP.out, List.map_append, show b.length + (c + 1) = n + 1 by have := HN.out; omega]; exact hown'
                    have R2 := hide ((hbl.out.alloc hwsr _).grown hg' (by simp; omega) (fun x hx => (hown.lt x hx).1))
                    have R3 : (Value.slice (some ⟨g', 0, none⟩) (n + 1) cap').ownBlock ≠ some z := by
                      intro e
                      have e1 : g' = z := by simpa [Value.ownBlock] using e
                      rcases hat' with h | h
                      · exact hzn (by rw [h, e1])
                      · omega
                    have R4 : w9.cell? ⟨z, 2, none⟩ = some (.int .i64 (F : Int)) := by
                      refine hg'.cell (a := ⟨z, 2, none⟩) ?_ (fun e => hzn e.symm)
                      exact (((Below.refl wr.heap.size wr).alloc (Nat.le_refl _) _).cell (p := ⟨z, 2, none⟩) hzlt).trans c2
                    have R5 : z < w9.heap.size := by have := hg'.size; simp at this; omega
                    have HD1 := hide (show (d : Int) - 1 = (M : Int) - ((c + 1 : Nat) : Int) by have := HD.out; omega)
                    clear hown' hg' hat' hown hbl hcell HCP c2 hzn hzlt
                    go_wp2_with fail
                    go_roundw
                    case rel => exact ⟨c + 1, by omega, by rw [← HD1.out], R1, R3, R5, R4, R2⟩
                    case measure => simp [intOf]; omega
                  · have hd0 : ¬ (0 : Int) < (d : Int) := by omega
                    have ecM : c = M := by omega
                    have HO := hide (show wr.ownsRow w.heap.size 5 1 u3 (copyN F M b).length ((copyN F M b).map byteV) by
                      rw [copyN_len, ← ecM]; exact hown)
                    have hl9 : (copyN F M b).length ≤ 20066 := by rw [copyN_len]; omega
                    have HO' := HO.out
                    clear hown ecM ed hd c2 HO
                    go_wp2_with fail
                    go_roundw
                    case rel => exact ⟨k + 1, copyN F M b, by omega, by go_num, HO', hl9, HEX, hbl⟩
                    case measure => simp [intOf]; omega
            · have hb20' : (20000 : Int) < (b.length : Int) := by omega
              have HE := hide (show expS l = ⟨#[]⟩ by rw [← List.take_append_drop k l]; exact expS_long hex.out (by omega))
              clear hok HSP HTK hex
              go_wp2_with fail
              go_ret
              exact ⟨by rw [HE.out]; rfl, B2.out⟩
          · have hf' : (b.length : Int) < xf := by omega
            have df : decide ((b.length : Int) < xf) = true := decide_eq_true hf'
            have HE := hide (show expS l = ⟨#[]⟩ by rw [HSP.out]; exact expS_wrong hex.out (fun h => hf (by have := h.2; rw [HXE.out] at this; exact this)))
            clear hok HSP HTK hex
            go_wp2_with fail
            go_ret
            exact ⟨by rw [HE.out]; rfl, B2.out⟩
      · have hlt' : ¬ (k : Int) < (l.length : Int) := by omega
        have hex2 := hex.out
        rw [List.take_of_length_le (by omega)] at hex2
        obtain ⟨ba, bcap, hbv, hbc⟩ : ∃ a cap, u3 = .slice a b.length cap ∧ b.length ≤ cap := by
          obtain ⟨_, ⟨e, e0⟩ | ⟨g, cap, cur, e, _, _, h, _⟩⟩ := hown
          · exact ⟨none, 0, by rw [e, e0], by omega⟩
          · exact ⟨_, cap, e, h⟩
        have hcv := own_conv (P := Try.prog) hown Try.underlying22 Try.underlying5 Try.underlying9
        by_cases hb20 : b.length ≤ 20000
        · have hb20' : ¬ (20000 : Int) < (b.length : Int) := by omega
          obtain ⟨X, hX⟩ : ∃ X : ByteArray, X = ⟨b.toArray⟩ := ⟨_, rfl⟩
          have HE := hide (show expS l = X by
            unfold expS
            rw [if_pos h20, hex2, hX]
            show (if b.length ≤ 20000 then (⟨b.toArray⟩ : ByteArray) else ⟨#[]⟩) = _
            rw [if_pos hb20])
          rw [← hX] at hcv
          clear hX hex hex2 hown
          rw [hbv] at hcv
          subst hbv
          go_wp2_with fail
          go_ret
          exact ⟨by rw [HE.out]; rfl, hbl.out⟩
        · have hb20' : (20000 : Int) < (b.length : Int) := by omega
          have HE := hide (show expS l = ⟨#[]⟩ by
            unfold expS
            rw [if_pos h20, hex2]
            show (if b.length ≤ 20000 then (⟨b.toArray⟩ : ByteArray) else ⟨#[]⟩) = _
            rw [if_neg hb20])
          clear hex hex2 hown hcv
          subst hbv
          go_wp2_with fail
          go_ret
          exact ⟨by rw [HE.out]; rfl, hbl.out⟩
  · have h20' : (20000 : Int) < (l.length : Int) := by omega
    have hE : expS l = ⟨#[]⟩ := if_neg h20
    rw [hE]
    clear hE HT
    go_enter Try.func21, Try.ntmps21
    go_wp2_with fail
    go_ret
    exact ⟨rfl, Below.refl _ _⟩
end Go.Proofs.Ytdoodkabmeojmaa

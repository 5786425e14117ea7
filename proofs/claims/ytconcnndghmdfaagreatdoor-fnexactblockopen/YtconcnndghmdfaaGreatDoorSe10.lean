/- Put together: PackS, Nums, PutNumW, MatchP. -/
import Derived.Test.YtconcnndghmdfaaGreatDoorRows
import Derived.Test.YtconcnndghmdfaaGreatDoorSe9
import Derived.Test.YtconcnndghmdfaaGreatDoorSe6
import Derived.Laws.BitsLemmas
import Derived.WalkKit
import Derived.Test.YtconcnndghmdfaaGreatDoorSe1
import Derived.Test.YtconcnndghmdfaaGreatDoorSe8
import Derived.Below
import Derived.Test.YtconcnndghmdfaaGreatDoorSe5
import Derived.OwnWalk
import Derived.Deep.AppendLies
import Derived.BigRegion
import Derived.BigQuiet
import Derived.Deep.QuietTactic
namespace Go.Proofs.YtconcnndghmdfaaGreatDoor
open Go.RowKit
theorem Tryz.infoBitP : (Tryz.prog.info? 122).map (fun i => (i.zero, i.size, i.bytes)) = some (some (.agg #[.int .i64 0, .bool false]), 2, 16) := by kernel_rfl
def toI (x : Nat × Bool) : Int × Bool := ((x.1 : Int), x.2)
theorem cells2 (w : World) (x y : Value) (t n : Nat) (hn : w.heap.size = n) : ∀ (j : Nat) (u : Value), [x, y][j]? = some u → (w.alloc (.cells #[x, y] t)).cell? ((⟨n, 0, none⟩ : Addr).add j) = some u := by
  subst hn; exact World.news_of_block (heap_alloc_new w (.cells #[x, y] t))
theorem cells2_one (x : Int) (y : Bool) : ∀ u ∈ [Value.int .i64 x, Value.bool y], u.oneCell' = true := by intro u hu; simp at hu; rcases hu with rfl | rfl <;> rfl
theorem wraps_i62 (n : Int) (h₀ : 0 ≤ n) (h₁ : n < 2 ^ 62) : IntKind.i64.wrap n = n := by rw [IntKind.wrap_i64]; omega
theorem bit_q (n k : Nat) (h : n < 1048576) : bits .and .i64 ((n : Int) / 2 ^ k) 1 = ((n / 2 ^ k % 2 : Nat) : Int) := by
  have e : (n : Int) / 2 ^ k = ((n / 2 ^ k : Nat) : Int) := by simp
  have hle : n / 2 ^ k ≤ n := Nat.div_le_self _ _
  rw [e]
  generalize n / 2 ^ k = q at *
  have h2 := bits_mask .i64 62 (by decide) wraps_i62 1 (by decide) (q : Int) (by omega) (by omega)
  have e1 : ((2 : Int) ^ 1 - 1) = 1 := rfl
  rw [e1] at h2
  rw [h2]
  simp
set_option maxRecDepth 100000 in
set_option maxHeartbeats 800000 in
theorem spec_tree (B n many base : Nat) (v : Value) (l : List (Int × Bool)) (w : World) (hn : n < 1048576) (hm : many ≤ 10) (hb : base ≤ 400) (hl : l.length ≤ 100000) (hB : B ≤ w.heap.size) (hown : w.ownsRow B 122 2 v l.length (bitC l)) :
    Calls Tryz.prog 126 #[v, .int .i64 (n : Int), .int .i64 (many : Int), .int .i64 (base : Int)] w fun e w' => ∃ v', e = .returned v' ∧ w'.ownsRow B 122 2 v' (l ++ (tree n many base).map toI).length (bitC (l ++ (tree n many base).map toI)) ∧ w.grownBy w' v.ownBlock ∧ (∀ z, v'.ownBlock = some z → v.ownBlock = some z ∨ w.heap.size ≤ z) := by
  obtain ⟨i0, hi, hz0, hz1, hz2⟩ := info_parts Tryz.infoBitP
  obtain ⟨K, hK⟩ : ∃ K, K = l ++ (tree n many base).map toI := ⟨_, rfl⟩
  rw [← hK]
  have HKK := hide hK
  have HO := hide hown
  clear hown hK
  go_enter Tryz.func126, Tryz.ntmps126
  go_wp2_with fail
  go_loopw [0, 9, 10] (fun lv nd i wx => ∃ (r node : Nat) (k : List (Int × Bool)), r ≤ many ∧ node < 2 ^ (many - r + 1) ∧ i = .int .i64 ((r : Int) - 1) ∧ nd = .int .i64 (node : Nat) ∧ k.length + r = l.length + many ∧ wx.ownsRow B 122 2 lv k.length (bitC k) ∧ Hid (k ++ (treeG n base r node).map toI = K) ∧ Hid (w.grownBy wx v.ownBlock) ∧ Hid (∀ z, lv.ownBlock = some z → v.ownBlock = some z ∨ w.heap.size ≤ z)) (fun _ _ i _ => (intOf i + 1).toNat)
  case atStart => exact ⟨many, 1, l, Nat.le_refl _, by rw [Nat.sub_self]; decide, by go_num, rfl, rfl, HO.out, HKK.out.symm, World.grownBy.refl _ _, fun z hz => .inl hz⟩
  case round =>
    clear HO
    obtain ⟨r, node, k, hr, hnd, rfl, rfl, hkl, hown, hk, hbl, hzz⟩ := hrel
    have hnode : node < 2048 := Nat.lt_of_lt_of_le hnd (Nat.le_trans (Nat.pow_le_pow_right (by omega) (show many - r + 1 ≤ 11 by omega)) (by decide))
    by_cases hr0 : 0 < r
    · obtain ⟨s, hs⟩ : ∃ s, s = r - 1 := ⟨_, rfl⟩
      have es : (r : Int) - 1 = (s : Int) := by omega
      rw [es]
      have hs0 : (0 : Int) ≤ (s : Int) := by omega
      have hs10 : (s : Int) ≤ 9 := by omega
      have hnode' : (node : Int) < 2048 := by omega
      have hbq := bit_q n s hn
      obtain ⟨t, ht⟩ : ∃ t, t = n / 2 ^ s % 2 := ⟨_, rfl⟩
      rw [← ht] at hbq
      obtain ⟨bit, hbit⟩ : ∃ b, b = bitAt n s := ⟨_, rfl⟩
      have hbt : ((t : Int) == 1) = bit := by
        rw [hbit, bitAt, ← ht]
        by_cases h1 : t = 1
        · rw [h1]; rfl
        · rw [decide_eq_false h1, beq_eq_false_iff_ne]; omega
      obtain ⟨c, hc⟩ : ∃ c, c = base + node := ⟨_, rfl⟩
      have s1 : (base : Int) + (node : Int) = (c : Int) := by omega
      have hr1 : r - 1 = s := hs.symm
      have HK := hide (show (k ++ [((c : Int), bit)]) ++ (treeG n base s (2 * node + bN bit)).map toI = K by
        rw [← hk.out, show r = s + 1 by omega, hc, hbit, List.append_assoc]; rfl)
      have HND := hide (show 2 * node + bN bit < 2 ^ (many - s + 1) by
        have := bN_le bit
        rw [show many - s + 1 = (many - r + 1) + 1 by omega, Nat.pow_succ]; omega)
      have HS := hide (And.intro hs hr)
      have hws := hbl.out.size
      have hkb : k.length ≤ 100010 := by omega
      have HKL := hide hkl
      clear ht hbit hc hk hs es hnd hkl
      go_wp2_with (at_builtin; refine wpList_append_lies _ rfl _ _ 129 rfl B 122 i0 (.agg #[.int .i64 0, .bool false]) 2 16 Tryz.underlying129 hi hz0 hz1 hz2 rfl (by omega) u0 k.length (bitC k) rfl (hown.alloc _) ⟨wr.heap.size, 0, none⟩ 1 1 [.int .i64 (c : Int), .bool bit] rfl rfl (cells2 _ _ _ _ _ rfl) (cells2_one _ _) (by omega) (by unfold maxLen; omega) (by omega) (by simp; omega) (wr.heap.size + 1) (by simp) ?_)
      intro g' cap' w9 hown' hg' hat' _
      have R1 : w9.ownsRow B 122 2 (.slice (some ⟨g', 0, none⟩) (k.length + 1) cap') (k ++ [((c : Int), bit)]).length (bitC (k ++ [((c : Int), bit)])) := by
        rw [bitC_snoc, List.length_append]; exact hown'
      have R2 := hide (show w.grownBy w9 v.ownBlock from ⟨hg'.os.trans hbl.out.os, hg'.tape.trans hbl.out.tape, hg'.output.trans hbl.out.output, Nat.le_trans hbl.out.size (Nat.le_trans (by simp) hg'.size), fun j hj hne => (hg'.block j (by simp; omega) (fun e => by
        rcases hzz.out j e.symm with h | h
        · exact hne h.symm
        · omega)).trans ((Below.heap_alloc _ _ j (by omega)).trans (hbl.out.block j hj hne))⟩)
      have R3 := hide (show ∀ z, (Value.slice (some ⟨g', 0, none⟩) (k.length + 1) cap').ownBlock = some z → v.ownBlock = some z ∨ w.heap.size ≤ z from fun z hz => by
        have e1 : g' = z := by simpa [Value.ownBlock] using hz
        rcases hat' with h | h
        · exact hzz.out z (by rw [h, e1])
        · exact .inr (by omega))
      clear hown' hg' hown hbl hat' hzz
      cases bit with
      | true =>
        go_wp2_with fail
        go_roundw
        case rel => exact ⟨s, 2 * node + 1, k ++ [((c : Int), true)], by have := HS.out; omega, HND.out, by go_num, congrArg _ (by omega), by have := HKL.out; have := HS.out; simp; omega, R1, HK, R2, R3⟩
        case measure => simp [intOf]
      | false =>
        go_wp2_with fail
        go_roundw
        case rel => exact ⟨s, 2 * node, k ++ [((c : Int), false)], by have := HS.out; omega, HND.out, by go_num, congrArg _ (by omega), by have := HKL.out; have := HS.out; simp; omega, R1, HK, R2, R3⟩
        case measure => simp [intOf]
    · have hr1 : r = 0 := by omega
      have hlt : ¬ (0 : Int) ≤ (r : Int) - 1 := by omega
      have e := hk.out
      rw [hr1] at e
      have e2 : k = K := by rw [← e]; simp [treeG]
      have HO := hide (show wr.ownsRow B 122 2 u0 K.length (bitC K) by rw [← e2]; exact hown)
      clear hown e e2 hk hr1
      go_wp2_with fail
      go_ret
      exact ⟨_, rfl, HO.out, hbl.out, hzz.out⟩
theorem toksBits_snoc (l : List Tok) (x : Tok) : toksBits (l ++ [x]) = toksBits l ++ tokBits x := by simp [toksBits]
theorem tokOk_two (x : Tok) (h : tokOk x = true) : (x.f = 0 ∧ 0 ≤ x.b ∧ x.b ≤ 255) ∨ (x.f ≠ 0 ∧ 3 ≤ x.m ∧ x.m ≤ 66 ∧ 1 ≤ x.f ∧ x.f ≤ 1024) := by
  unfold tokOk at h
  split at h
  · rename_i h2
    have := of_decide_eq_true h
    exact .inl ⟨h2.2, this.1, this.2⟩
  · have := of_decide_eq_true h
    exact .inr ⟨by omega, this.2⟩
set_option maxRecDepth 100000 in
set_option maxHeartbeats 1600000 in
theorem spec_tokBits (v : Value) (l : List Tok) (w : World) (hlen : l.length ≤ 4000) (hok : ∀ x ∈ l, tokOk x = true) (hb : TokI w w.heap.size v l) :
    Calls Tryz.prog 94 #[v] w fun e w' => ∃ v', e = .returned v' ∧ w'.ownsRow w.heap.size 122 2 v' ((toksBits l).map toI).length (bitC ((toksBits l).map toI)) ∧ Below w.heap.size w w' := by
  obtain ⟨i0, hi, hz0, hz1, hz2⟩ := info_parts Tryz.infoBitP
  obtain ⟨a, cap, rfl, hcap, htoks⟩ := hb
  have HT := hide htoks
  have HOK := hide hok
  clear htoks hok
  have hcap' : (l.length : Int) ≤ (cap : Int) := by omega
  obtain ⟨K, hK⟩ : ∃ K, K = (toksBits l).map toI := ⟨_, rfl⟩
  rw [← hK]
  have HK := hide hK
  clear hK
  have hown0 := (show (w.alloc (.cells #[] 122)).ownsRow w.heap.size 122 2 (.slice (some ⟨w.heap.size, 0, none⟩) 0 0) 0 [] by
    have h := World.ownsRow_made (e := 122) (size := 2) (base := w.heap.size) w #[] 0 (Nat.le_refl _) (by decide) (by simp)
    simpa using h)
  have hb0 := hide ((Below.refl w.heap.size w).alloc (Nat.le_refl _) (.cells #[] 122))
  go_enter Tryz.func94, Tryz.ntmps94
  go_wp2_with fail
  generalize w.alloc (.cells #[] 122) = W0 at *
  go_loopw [3, 4] (fun bv i wx => ∃ (k : Nat) (b : List (Int × Bool)), k ≤ l.length ∧ i = .int .i64 k ∧ wx.ownsRow w.heap.size 122 2 bv b.length (bitC b) ∧ b.length ≤ 17 * k ∧ Hid (b = (toksBits (l.take k)).map toI) ∧ Hid (Below w.heap.size w wx)) (fun _ i _ => l.length - (intOf i).toNat)
  case atStart => exact ⟨0, [], by omega, rfl, hown0, Nat.zero_le _, rfl, hb0⟩
  case round =>
    clear hown0 hb0
    obtain ⟨k, b, hk, rfl, hown, hbl17, hbe, hbl⟩ := hrel
    by_cases hlt : k < l.length
    · have hlt' : (k : Int) < (l.length : Int) := by omega
      obtain ⟨x, hx⟩ : ∃ x, l[k]? = some x := ⟨_, List.getElem?_eq_getElem hlt⟩
      obtain h0 | ⟨r, o, rfl, hr, hcells⟩ := HT.out
      · rw [h0] at hlt; simp at hlt
      obtain ⟨x1, x2, x3⟩ := hcells k x hx
      obtain ⟨q, hq⟩ : ∃ q, q = o + 3 * k := ⟨_, rfl⟩
      rw [← hq] at x1 x2 x3
      have y1 := (hbl.out.cell (p := ⟨r, q, none⟩) hr).trans x1
      have y2 := (hbl.out.cell (p := ⟨r, q + 1, none⟩) hr).trans x2
      have y3 := (hbl.out.cell (p := ⟨r, q + 2, none⟩) hr).trans x3
      have y3' : wr.cell? ⟨r, q + 1 + 1, none⟩ = some (.int .i64 x.f) := y3
      have n1 : o + 3 * k = q := hq.symm
      have n2 : o + k * 3 = q := by omega
      have hcs := tokOk_two x (HOK.out x (List.mem_of_getElem? hx))
      have HBT := hide (show (toksBits (l.take (k + 1))).map toI = b ++ (tokBits x).map toI by
        rw [hbe.out, List.take_succ_eq_append_getElem hlt]
        rw [List.getElem?_eq_getElem hlt] at hx
        rw [Option.some.inj hx, toksBits_snoc, List.map_append])
      have hws := hbl.out.size
      have HOWN := hide hown
      clear hcells hx x1 x2 x3 hq hown hbe
      obtain ⟨xb, xm, xf⟩ := x
      simp only at y1 y2 y3 y3' hcs
      have c0 : (wr.alloc (.cells #[.int .i64 xb, .int .i64 xm, .int .i64 xf] 80)).cell? ⟨wr.heap.size, 0, none⟩ = some (.int .i64 xb) := by simp
      have c1 : (wr.alloc (.cells #[.int .i64 xb, .int .i64 xm, .int .i64 xf] 80)).cell? ⟨wr.heap.size, 1, none⟩ = some (.int .i64 xm) := by simp
      have c2 : (wr.alloc (.cells #[.int .i64 xb, .int .i64 xm, .int .i64 xf] 80)).cell? ⟨wr.heap.size, 2, none⟩ = some (.int .i64 xf) := by simp
      have OA := HOWN.out.alloc (.cells #[.int .i64 xb, .int .i64 xm, .int .i64 xf] 80)
      have BA := hide (hbl.out.alloc hws (.cells #[.int .i64 xb, .int .i64 xm, .int .i64 xf] 80))
      have hzn : ∀ z, u3.ownBlock = some z → z < wr.heap.size := fun z hz => (HOWN.out.lt z hz).2
      have HZN := hide hzn
      clear HOWN hbl hzn
      rcases hcs with ⟨hf, hb0, hb1⟩ | ⟨hf, hm3, hm66, hf1, hf1024⟩
      · obtain ⟨y, rfl⟩ := Int.eq_ofNat_of_zero_le hb0
        have df : (xf == 0) = true := by rw [hf]; rfl
        have HB2 := hide (show (tokBits ⟨(y : Int), xm, xf⟩).map toI = ((0 : Int), false) :: (tree y 8 16).map toI by
          unfold tokBits
          rw [if_pos (show xf = 0 from hf)]; rfl)
        have dg : decide (0 < xf) = false := decide_eq_false (by omega)
        clear hf
        go_wp2_with (at_builtin; refine wpList_append_lies _ rfl _ _ 129 rfl w.heap.size 122 i0 (.agg #[.int .i64 0, .bool false]) 2 16 Tryz.underlying129 hi hz0 hz1 hz2 rfl (by omega) u3 b.length (bitC b) rfl (OA.alloc _) ⟨wr.heap.size + 1, 0, none⟩ 1 1 [.int .i64 0, .bool false] rfl rfl (cells2 _ _ _ _ _ (by simp)) (cells2_one _ _) (by omega) (by unfold maxLen; omega) (by omega) (by simp; omega) (wr.heap.size + 1 + 1) (by simp) ?_)
        intro g' cap' w5 hown' hg' hat' _
        have O5 : w5.ownsRow w.heap.size 122 2 (.slice (some ⟨g', 0, none⟩) (b.length + 1) cap') (b ++ [((0 : Int), false)]).length (bitC (b ++ [((0 : Int), false)])) := by
          rw [bitC_snoc, List.length_append]; exact hown'
        have B5 := hide ((BA.out.alloc (by simp; omega) _).grown hg' (by simp; omega) (fun x hx => (OA.lt x hx).1))
        have hzg : u3.ownBlock ≠ some wr.heap.size := fun e => by have := HZN.out _ e; omega
        have hcz : ∀ i v, (wr.alloc (.cells #[.int .i64 (y : Int), .int .i64 xm, .int .i64 xf] 80)).cell? ⟨wr.heap.size, i, none⟩ = some v → w5.cell? ⟨wr.heap.size, i, none⟩ = some v := fun i v h =>
          hg'.cell (a := ⟨wr.heap.size, i, none⟩) ((((Below.refl (wr.heap.size + 1) (wr.alloc (.cells #[.int .i64 (y : Int), .int .i64 xm, .int .i64 xf] 80))).alloc (by simp) _).cell (p := ⟨wr.heap.size, i, none⟩) (by show wr.heap.size < wr.heap.size + 1; omega)).trans h) (fun e => hzg e.symm)
        have d0 := hcz 0 _ c0
        have d1 := hcz 1 _ c1
        have d2 := hcz 2 _ c2
        have z5 : wr.heap.size + 2 ≤ w5.heap.size := by have := hg'.size; simp at this; omega
        have hg'z : g' ≠ wr.heap.size := by
          rcases hat' with h | h
          · intro e; exact hzg (by rw [h, e])
          · omega
        have O5' := hide O5
        clear hown' hg' hat' O5 hcz OA BA c0 c1 c2 y1 y2 y3 y3' n1 n2
        have ST := hide (spec_tree w.heap.size y 8 16 _ (b ++ [((0 : Int), false)]) w5 (by omega) (by omega) (by omega) (by simp; omega) (by have := B5.out.size; omega) O5'.out)
        clear HZN hzg
        go_wp2_with fail
        refine ST.out.mono ?_
        rintro e w6 ⟨v6, rfl, own6, hb6, _⟩
        have B6 := hide (B5.out.grown hb6 (by have := B5.out.size; omega) (fun x hx => (O5'.out.lt x hx).1))
        have e6 : (b ++ [((0 : Int), false)]) ++ (tree y 8 16).map toI = (toksBits (l.take (k + 1))).map toI := by rw [HBT.out, HB2.out]; simp
        have hl6 : ((b ++ [((0 : Int), false)]) ++ (tree y 8 16).map toI).length ≤ 17 * (k + 1) := by
          rw [List.length_append, List.length_append, List.length_map, tree, treeG_len]
          show b.length + 1 + 8 ≤ _; omega
        generalize (b ++ [((0 : Int), false)]) ++ (tree y 8 16).map toI = b6 at *
        have E6 := hide e6
        clear hb6 B5 ST e6 O5' HBT HB2
        go_wp2_with fail
        go_roundw
        case rel => exact ⟨k + 1, b6, by omega, by go_num, own6, hl6, E6, B6⟩
        case measure => simp [intOf]; omega
      · obtain ⟨m, rfl⟩ := Int.eq_ofNat_of_zero_le (show (0 : Int) ≤ xm by omega)
        obtain ⟨f, rfl⟩ := Int.eq_ofNat_of_zero_le (show (0 : Int) ≤ xf by omega)
        have df : ((f : Int) == 0) = false := by rw [beq_eq_false_iff_ne]; exact hf
        have HB2 := hide (show (tokBits ⟨xb, (m : Int), (f : Int)⟩).map toI = ((0 : Int), true) :: ((tree (m - 3) 6 300).map toI ++ (tree (f - 1) 10 400).map toI) by
          unfold tokBits
          rw [if_neg (show ¬ (f : Int) = 0 from hf)]
          show ((0, true) :: (tree ((m : Int) - 3).toNat 6 300 ++ tree ((f : Int) - 1).toNat 10 400)).map toI = _
          rw [show ((m : Int) - 3).toNat = m - 3 by omega, show ((f : Int) - 1).toNat = f - 1 by omega, List.map_cons, List.map_append]; rfl)
        have dg : decide (0 < (f : Int)) = true := decide_eq_true (by omega)
        have dgN : decide (0 < f) = true := decide_eq_true (by omega)
        clear hf
        go_wp2_with (at_builtin; refine wpList_append_lies _ rfl _ _ 129 rfl w.heap.size 122 i0 (.agg #[.int .i64 0, .bool false]) 2 16 Tryz.underlying129 hi hz0 hz1 hz2 rfl (by omega) u3 b.length (bitC b) rfl (OA.alloc _) ⟨wr.heap.size + 1, 0, none⟩ 1 1 [.int .i64 0, .bool true] rfl rfl (cells2 _ _ _ _ _ (by simp)) (cells2_one _ _) (by omega) (by unfold maxLen; omega) (by omega) (by simp; omega) (wr.heap.size + 1 + 1) (by simp) ?_)
        intro g' cap' w5 hown' hg' hat' _
        have O5 : w5.ownsRow w.heap.size 122 2 (.slice (some ⟨g', 0, none⟩) (b.length + 1) cap') (b ++ [((0 : Int), true)]).length (bitC (b ++ [((0 : Int), true)])) := by
          rw [bitC_snoc, List.length_append]; exact hown'
        have B5 := hide ((BA.out.alloc (by simp; omega) _).grown hg' (by simp; omega) (fun x hx => (OA.lt x hx).1))
        have hzg : u3.ownBlock ≠ some wr.heap.size := fun e => by have := HZN.out _ e; omega
        have hcz : ∀ i v, (wr.alloc (.cells #[.int .i64 xb, .int .i64 (m : Int), .int .i64 (f : Int)] 80)).cell? ⟨wr.heap.size, i, none⟩ = some v → w5.cell? ⟨wr.heap.size, i, none⟩ = some v := fun i v h =>
          hg'.cell (a := ⟨wr.heap.size, i, none⟩) ((((Below.refl (wr.heap.size + 1) (wr.alloc (.cells #[.int .i64 xb, .int .i64 (m : Int), .int .i64 (f : Int)] 80))).alloc (by simp) _).cell (p := ⟨wr.heap.size, i, none⟩) (by show wr.heap.size < wr.heap.size + 1; omega)).trans h) (fun e => hzg e.symm)
        have d0 := hcz 0 _ c0
        have d1 := hcz 1 _ c1
        have d2 := hcz 2 _ c2
        have z5 : wr.heap.size + 2 ≤ w5.heap.size := by have := hg'.size; simp at this; omega
        have hg'z : g' ≠ wr.heap.size := by
          rcases hat' with h | h
          · intro e; exact hzg (by rw [h, e])
          · omega
        have O5' := hide O5
        clear hown' hg' hat' O5 hcz OA BA c0 c1 c2 y1 y2 y3 y3' n1 n2
        obtain ⟨m3, em3⟩ : ∃ x, x = m - 3 := ⟨_, rfl⟩
        obtain ⟨f1, ef1⟩ : ∃ x, x = f - 1 := ⟨_, rfl⟩
        have s1 : (m : Int) - 3 = (m3 : Int) := by omega
        have s2 : (f : Int) - 1 = (f1 : Int) := by omega
        have ST := hide (spec_tree w.heap.size m3 6 300 _ (b ++ [((0 : Int), true)]) w5 (by omega) (by omega) (by omega) (by simp; omega) (by have := B5.out.size; omega) O5'.out)
        rw [← em3, ← ef1] at HB2
        clear HZN hzg em3 ef1
        go_wp2_with fail
        refine ST.out.mono ?_
        rintro e w6 ⟨v6, rfl, own6, hb6, hz6⟩
        have B6 := hide (B5.out.grown hb6 (by have := B5.out.size; omega) (fun x hx => (O5'.out.lt x hx).1))
        have z6 := hb6.size
        have e2' : w6.cell? ⟨wr.heap.size, 2, none⟩ = some (.int .i64 (f : Int)) := hb6.cell (a := ⟨wr.heap.size, 2, none⟩) d2 (fun e => hg'z (by have := Option.some.inj e; exact this.symm))
        have ST2 := hide (spec_tree w.heap.size f1 10 400 v6 ((b ++ [((0 : Int), true)]) ++ (tree m3 6 300).map toI) w6 (by omega) (by omega) (by omega) (by rw [List.length_append, List.length_append, List.length_map, tree, treeG_len]; show b.length + 1 + 6 ≤ _; omega) (by have := B5.out.size; omega) own6)
        have O6 := hide own6
        clear hb6 B5 ST O5' d0 d1 d2 own6 hz6
        go_wp2_with fail
        refine ST2.out.mono ?_
        rintro e w7 ⟨v7, rfl, own7, hb7, _⟩
        have B7 := hide (B6.out.grown hb7 (by have := B6.out.size; omega) (fun x hx => (O6.out.lt x hx).1))
        have e7 : ((b ++ [((0 : Int), true)]) ++ (tree m3 6 300).map toI) ++ (tree f1 10 400).map toI = (toksBits (l.take (k + 1))).map toI := by rw [HBT.out, HB2.out]; simp
        have hl7 : (((b ++ [((0 : Int), true)]) ++ (tree m3 6 300).map toI) ++ (tree f1 10 400).map toI).length ≤ 17 * (k + 1) := by
          rw [List.length_append, List.length_append, List.length_append, List.length_map, List.length_map, tree, tree, treeG_len, treeG_len]
          show b.length + 1 + 6 + 10 ≤ _; omega
        generalize ((b ++ [((0 : Int), true)]) ++ (tree m3 6 300).map toI) ++ (tree f1 10 400).map toI = b7 at *
        have E7 := hide e7
        clear hb7 B6 ST2 e7 O6 HBT HB2
        go_wp2_with fail
        go_roundw
        case rel => exact ⟨k + 1, b7, by omega, by go_num, own7, hl7, E7, B7⟩
        case measure => simp [intOf]; omega
    · have hlt' : ¬ (k : Int) < (l.length : Int) := by omega
      have e := hbe.out
      rw [List.take_of_length_le (by omega), ← HK.out] at e
      have HO := hide (show wr.ownsRow w.heap.size 122 2 u3 K.length (bitC K) by rw [← e]; exact hown)
      clear hown e hbe
      go_wp2_with fail
      go_ret
      exact ⟨_, rfl, HO.out, hbl.out⟩
end Go.Proofs.YtconcnndghmdfaaGreatDoor
namespace Go.Proofs.YtconcnndghmdfaaGreatDoor
open Go.RowKit

/-- The bytes of a number from 0 on: seven bits a byte, the lowest first, 128 more in all but the last. -/
def encNum (u : Nat) : List UInt8 := if h : u < 128 then [UInt8.ofNat u] else UInt8.ofNat (u % 128 + 128) :: encNum (u / 128)

theorem encNum_last (u : Nat) (h : u < 128) : encNum u = [UInt8.ofNat u] := by rw [encNum, dif_pos h]
theorem encNum_more (u : Nat) (h : ¬ u < 128) : encNum u = UInt8.ofNat (u % 128 + 128) :: encNum (u / 128) := by
  conv => lhs; rw [encNum, dif_neg h]

theorem encNum_len (k : Nat) : ∀ u : Nat, u < 128 ^ (k + 1) → (encNum u).length ≤ k + 1 := by
  induction k with
  | zero => intro u h; rw [encNum_last u (by simpa using h)]; simp
  | succ k ih =>
    intro u h
    by_cases hu : u < 128
    · rw [encNum_last u hu]; simp
    · rw [encNum_more u hu]
      have := ih (u / 128) (by rw [Nat.pow_succ] at h; exact Nat.div_lt_of_lt_mul (by rw [Nat.mul_comm]; exact h))
      simp; omega

theorem encNum_len10 (u : Nat) (h : u < 2 ^ 64) : (encNum u).length ≤ 10 := encNum_len 9 u (Nat.lt_of_lt_of_le h (by decide))

/-- Twice n, or -2n-1. -/
def foldNum (n : Int) : Nat := if n < 0 then (-2 * n - 1).toNat else (2 * n).toNat
end Go.Proofs.YtconcnndghmdfaaGreatDoor
namespace Go.Proofs.YtconcnndghmdfaaGreatDoor
open Go.RowKit

theorem Tryz.infoU8 : (Tryz.prog.info? 5).map (fun i => (i.zero, i.size, i.bytes)) = some (some (.int .u8 0), 1, 1) := by kernel_rfl

theorem fold_neg (n : Int) (h : n < 0) : (foldNum n : Int) = 2 * -(n + 1) + 1 := by unfold foldNum; rw [if_pos h]; omega
theorem fold_pos (n : Int) (h : 0 ≤ n) : (foldNum n : Int) = 2 * n := by unfold foldNum; rw [if_neg (by omega)]; omega
theorem fold_le (n : Int) (h1 : -9223372036854775808 ≤ n) (h2 : n ≤ 9223372036854775807) : foldNum n ≤ 18446744073709551615 := by
  by_cases h : n < 0
  · have := fold_neg n h; omega
  · have := fold_pos n (by omega); omega

set_option maxHeartbeats 400000 in
theorem spec_fold (n : Int) (w : World) (h1 : -9223372036854775808 ≤ n) (h2 : n ≤ 9223372036854775807) :
    Calls Tryz.prog 67 #[.int .i64 n] w fun e w' => e = .returned (.int .u64 (foldNum n)) ∧ w = w' := by
  by_cases h : n < 0
  · go_enter Tryz.func67, Tryz.ntmps67
    go_wp2
    go_ret
    exact ⟨ret_int (fold_neg n h).symm, rfl⟩
  · go_enter Tryz.func67, Tryz.ntmps67
    go_wp2
    go_ret
    exact ⟨ret_int (fold_pos n (by omega)).symm, rfl⟩

theorem own_empty (w : World) (e : Nat) : (w.alloc (.cells #[] e)).ownsRow w.heap.size e 1 (.slice (some ⟨w.heap.size, 0, none⟩) 0 0) ([] : List UInt8).length (([] : List UInt8).map byteV) := by
  simpa using World.ownsRow_made (e := e) (size := 1) (base := w.heap.size) w #[] 0 (Nat.le_refl _) (by decide) (by simp)

theorem len_le {done r : List UInt8} {m : Nat} (h : done ++ r = encNum m) (hm : m ≤ 18446744073709551615) : done.length ≤ 10 := by
  have h1 := encNum_len10 m (by omega)
  have h2 := congrArg List.length h
  simp at h2; omega

theorem below_push {w wr w1 : World} {e : Nat} {v : Value} {n : Nat} {xs : List Value} {o : Obj} (hown : wr.ownsRow w.heap.size e 1 v n xs) (hg : (wr.alloc o).grownBy w1 v.ownBlock) (hb : Below w.heap.size w wr) : Below w.heap.size w w1 :=
  (hb.alloc hb.size o).grown hg (by have := hb.size; simp; omega) (fun k hk => (hown.lt k hk).1)

theorem more_step {w wr w1 : World} {e : Nat} {v v' : Value} {U : Nat} {done : List UInt8} {o : Obj} {n : Int} (hlt : ¬ U < 128) (hd : done ++ encNum U = encNum (foldNum n))
    (hown : wr.ownsRow w.heap.size e 1 v done.length (done.map byteV)) (hown' : w1.ownsRow w.heap.size e 1 v' (done.length + 1) (done.map byteV ++ [.int .u8 ((U : Int) % 128 + 128)]))
    (hg : (wr.alloc o).grownBy w1 v.ownBlock) (hb : Below w.heap.size w wr) :
    Hid ((done ++ [UInt8.ofNat (U % 128 + 128)]) ++ encNum (U / 128) = encNum (foldNum n)) ∧ w1.ownsRow w.heap.size e 1 v' (done ++ [UInt8.ofNat (U % 128 + 128)]).length ((done ++ [UInt8.ofNat (U % 128 + 128)]).map byteV) ∧ Below w.heap.size w w1 := by
  refine ⟨?_, own_push _ hown' ?_, below_push hown hg hb⟩
  · show _ = _
    rw [← hd, encNum_more U hlt]; simp
  · rw [ofNat_byte _ (by omega)]; omega

theorem last_step {w wr w1 : World} {e : Nat} {v v' : Value} {U : Nat} {done : List UInt8} {o : Obj} {n : Int} (hlt : U < 128) (hd : done ++ encNum U = encNum (foldNum n))
    (hown : wr.ownsRow w.heap.size e 1 v done.length (done.map byteV)) (hown' : w1.ownsRow w.heap.size e 1 v' (done.length + 1) (done.map byteV ++ [.int .u8 (U : Int)]))
    (hg : (wr.alloc o).grownBy w1 v.ownBlock) (hb : Below w.heap.size w wr) :
    ∃ g cap, v' = .slice (some ⟨g, 0, none⟩) (encNum (foldNum n)).length cap ∧
      (∀ (P : Program) (src dst : Nat), P.underlying src = some (.slice e) → P.underlying e = some (.int .u8) → P.underlying dst = some .string → (convert src dst (.slice (some ⟨g, 0, none⟩) (encNum (foldNum n)).length cap)).run P w1 = .ok (.string ⟨(encNum (foldNum n)).toArray⟩) w1) ∧ Below w.heap.size w w1 := by
  have h := own_push (UInt8.ofNat U) hown' (by rw [ofNat_byte _ (by omega)])
  have e1 : done ++ [UInt8.ofNat U] = encNum (foldNum n) := by rw [← hd, encNum_last U hlt]
  rw [e1] at h
  have hne : encNum (foldNum n) ≠ [] := by rw [← e1]; simp
  obtain ⟨g, cap, rfl, _, hc⟩ := own_bytes h hne
  exact ⟨g, cap, rfl, fun P src dst hs he hd => run_convert_bytes_back w1 src dst e ⟨g, 0, none⟩ cap _ hs he hd hc, below_push hown hg hb⟩

set_option maxRecDepth 100000 in
set_option maxHeartbeats 400000 in
theorem spec_putNum (n : Int) (w : World) (h1 : -9223372036854775808 ≤ n) (h2 : n ≤ 9223372036854775807) :
    Calls Tryz.prog 39 #[.int .i64 n] w fun e w' => e = .returned (.string ⟨(encNum (foldNum n)).toArray⟩) ∧ Below w.heap.size w w' := by
  have hm := fold_le n h1 h2
  obtain ⟨i0, hi, hz0, hz1, hz2⟩ := info_parts Tryz.infoU8
  go_enter Tryz.func39, Tryz.ntmps39
  go_wp2_with (go_at_call 67; refine (spec_fold n _ h1 h2).mono ?_; rintro e w' ⟨rfl, rfl⟩)
  go_loopw [3, 4] (fun u v wr => ∃ (U : Nat) (done : List UInt8), (U : Int) ≤ 18446744073709551615 ∧ u = .int .u64 U ∧ Hid (done ++ encNum U = encNum (foldNum n)) ∧ wr.ownsRow w.heap.size 5 1 v done.length (done.map byteV) ∧ Below w.heap.size w wr) (fun u _ _ => (intOf u).toNat)
  case atStart => exact ⟨_, [], by omega, rfl, rfl, own_empty w _, (Below.refl _ _).alloc (Nat.le_refl _) _⟩
  case round =>
    obtain ⟨U, done, hU, rfl, hd, hown, hb⟩ := hrel
    have hl := len_le hd.out hm
    clear hm
    have hs := hb.size
    by_cases hlt : U < 128
    · go_wp2_with (at_builtin; refine wpList_append_own _ rfl _ _ 22 rfl w.heap.size 5 i0 (.int .u8 0) 1 1 Tryz.underlying22 hi hz0 hz1 hz2 rfl (by decide) _ _ _ rfl (hown.alloc _) ⟨wr.heap.size, 0, none⟩ 1 1 [.int .u8 (U : Int)] rfl rfl (one_cell _ _ _) (one_oneCell _ _) ?c3 ?c4 ?c5 ?_)
      case c3 => unfold maxLen; omega
      case c4 => omega
      case c5 => simp; omega
      intro v' w1 hown' hgrow _
      have R := last_step hlt hd.out hown hown' hgrow hb
      clear hown hown' hgrow hb
      obtain ⟨g, cap, rfl, hcv, hb'⟩ := R
      have hcv := hcv Tryz.prog 22 9 Tryz.underlying22 Tryz.underlying5 Tryz.underlying9
      go_wp2
      go_ret
      exact ⟨rfl, hb'⟩
    · go_wp2_with (at_builtin; refine wpList_append_own _ rfl _ _ 22 rfl w.heap.size 5 i0 (.int .u8 0) 1 1 Tryz.underlying22 hi hz0 hz1 hz2 rfl (by decide) _ _ _ rfl (hown.alloc _) ⟨wr.heap.size, 0, none⟩ 1 1 [.int .u8 ((U : Int) % 128 + 128)] rfl rfl (one_cell _ _ _) (one_oneCell _ _) ?d3 ?d4 ?d5 ?_)
      case d3 => unfold maxLen; omega
      case d4 => omega
      case d5 => simp; omega
      intro v' w1 hown' hgrow _
      have R := more_step hlt hd.out hown hown' hgrow hb
      clear hown hown' hgrow hb
      go_wp2
      go_roundw
      case rel => exact ⟨U / 128, _, by omega, by go_num, R.1, R.2.1, R.2.2⟩
      case measure => simp [intOf]; omega
end Go.Proofs.YtconcnndghmdfaaGreatDoor
namespace Go.Proofs.YtconcnndghmdfaaGreatDoor
open Go.RowKit
theorem bF_getM (t : ByteArray) (j : Nat) (h : j < t.size) : t[j].toNat = (bF t j).toNat := by
  have h2 := bF_at t t.size rfl j h
  rw [List.getElem?_eq_getElem (by have e : t.data.toList.length = t.size := rfl; omega)] at h2
  rw [← Option.some.inj h2]; rfl
theorem longG_now (T : Nat → UInt8) (N at_ far n : Nat) (hn : n < 66) (h : at_ + n < N ∧ T (at_ + n) = T (at_ + n - far)) : longG T N at_ far (66 - n) n = longG T N at_ far (66 - (n + 1)) (n + 1) := by
  rw [show 66 - n = (66 - (n + 1)) + 1 by omega]
  show (if at_ + n < N ∧ T (at_ + n) = T (at_ + n - far) then _ else _) = _
  rw [if_pos h]
theorem longG_not (T : Nat → UInt8) (N at_ far n : Nat) (h : ¬ (n < 66 ∧ at_ + n < N ∧ T (at_ + n) = T (at_ + n - far))) (hn : n ≤ 66) : longG T N at_ far (66 - n) n = n := by
  by_cases e : n = 66
  · subst e; rfl
  · rw [show 66 - n = (66 - (n + 1)) + 1 by omega]
    show (if at_ + n < N ∧ T (at_ + n) = T (at_ + n - far) then _ else _) = _
    rw [if_neg (fun h2 => h ⟨by omega, h2⟩)]
set_option maxRecDepth 100000 in
set_option maxHeartbeats 800000 in
theorem spec_long (t : ByteArray) (at_ far : Nat) (w : World) (hN : t.size ≤ 1000000) (hat : at_ ≤ t.size) (hf1 : 1 ≤ far) (hf2 : far ≤ at_) :
    Calls Tryz.prog 127 #[.string t, .int .i64 (at_ : Int), .int .i64 (far : Int)] w fun e w' => e = .returned (.int .i64 (long (bF t) t.size at_ far : Nat)) ∧ Below w.heap.size w w' := by
  go_enter Tryz.func127, Tryz.ntmps127
  go_wp2_with fail
  go_loopw [7] (fun i wx => ∃ k : Nat, k ≤ 66 ∧ i = .int .i64 k ∧ Hid (longG (bF t) t.size at_ far (66 - k) k = long (bF t) t.size at_ far) ∧ Hid (Below w.heap.size w wx)) (fun i _ => 66 - (intOf i).toNat)
  case atStart => exact ⟨0, by omega, rfl, rfl, Below.refl _ _⟩
  case round =>
    obtain ⟨k, hk, rfl, hl, hbl⟩ := hrel
    obtain ⟨q, hq⟩ : ∃ q, q = at_ + k := ⟨_, rfl⟩
    have s1 : (at_ : Int) + (k : Int) = (q : Int) := by omega
    have s1w : IntKind.i64.wrap ((at_ : Int) + (k : Int)) = (q : Int) := by simp only [IntKind.wrap_i64]; omega
    have hqb : (q : Int) ≤ 1000066 := by omega
    by_cases h1 : k < 66
    · have h1' : (k : Int) < 66 := by omega
      have d1 : decide ((k : Int) < 66) = true := decide_eq_true h1'
      by_cases h2 : q < t.size
      · have h2' : (q : Int) < (t.size : Int) := by omega
        have d2 : decide ((q : Int) < (t.size : Int)) = true := decide_eq_true h2'
        obtain ⟨p, hp⟩ : ∃ p, p = q - far := ⟨_, rfl⟩
        have s2 : (q : Int) - (far : Int) = (p : Int) := by omega
        have s2w : IntKind.i64.wrap ((q : Int) - (far : Int)) = (p : Int) := by simp only [IntKind.wrap_i64]; omega
        have hp2 : p < t.size := by omega
        have hp2' : (p : Int) < (t.size : Int) := by omega
        have b1 := bF_getM t q h2
        have b2 := bF_getM t p hp2
        by_cases h3 : bF t q = bF t p
        · obtain ⟨x, hx⟩ : ∃ x, x = (bF t q).toNat := ⟨_, rfl⟩
          rw [← hx] at b1
          rw [← h3, ← hx] at b2
          have HL := hide (show longG (bF t) t.size at_ far (66 - (k + 1)) (k + 1) = long (bF t) t.size at_ far by
            rw [← hl.out, longG_now (bF t) t.size at_ far k h1 ⟨by omega, by rw [← hq, ← hp]; exact h3⟩])
          clear hl hq hp hx h3
          go_wp2_with fail
          go_quiet (fail)
          have B2 := hide (show Below w.heap.size w (wr.drewN nq) from hbl.out.trans ⟨rfl, rfl, rfl, Nat.le_refl _, fun _ _ => rfl⟩)
          clear hbl
          go_wp2_with fail
          go_roundw
          case rel => exact ⟨k + 1, by omega, by go_num, HL, B2⟩
          case measure => simp [intOf]; omega
        · obtain ⟨x, hx⟩ : ∃ x, x = (bF t q).toNat := ⟨_, rfl⟩
          obtain ⟨y, hy⟩ : ∃ y, y = (bF t p).toNat := ⟨_, rfl⟩
          rw [← hx] at b1
          rw [← hy] at b2
          have hxy : ((x : Int) == (y : Int)) = false := by
            rw [beq_eq_false_iff_ne]
            intro e
            exact h3 (UInt8.toNat_inj.1 (by omega))
          have HL := hide (show k = long (bF t) t.size at_ far by
            rw [← hl.out, longG_not (bF t) t.size at_ far k (fun h => h3 (by have := h.2.2; rw [← hq, ← hp] at this; exact this)) hk])
          clear hl hq hp hx hy h3
          go_wp2_with fail
          go_quiet (fail)
          have B2 := hide (show Below w.heap.size w (wr.drewN nq) from hbl.out.trans ⟨rfl, rfl, rfl, Nat.le_refl _, fun _ _ => rfl⟩)
          clear hbl
          go_wp2_with fail
          go_ret
          exact ⟨by rw [← HL.out]; rfl, B2.out⟩
      · have h2' : ¬ (q : Int) < (t.size : Int) := by omega
        have d2 : decide ((q : Int) < (t.size : Int)) = false := decide_eq_false h2'
        have HL := hide (show k = long (bF t) t.size at_ far by
          rw [← hl.out, longG_not (bF t) t.size at_ far k (fun h => h2 (by have := h.2.1; omega)) hk])
        clear hl hq
        go_wp2_with fail
        go_quiet (fail)
        have B2 := hide (show Below w.heap.size w (wr.drewN nq) from hbl.out.trans ⟨rfl, rfl, rfl, Nat.le_refl _, fun _ _ => rfl⟩)
        clear hbl
        go_wp2_with fail
        go_ret
        exact ⟨by rw [← HL.out]; rfl, B2.out⟩
    · have h1' : ¬ (k : Int) < 66 := by omega
      have d1 : decide ((k : Int) < 66) = false := decide_eq_false h1'
      have HL := hide (show k = long (bF t) t.size at_ far by
        rw [← hl.out, longG_not (bF t) t.size at_ far k (fun h => h1 h.1) hk])
      clear hl hq
      go_wp2_with fail
      go_quiet (fail)
      have B2 := hide (show Below w.heap.size w (wr.drewN nq) from hbl.out.trans ⟨rfl, rfl, rfl, Nat.le_refl _, fun _ _ => rfl⟩)
      clear hbl
      go_wp2_with fail
      go_ret
      exact ⟨by rw [← HL.out]; rfl, B2.out⟩
end Go.Proofs.YtconcnndghmdfaaGreatDoor

/- The walk over the law FnCtr. -/
import Derived.Test.YtgbbfdcfiofneaaCtrL
import Derived.Test.YtgbbfdcfiofneaaCtrMath
import Derived.Test.YtgbbfdcfiofneaaImpBlk
import Derived.Test.YtgbbfdcfiofneaaImpKeys
import Derived.Test.YtgbbfdcfiofneaaKeysL
import Derived.Test.YtgbbfdcfiofneaaDrawAes
import Derived.Test.YtgbbfdcfiofneaaLwAt
import Derived.BigRegion
import Derived.BigQuiet
import Derived.Deep.RegionHeld3
namespace Go.Proofs.Ytgbbfdcfiofneaa
open Go.RowKit
attribute [local irreducible] times sbox encF ctrB ctrS aesS
theorem BytesIn.mono {w : World} {B B' : Nat} {a : Option Addr} {len : Nat} (h : BytesIn w B a len) (hB : B ≤ B') : BytesIn w B' a len := by
  rcases h with h | ⟨b, off, e, hb, hc⟩
  · exact .inl h
  · exact .inr ⟨b, off, e, by omega, hc⟩
/-- The list of a key's rounds: how long it is, and what lies first in it. -/
theorem keys_form {w : World} {base : Nat} {v : Value} {key : ByteArray} (h16 : key.size = 16) (h : w.ownsRow base 9 1 v (roundKeys (kB (keyF key)) (if key.size = 16 then 11 else 0)).length ((roundKeys (kB (keyF key)) (if key.size = 16 then 11 else 0)).map Value.string)) :
    ∃ g cap, v = .slice (some ⟨g, 0, none⟩) 11 cap ∧ w.cell? ⟨g, 0, none⟩ = some (.string key) ∧ base ≤ g ∧ g < w.heap.size := by
  rw [if_pos h16, roundKeys_len] at h
  have h0 := h
  obtain ⟨_, ⟨_, hn⟩ | ⟨g, cap, cur, rfl, hg, _⟩⟩ := h
  · omega
  · refine ⟨g, cap, rfl, ?_, hg, (h0.lt g rfl).2⟩
    rw [h0.cellAt 0 (by omega), roundKeys, List.getElem?_map, List.getElem?_map, List.getElem?_range (by omega)]
    show some (Value.string (roundKey (kB (keyF key)) 0)) = _
    rw [roundKey_zero key h16]
theorem keys_len {w : World} {base : Nat} {v : Value} {key : ByteArray} (h16 : ¬ key.size = 16) (h : w.ownsRow base 9 1 v (roundKeys (kB (keyF key)) (if key.size = 16 then 11 else 0)).length ((roundKeys (kB (keyF key)) (if key.size = 16 then 11 else 0)).map Value.string)) :
    ∃ a cap, v = .slice a 0 cap := by
  rw [if_neg h16, roundKeys_len] at h
  obtain ⟨_, ⟨rfl, hn⟩ | ⟨g, cap, cur, rfl, hg, _⟩⟩ := h
  · exact ⟨_, _, rfl⟩
  · exact ⟨_, _, rfl⟩
set_option maxRecDepth 100000 in
set_option maxHeartbeats 1600000 in
theorem fnCtr_main (a0 : Option Addr) (len0 cap0 : Nat) (a1 : Option Addr) (len1 cap1 : Nat) (w : World) (hl0 : len0 ≤ 1048576) (hl1 : len1 ≤ 1048576) (hb0 : BytesIn w w.heap.size a0 len0) (hb1 : BytesIn w w.heap.size a1 len1) :
    Calls Try.prog 3 #[.slice a0 len0 cap0, .slice a1 len1 cap1] w fun e w' => e = .returned (.bool true) ∧ Below w.heap.size w w' := by
  have h0' : ¬ (1048576 : Int) < (len0 : Int) := by omega
  have h1' : ¬ (1048576 : Int) < (len1 : Int) := by omega
  have HB0 := hide hb0
  have HB1 := hide hb1
  clear hb0 hb1
  go_enter Try.func3, Try.ntmps3
  go_wp2_with fail
  refine (drawCtr_any _ a0 len0 cap0 hl0 HB0.out).mono ?_
  rintro e w1 ⟨key, nonce, text, rfl, hk, hn1, hn2, ht, hg1⟩
  have B1 := hide (grownBy_toBelow hg1)
  have SC := hide (And.intro (fun t w (h : t.size ≤ 20000) => imp_ctr key nonce t w (by omega) (by omega) hn2) (fun w => spec_ctr key nonce text w (by omega) (by omega) hn2))
  have SK := hide (And.intro (fun w => imp_aesKeys key w (by omega)) (fun w => spec_aesKeys key w (by omega)))
  clear HB0 hg1
  go_wp2_with fail
  refine (SC.out.1 text _ (by omega)).mono ?_
  rintro e w2 ⟨rfl, hb2⟩
  have B2 := hide (B1.out.trans (hb2.mono B1.out.size))
  obtain ⟨x, hx⟩ : ∃ x, x = ctrS key nonce text := ⟨_, rfl⟩
  rw [← hx] at SC ⊢
  have HX := hide hx
  have sx : (x.toList == x.toList) = true := str_eq rfl
  clear B1 hb2 hx
  go_wp2_with fail
  refine (SC.out.2 _).mono ?_
  rintro e w3 ⟨rfl, hb3⟩
  have B3 := hide (B2.out.trans (hb3.mono B2.out.size))
  clear B2 hb3
  go_wp2_with fail
  refine (drawAesBlock_any _ a1 len1 cap1 hl1 (HB1.out.below B3.out (Nat.le_refl _) |>.mono (by have := B3.out.size; omega))).mono ?_
  rintro e w4 ⟨ka, ta, rfl, hka, hta, hg4⟩
  have B4 := hide (B3.out.trans ((grownBy_toBelow hg4).mono B3.out.size))
  have SA := hide (And.intro (fun w => imp_aesBlock ka ta w (by omega) (by omega)) (fun w => spec_aesBlock ka ta w (by omega) (by omega)))
  obtain ⟨y, hy⟩ : ∃ y, y = aesS ka ta := ⟨_, rfl⟩
  rw [← hy] at SA
  have sy : (y.toList == y.toList) = true := str_eq rfl
  clear B3 hg4 hy
  go_wp2_with fail
  refine (SA.out.1 _).mono ?_
  rintro e w5 ⟨rfl, hb5⟩
  have B5 := hide (B4.out.trans (hb5.mono B4.out.size))
  clear B4 hb5
  go_wp2_with fail
  refine (SA.out.2 _).mono ?_
  rintro e w6 ⟨rfl, hb6⟩
  have B6 := hide (B5.out.trans (hb6.mono B5.out.size))
  clear B5 hb6 SA
  by_cases h16 : key.size = 16
  · have h16' : (key.size : Int) = 16 := by omega
    by_cases hn : 0 ≤ nonce
    · have hn' : ¬ nonce < 0 := by omega
      go_wp2_with fail
      refine (lwAt_any _ w.heap.size a1 len1 cap1 0 _ hl1 (by omega) (by omega) ?_ ?_).mono ?_
      · omega
      · exact HB1.out.below B6.out (Nat.le_refl _)
      rintro e w7 ⟨v, rfl, v0, v1, rfl⟩
      obtain ⟨k, rfl⟩ := Int.eq_ofNat_of_zero_le v0
      have hkt : k ≤ text.size := by omega
      clear v1 v0
      go_wp2_with fail
      refine (SK.out.1 _).mono ?_
      rintro e w8 ⟨lv, rfl, hown, hb8⟩
      obtain ⟨gl, capl, rfl, cl, hgl1, hgl2⟩ := keys_form h16 hown
      have B8 := hide (B6.out.trans (hb8.mono B6.out.size))
      clear hown hb8 B6 SK
      have e1 := ctrS_twice key nonce text h16 hn (by omega)
      have e2 := ctrS_pre key nonce text k h16 hn (by omega) hkt
      have e3 := ctrS_size key nonce text h16 hn (by omega)
      rw [← HX.out] at e1 e2 e3
      have z1 : (text.toList == text.toList) = true := str_eq rfl
      have z2 : (key.toList == key.toList) = true := str_eq rfl
      have z3 : ((x.extract 0 k).toList == (x.extract 0 k).toList) = true := str_eq rfl
      have hkx : (k : Int) ≤ (x.size : Int) := by omega
      have hkt' : (k : Int) ≤ (text.size : Int) := by omega
      have hts : (text.extract 0 k).size ≤ 20000 := by rw [ByteArray.size_extract]; omega
      have HS := hide (And.intro hts (show x.size ≤ 20000 by omega))
      have s1 := hide (fun w => SC.out.1 x w HS.out.2)
      have s2 := hide (fun w => SC.out.1 (text.extract 0 k) w HS.out.1)
      rw [e1] at s1
      rw [e2] at s2
      clear e1 e2 hts SC HS
      go_wp2_with fail
      clear hgl1
      generalize w8 = W8 at *
      go_region_held3 (fun w' => w'.cell? ⟨gl, 0, none⟩ = some (.string key)) (first | exact (hb11.cell (p := ⟨gl, 0, none⟩) (block_lt_of_cell (by assumption))).trans (by assumption) | exact (hb10.cell (p := ⟨gl, 0, none⟩) (block_lt_of_cell (by assumption))).trans (by assumption) | go_keep)
        (first | (go_at_call_of 9 x; refine (s1.out _).mono ?_; rintro e w10 ⟨rfl, hb10⟩) | (go_at_call_of 9 (text.extract 0 k); refine (s2.out _).mono ?_; rintro e w11 ⟨rfl, hb11⟩))
      have B10 := hide (B8.out.drew.trans (hb10.mono B8.out.size))
      have B11 := hide (B10.out.trans (hb11.mono B10.out.size))
      clear hb10 hb11 B8 B10 s1 s2 cl
      go_wp2_with fail
      go_ret
      exact ⟨rfl, B11.out⟩
    · have hn' : nonce < 0 := by omega
      have hnd : decide (nonce < 0) = true := decide_eq_true hn'
      have ex : x = ⟨#[]⟩ := by rw [HX.out]; exact ctrS_no key nonce text (fun h => hn h.2)
      subst ex
      clear HX SC sx
      go_wp2_with fail
      refine (SK.out.1 _).mono ?_
      rintro e w8 ⟨lv, rfl, hown, hb8⟩
      obtain ⟨gl, capl, rfl, _⟩ := keys_form h16 hown
      have B8 := hide (B6.out.trans (hb8.mono B6.out.size))
      clear hown hb8 B6
      go_wp2_with fail
      refine (SK.out.2 _).mono ?_
      rintro e w9 ⟨lw, rfl, hown, hb9⟩
      obtain ⟨gm, capm, rfl, _⟩ := keys_form h16 hown
      have B9 := hide (B8.out.trans (hb9.mono B8.out.size))
      clear hown hb9 B8
      go_wp2_with fail
      go_ret
      exact ⟨rfl, B9.out⟩
  · have h16' : ¬ (key.size : Int) = 16 := by omega
    have ex : x = ⟨#[]⟩ := by rw [HX.out]; exact ctrS_no key nonce text (fun h => h16 h.1)
    subst ex
    clear HX SC sx
    go_wp2_with fail
    refine (SK.out.1 _).mono ?_
    rintro e w8 ⟨lv, rfl, hown, hb8⟩
    obtain ⟨gl, capl, rfl⟩ := keys_len h16 hown
    have B8 := hide (B6.out.trans (hb8.mono B6.out.size))
    clear hown hb8 B6
    go_wp2_with fail
    refine (SK.out.2 _).mono ?_
    rintro e w9 ⟨lw, rfl, hown, hb9⟩
    obtain ⟨gm, capm, rfl⟩ := keys_len h16 hown
    have B9 := hide (B8.out.trans (hb9.mono B8.out.size))
    clear hown hb9 B8
    go_wp2_with fail
    go_ret
    exact ⟨rfl, B9.out⟩
theorem row_lenC {k : IntKind} {w : World} {a : Option Addr} {len cap : Nat} {zs : List Int} (h : IsRow k w a len cap zs) : len ≤ 9223372036854775807 := by
  rcases h with ⟨_, h, _⟩ | ⟨_, _, h1, h2, _⟩
  · omega
  · unfold maxLen at h2; omega
set_option maxRecDepth 100000 in
set_option maxHeartbeats 400000 in
theorem fnCtr_walk (a0 : Option Addr) (len0 cap0 : Nat) (z0 : List Int) (a1 : Option Addr) (len1 cap1 : Nat) (z1 : List Int) (w : World) (w0 : IsRow .u8 w a0 len0 cap0 z0) (w1 : IsRow .u8 w a1 len1 cap1 z1) :
    Calls Try.prog 3 #[.slice a0 len0 cap0, .slice a1 len1 cap1] w fun e w' => e = .returned (.bool true) ∧ Below w.heap.size w w' := by
  have h0 := row_lenC w0
  have h1 := row_lenC w1
  by_cases hl0 : 1048576 < len0
  · have hl0' : 1048576 < (len0 : Int) := by omega
    clear w0 w1
    go_enter Try.func3, Try.ntmps3
    go_wp2_with fail
    go_ret
    exact ⟨rfl, Below.refl _ _⟩
  by_cases hl1 : 1048576 < len1
  · have hl0' : (len0 : Int) ≤ 1048576 := by omega
    have hl1' : 1048576 < (len1 : Int) := by omega
    clear w0 w1
    go_enter Try.func3, Try.ntmps3
    go_wp2_with fail
    go_ret
    exact ⟨rfl, Below.refl _ _⟩
  exact fnCtr_main a0 len0 cap0 a1 len1 cap1 w (by omega) (by omega) (bytesIn_of_row w0) (bytesIn_of_row w1)
end Go.Proofs.Ytgbbfdcfiofneaa

/- The program's Ctr at every argument; the walk over its law. -/
import Derived.Test.YtgbbfdcfiofneaaImpCtr
namespace Go.Proofs.Ytgbbfdcfiofneaa
open Go.RowKit
set_option maxRecDepth 100000 in
set_option maxHeartbeats 800000 in
theorem imp_ctr (key : ByteArray) (nonce : Int) (text : ByteArray) (w : World) (_hk : key.size ≤ 9223372036854775807) (_ht : text.size ≤ 9223372036854775807) (hn : nonce ≤ 9223372036854775807) :
    Calls Try.prog 9 #[.string key, .int .i64 nonce, .string text] w fun e w' => e = .returned (.string (ctrS key nonce text)) ∧ Below w.heap.size w w' := by
  by_cases h1 : key.size = 16
  · have h1' : (key.size : Int) = 16 := by omega
    by_cases h2 : 0 ≤ nonce
    · by_cases h3 : text.size ≤ 20000
      · obtain ⟨N, rfl⟩ := Int.eq_ofNat_of_zero_le h2
        have hE : ctrS key (N : Int) text = ⟨(ctrL (kB (keyF key)) N (bF text) text.size).toArray⟩ := if_pos ⟨h1, h2, h3⟩
        rw [hE]
        exact imp_ctrA key text N w h1 h3 (by omega)
      · have hE : ctrS key nonce text = ⟨#[]⟩ := if_neg (fun x => h3 x.2.2)
        rw [hE]
        have h3' : (20000 : Int) < text.size := by omega
        have h2' : ¬ nonce < 0 := by omega
        clear hE
        go_enter Try.func9, Try.ntmps9
        go_wp2_with fail
        go_ret
        exact ⟨rfl, Below.refl _ _⟩
    · have hE : ctrS key nonce text = ⟨#[]⟩ := if_neg (fun x => h2 x.2.1)
      rw [hE]
      have h2' : nonce < 0 := by omega
      clear hE
      go_enter Try.func9, Try.ntmps9
      go_wp2_with fail
      go_ret
      exact ⟨rfl, Below.refl _ _⟩
  · have hE : ctrS key nonce text = ⟨#[]⟩ := if_neg (fun x => h1 x.1)
    rw [hE]
    have h1' : ¬ (key.size : Int) = 16 := by omega
    clear hE
    go_enter Try.func9, Try.ntmps9
    go_wp2_with fail
    go_ret
    exact ⟨rfl, Below.refl _ _⟩
set_option maxRecDepth 100000 in
set_option maxHeartbeats 400000 in
theorem fnExactCtr_walk (a0 : ByteArray) (w0 : a0.size ≤ maxLen) (n : Int) (hn : (Lit.int .i64 n).wf = true) (a1 : ByteArray) (w1 : a1.size ≤ maxLen) (w : World) :
    Calls Try.prog 6 #[.string a0, .int .i64 n, .string a1] w fun e w' => e = .returned (.bool true) ∧ Below w.heap.size w w' := by
  unfold maxLen at w0 w1
  have hn2 := (i64_of hn).2
  by_cases h0 : 1048576 < a0.size
  · go_enter Try.func6, Try.ntmps6
    go_wp2_with fail
    go_ret
    exact ⟨rfl, Below.refl _ _⟩
  · by_cases h1 : 1048576 < a1.size
    · go_enter Try.func6, Try.ntmps6
      go_wp2_with fail
      go_ret
      exact ⟨rfl, Below.refl _ _⟩
    · have S := hide (And.intro (fun w => spec_ctr a0 n a1 w (by omega) (by omega) hn2) (fun w => imp_ctr a0 n a1 w (by omega) (by omega) hn2))
      generalize ctrS a0 n a1 = R at *
      have hs : (R.toList == R.toList) = true := str_eq rfl
      clear hn
      go_enter Try.func6, Try.ntmps6
      go_wp2_with fail
      refine (S.out.1 _).mono ?_
      rintro e u1 ⟨rfl, hb1⟩
      go_wp2_with fail
      refine (S.out.2 _).mono ?_
      rintro e u2 ⟨rfl, hb2⟩
      go_wp2_with fail
      go_ret
      exact ⟨rfl, hb1.trans (hb2.mono hb1.size)⟩
end Go.Proofs.Ytgbbfdcfiofneaa

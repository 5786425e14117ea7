/- The walk over the model's Unseal. -/
import Derived.Test.YtiknoncalgifmaaUnsealD
import Derived.Handy
import Derived.Deep.RegionWith
namespace Go.Proofs.Ytiknoncalgifmaa
open Go.RowKit

theorem run_tail {P : Program} (w : World) (t : TypeId) (s : ByteArray) (h : P.underlying t = some .string) (h4 : 4 ≤ s.size) :
    (Instr.slice t (.string s) (some (.int .i64 ((s.size : Int) - 4))) none none).run P w = .ok (.string (s.extract (s.size - 4) s.size)) w := by
  rw [run_slice_string_from_if w t s .i64 _ h, if_pos (by omega)]
  have e : ((s.size : Int) - 4).toNat = s.size - 4 := by omega
  rw [e]

set_option maxRecDepth 100000 in
set_option maxHeartbeats 400000 in
theorem spec_unseal_long (s : ByteArray) (w : World) (hs : s.size ≤ 9223372036854775807) (h : 20000 < s.size) :
    Calls Try.prog 18 #[.string s] w fun e w' => e = .returned (textOut ⟨#[]⟩ 0 2) ∧ Below w.heap.size w w' := by
  go_enter Try.func18, Try.ntmps18
  go_wp2_with fail
  go_returns
  exact ⟨rfl, by go_grown⟩
set_option maxRecDepth 100000 in
set_option maxHeartbeats 400000 in
theorem spec_unseal_short (s : ByteArray) (w : World) (h : s.size < 4) :
    Calls Try.prog 18 #[.string s] w fun e w' => e = .returned (textOut ⟨#[]⟩ 0 4) ∧ Below w.heap.size w w' := by
  go_enter Try.func18, Try.ntmps18
  go_wp2_with fail
  go_returns
  exact ⟨rfl, by go_grown⟩

set_option maxRecDepth 100000 in
set_option maxHeartbeats 800000 in
theorem spec_unseal_yes (s : ByteArray) (w : World) (h : s.size ≤ 20000) (h4 : 4 ≤ s.size) (hq : Sealed s) :
    Calls Try.prog 18 #[.string s] w fun e w' => e = .returned (textOut (bodyOf s) 0 0) ∧ Below w.heap.size w w' := by
  unfold Sealed bodyOf at *
  have hbs : (s.extract 0 (s.size - 4)).size ≤ 20000 := by simp; omega
  have hq1 := str_eq hq
  have hsl := fun W => run_tail (P := Try.prog) W 9 s Try.underlying9 h4
  clear hq
  go_enter Try.func18, Try.ntmps18
  go_wp2_with fail
  generalize hbd : s.extract 0 (s.size - 4) = bd at *
  have HBD := hide hbd
  clear hbd
  generalize s.extract (s.size - 4) s.size = tl at *
  have hl := crcMore_lt 0 bd.data.toList (by omega)
  have hl' : (crcMore 0 bd.data.toList : Int) ≤ 4294967295 := by omega
  have hwr : IntKind.i64.wrap ((s.size : Int) - 4) = (s.size : Int) - 4 := by rw [IntKind.wrap_i64]; omega
  go_region_with (first | (go_at_call 26; refine (spec_l01Crc 0 bd _ ?_ ?_).mono ?_; omega; omega; rintro e w1 ⟨rfl, rfl⟩) | (go_at_call 25; refine (spec_four _ _ hl').mono ?_; rintro e w1 ⟨rfl, hb⟩))
  simp at hb
  obtain ⟨⟨c0, c1, c2⟩, hf⟩ := out_cells hb (Nat.lt_succ_self _) (heap_alloc_new w _)
  obtain ⟨r0, r1, r2⟩ := out_read (.string bd) (.int .i64 0) (.int .i64 0) c0 c1 c2
  go_wp2_with fail
  exact bodyPost_ret (v := textOut bd 0 0) (by simp [results, Try.results18, go_sem, r0, r1, r2, textOut]) rfl ⟨by rw [unhide HBD], below_out hb⟩
set_option maxRecDepth 100000 in
set_option maxHeartbeats 800000 in
theorem spec_unseal_no (s : ByteArray) (w : World) (h : s.size ≤ 20000) (h4 : 4 ≤ s.size) (hq : ¬ Sealed s) :
    Calls Try.prog 18 #[.string s] w fun e w' => e = .returned (textOut ⟨#[]⟩ 0 5) ∧ Below w.heap.size w w' := by
  unfold Sealed bodyOf at *
  have hbs : (s.extract 0 (s.size - 4)).size ≤ 20000 := by simp; omega
  have hq1 := str_ne hq
  have hsl := fun W => run_tail (P := Try.prog) W 9 s Try.underlying9 h4
  clear hq
  go_enter Try.func18, Try.ntmps18
  go_wp2_with fail
  generalize s.extract 0 (s.size - 4) = bd at *
  generalize s.extract (s.size - 4) s.size = tl at *
  have hl := crcMore_lt 0 bd.data.toList (by omega)
  have hl' : (crcMore 0 bd.data.toList : Int) ≤ 4294967295 := by omega
  have hwr : IntKind.i64.wrap ((s.size : Int) - 4) = (s.size : Int) - 4 := by rw [IntKind.wrap_i64]; omega
  go_region_with (first | (go_at_call 26; refine (spec_l01Crc 0 bd _ ?_ ?_).mono ?_; omega; omega; rintro e w1 ⟨rfl, rfl⟩) | (go_at_call 25; refine (spec_four _ _ hl').mono ?_; rintro e w1 ⟨rfl, hb⟩))
  simp at hb
  obtain ⟨⟨c0, c1, c2⟩, hf⟩ := out_cells hb (Nat.lt_succ_self _) (heap_alloc_new w _)
  obtain ⟨r0, r1, r2⟩ := out_read (.string ⟨#[]⟩) (.int .i64 0) (.int .i64 5) c0 c1 c2
  go_wp2_with fail
  exact bodyPost_ret (v := textOut ⟨#[]⟩ 0 5) (by simp [results, Try.results18, go_sem, r0, r1, r2, textOut]) rfl ⟨rfl, below_out hb⟩
end Go.Proofs.Ytiknoncalgifmaa

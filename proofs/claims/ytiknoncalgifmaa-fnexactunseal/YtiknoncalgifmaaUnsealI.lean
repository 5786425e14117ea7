/- The walk over the program's Unseal. -/
import Derived.Test.YtiknoncalgifmaaUnsealD
import Derived.Test.YtiknoncalgifmaaSealI
namespace Go.Proofs.Ytiknoncalgifmaa
open Go.RowKit

theorem sealed_iff (s : ByteArray) : sealB (bodyOf s) = s ↔ Sealed s := by
  unfold sealB Sealed
  have e : bodyOf s ++ s.extract (s.size - 4) s.size = s := by
    apply ByteArray.ext
    simp [bodyOf]
  constructor
  · intro h
    have h2 : bodyOf s ++ fourB (crcMore 0 (bodyOf s).data.toList) = bodyOf s ++ s.extract (s.size - 4) s.size := h.trans e.symm
    have h3 := congrArg (fun x : ByteArray => x.data.toList) h2
    simp only [ByteArray.data_append, Array.toList_append] at h3
    exact ByteArray.ext (Array.toList_inj.1 (List.append_cancel_left h3))
  · intro h
    rw [h]; exact e

set_option maxRecDepth 100000 in
set_option maxHeartbeats 400000 in
theorem impl_unseal_long (s : ByteArray) (w : World) (hs : s.size ≤ 9223372036854775807) (h : 20000 < s.size) :
    Calls Try.prog 11 #[.string s] w fun e w' => e = .returned (textOut ⟨#[]⟩ 0 2) ∧ Below w.heap.size w w' := by
  go_enter Try.func11, Try.ntmps11
  go_wp2_with fail
  go_returns
  exact ⟨rfl, by go_grown⟩
set_option maxRecDepth 100000 in
set_option maxHeartbeats 400000 in
theorem impl_unseal_short (s : ByteArray) (w : World) (h : s.size < 4) :
    Calls Try.prog 11 #[.string s] w fun e w' => e = .returned (textOut ⟨#[]⟩ 0 4) ∧ Below w.heap.size w w' := by
  go_enter Try.func11, Try.ntmps11
  go_wp2_with fail
  go_returns
  exact ⟨rfl, by go_grown⟩

set_option maxRecDepth 100000 in
set_option maxHeartbeats 800000 in
theorem impl_unseal_no (s : ByteArray) (w : World) (h : s.size ≤ 20000) (h4 : 4 ≤ s.size) (hq : ¬ Sealed s) :
    Calls Try.prog 11 #[.string s] w fun e w' => e = .returned (textOut ⟨#[]⟩ 0 5) ∧ Below w.heap.size w w' := by
  have hq1 := str_ne (fun e => hq ((sealed_iff s).1 e))
  unfold bodyOf at hq1
  have hbs : (s.extract 0 (s.size - 4)).size ≤ 19996 := by simp; omega
  clear hq
  go_enter Try.func11, Try.ntmps11
  go_wp2_with fail
  generalize s.extract 0 (s.size - 4) = bd at *
  refine (impl_seal bd _ hbs).mono ?_
  rintro e w1 ⟨rfl, hb⟩
  simp at hb
  obtain ⟨⟨c0, c1, c2⟩, hf⟩ := out_cells hb (Nat.lt_succ_self _) (heap_alloc_new w _)
  obtain ⟨r0, r1, r2⟩ := out_read (.string ⟨#[]⟩) (.int .i64 0) (.int .i64 5) c0 c1 c2
  go_wp2_with fail
  exact bodyPost_ret (v := textOut ⟨#[]⟩ 0 5) (by simp [results, Try.results11, go_sem, r0, r1, r2, textOut]) rfl ⟨rfl, below_out' hb⟩

set_option maxRecDepth 100000 in
set_option maxHeartbeats 800000 in
theorem impl_unseal_yes (s : ByteArray) (w : World) (h : s.size ≤ 20000) (h4 : 4 ≤ s.size) (hq : Sealed s) :
    Calls Try.prog 11 #[.string s] w fun e w' => e = .returned (textOut (bodyOf s) 0 0) ∧ Below w.heap.size w w' := by
  have hq1 := str_eq ((sealed_iff s).2 hq)
  unfold bodyOf at *
  have hbs : (s.extract 0 (s.size - 4)).size ≤ 19996 := by simp; omega
  clear hq
  go_enter Try.func11, Try.ntmps11
  go_wp2_with fail
  generalize hbd : s.extract 0 (s.size - 4) = bd at *
  have HBD := hide hbd
  clear hbd
  refine (impl_seal bd _ hbs).mono ?_
  rintro e w1 ⟨rfl, hb⟩
  simp at hb
  go_wp2_with fail
  refine (joined_one bd _ _ ?_ ?_).mono ?_
  · rfl
  · omega
  rintro e w2 ⟨rfl, hb2⟩
  have hb3 := hb.trans (hb2.mono (by have := hb.size; simp at this; omega))
  clear hb hb2
  obtain ⟨⟨c0, c1, c2⟩, hf⟩ := out_cells hb3 (Nat.lt_succ_self _) (heap_alloc_new w _)
  obtain ⟨r0, r1, r2⟩ := out_read (.string bd) (.int .i64 0) (.int .i64 0) c0 c1 c2
  go_wp2_with fail
  exact bodyPost_ret (v := textOut bd 0 0) (by simp [results, Try.results11, go_sem, r0, r1, r2, textOut]) rfl ⟨by rw [unhide HBD], below_out' hb3⟩
end Go.Proofs.Ytiknoncalgifmaa

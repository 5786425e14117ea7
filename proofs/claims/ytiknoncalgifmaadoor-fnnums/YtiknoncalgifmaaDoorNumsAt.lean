/- The program's GetNum and GetText, at what PutNum and PutText tell. -/
import Derived.Test.YtiknoncalgifmaaDoorNumMath
import Derived.Test.YtiknoncalgifmaaDoorPutTextC
import Derived.Test.YtiknoncalgifmaaDoorGetTextG
namespace Go.Proofs.YtiknoncalgifmaaDoor
open Go.RowKit

theorem len_list (s : ByteArray) : s.data.toList.length = s.size := by simp
theorem app_list (s t : ByteArray) : (s ++ t).data.toList = s.data.toList ++ t.data.toList := by simp
theorem ext_list (s : ByteArray) (a b : Nat) : (s.extract a b).data.toList = (s.data.toList.drop a).take (b - a) := by
  simp [ByteArray.data_extract, Array.toList_extract, List.extract]
theorem of_list {s t : ByteArray} (h : s.data.toList = t.data.toList) : s = t := ByteArray.ext (Array.toList_inj.1 h)
theorem cut_list (s : ByteArray) : (s.extract 0 (s.size - 1)).data.toList = s.data.toList.dropLast := by
  rw [ext_list, List.dropLast_eq_take, len_list]; simp

theorem getNum_xyz (n : Int) (E : ByteArray) (w : World) (h1 : -9223372036854775808 ≤ n) (h2 : n ≤ 9223372036854775807) (hE : E.data.toList = encNum (foldNum n)) (hl : E.size ≤ 10) :
    Calls Tryd.prog 8 #[.string ((⟨#[120, 121]⟩ : ByteArray) ++ E ++ ⟨#[122]⟩), .int .i64 2] w fun e w' => e = .returned (numOut n ((E.size : Int) + 2) 0) ∧ Below w.heap.size w w' := by
  have hf := fold_le n h1 h2
  have hd : decAt ((⟨#[120, 121]⟩ : ByteArray) ++ E ++ ⟨#[122]⟩) 2 = (0, foldNum n, E.size) := by
    unfold decAt
    rw [app_list, app_list, hE]
    have := dec_whole (foldNum n) [122] (by omega)
    rw [← hE, len_list] at this
    rw [← hE]
    exact this
  have hs : ((⟨#[120, 121]⟩ : ByteArray) ++ E ++ ⟨#[122]⟩).size ≤ 20000 := by
    rw [← len_list, app_list, app_list, List.length_append, List.length_append, len_list E]
    show 2 + E.size + 1 ≤ 20000
    omega
  have hc := impl_getNum_good _ 2 (foldNum n) E.size w hs (by decide) hd
  rw [unfold_fold] at hc
  have e : ((2 : Nat) : Int) + (E.size : Int) = (E.size : Int) + 2 := by omega
  rw [e] at hc
  exact hc
theorem getNum_cut (n : Int) (E : ByteArray) (w : World) (hg : Laid w) (h1 : -9223372036854775808 ≤ n) (h2 : n ≤ 9223372036854775807) (hE : E.data.toList = encNum (foldNum n)) (hl : E.size ≤ 10) :
    Calls Tryd.prog 8 #[.string (E.extract 0 (E.size - 1)), .int .i64 0] w fun e w' => e = .returned (numOut 0 0 4) ∧ Below w.heap.size w w' := by
  have hf := fold_le n h1 h2
  have hd : decAt (E.extract 0 (E.size - 1)) 0 = (4, 0, 0) := by
    unfold decAt
    rw [cut_list, hE, List.drop_zero]
    exact dec_cut0 (foldNum n) (by omega)
  exact impl_getNum_bad _ 0 4 w hg (by simp; omega) (by decide) (by decide) hd

theorem put_list (u : ByteArray) : (putText u).data.toList = encNum (foldNum u.size) ++ u.data.toList := by
  unfold putText; rw [app_list]
theorem put_size (u : ByteArray) : (putText u).size = (encNum (foldNum u.size)).length + u.size := by
  rw [← len_list, put_list, List.length_append, len_list]
theorem fold_nat (n : Nat) (h : n ≤ 20000) : foldNum (n : Int) < 18446744073709551616 := by have := fold_pos n (by omega); omega

theorem getText_x (u : ByteArray) (w : World) (hu : (putText u).size + 1 ≤ 20000) :
    Calls Tryd.prog 12 #[.string ((⟨#[120]⟩ : ByteArray) ++ putText u), .int .i64 1] w fun e w' => e = .returned (textOut u (((putText u).size : Int) + 1) 0) ∧ Below w.heap.size w w' := by
  have hp := put_size u
  have hd : decAt ((⟨#[120]⟩ : ByteArray) ++ putText u) 1 = (0, foldNum u.size, (encNum (foldNum u.size)).length) := by
    unfold decAt
    rw [app_list, put_list]
    exact dec_whole (foldNum u.size) u.data.toList (fold_nat _ (by omega))
  have hsz : ((⟨#[120]⟩ : ByteArray) ++ putText u).size = (putText u).size + 1 := by
    rw [← len_list, app_list, List.length_append, len_list (putText u)]
    show 1 + (putText u).size = _
    omega
  have hc := impl_getText_good _ 1 (foldNum u.size) (encNum (foldNum u.size)).length (1 + (encNum (foldNum u.size)).length) u.size w (by rw [hsz]; omega) (by decide) hd (by omega) (unfold_fold _) (by omega) (by rw [hsz]; omega)
  have ht : ((⟨#[120]⟩ : ByteArray) ++ putText u).extract (1 + (encNum (foldNum u.size)).length) (1 + (encNum (foldNum u.size)).length + u.size) = u := by
    apply of_list
    rw [ext_list, app_list, put_list]
    have e1 : 1 + (encNum (foldNum u.size)).length + u.size - (1 + (encNum (foldNum u.size)).length) = u.data.toList.length := by rw [len_list]; omega
    rw [e1, ← List.append_assoc, List.drop_left' (by simp; omega), List.take_length]
  rw [ht] at hc
  have e2 : ((1 + (encNum (foldNum u.size)).length : Nat) : Int) + (u.size : Int) = ((putText u).size : Int) + 1 := by omega
  rw [e2] at hc
  exact hc
theorem getText_cut (u : ByteArray) (w : World) (hg : Laid w) (hu : (putText u).size + 1 ≤ 20000) :
    Calls Tryd.prog 12 #[.string ((putText u).extract 0 ((putText u).size - 1)), .int .i64 0] w fun e w' => e = .returned (textOut ⟨#[]⟩ 0 4) ∧ Below w.heap.size w w' := by
  have hp := put_size u
  have hne : 0 < (encNum (foldNum u.size)).length := List.length_pos_iff.2 (encNum_ne _)
  have hsz : ((putText u).extract 0 ((putText u).size - 1)).size = (putText u).size - 1 := by simp
  by_cases h0 : u.size = 0
  · have hd : decAt ((putText u).extract 0 ((putText u).size - 1)) 0 = (4, 0, 0) := by
      unfold decAt
      have hnil : u.data.toList = [] := List.eq_nil_of_length_eq_zero (by rw [len_list]; exact h0)
      rw [cut_list, put_list, hnil, List.append_nil, List.drop_zero]
      exact dec_cut0 _ (fold_nat _ (by omega))
    exact impl_getText_bad _ 0 4 w hg (by rw [hsz]; omega) (by decide) (by decide) hd
  · have hd : decAt ((putText u).extract 0 ((putText u).size - 1)) 0 = (0, foldNum u.size, (encNum (foldNum u.size)).length) := by
      unfold decAt
      have hun : u.data.toList ≠ [] := fun e => h0 (by rw [← len_list, e]; rfl)
      rw [cut_list, put_list, List.dropLast_append_of_ne_nil hun, List.drop_zero]
      exact dec_whole (foldNum u.size) _ (fold_nat _ (by omega))
    exact impl_getText_short _ 0 (foldNum u.size) (encNum (foldNum u.size)).length (encNum (foldNum u.size)).length u.size w hg (by rw [hsz]; omega) (by decide) hd (by omega) (by rw [hsz]; omega) (unfold_fold _) (by omega) (by rw [hsz]; omega)
end Go.Proofs.YtiknoncalgifmaaDoor

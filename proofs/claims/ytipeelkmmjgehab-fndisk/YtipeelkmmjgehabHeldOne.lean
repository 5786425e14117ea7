/- Single steps of a region that draws its order, with what each writes told by its number: for a region with several loads of whole arrays. No program is named here. -/
import Derived.Deep.RegionHeldLaw
import Derived.Test.YtipeelkmmjgehabArr
namespace Go.Proofs.Ytipeelkmmjgehab
open Go Go.RowKit
section
variable {P : Program} {md : Region.Mode} {ops : Array Oper} {Q : Exit → Act → World → Prop} {S : World → Prop}
theorem takeD {i : Nat} {oi : Oper} {v : Value} {fuel : Nat} {listed : Array Bool} {a : Act} {w : World} (d : Option Nat) (hi : ops[i]? = some oi) (hd : oi.dst = d)
    (hs : Region.noSelect ops = true) (hf : Region.free md ops listed i = true) (hr : (Region.ready md ops listed).contains i = true)
    (hQ : ∀ c a w, Q (.panic c) (a.put d v) w → Q (.panic c) a w) (hy : YieldsIf P ops S oi v a) (hS : S w)
    (h : wpAnyH P md ops Q S fuel (listed.setIfInBounds i true) (a.put d v) w) : wpAnyH P md ops Q S (fuel + 1) listed a w := by
  subst hd
  exact wpAnyH_take hi hs hf hr hQ hy hS h
theorem oneLoad {i : Nat} {o : Oper} {fuel : Nat} {listed : Array Bool} {a : Act} {w : World} (d : Option Nat) (hr : Region.ready md ops listed = [i]) (ho : ops[i]? = some o) (hd : o.dst = d) (hgd : o.guard = none)
    (ty : TypeId) (x : Operand) (hop : o.op = .load ty x) (g off n : Nat) (hx : a.eval x = .pointer (some ⟨g, off, none⟩)) (k : Nat → UInt8) (dsc : TypeDesc) (hc : w.rangeAt g off (bL n k)) (hu : P.underlying ty = some dsc) (hdr : dsc.isRow = true) (hi : (P.info? ty).map (·.size) = some n) (hS : S w)
    (h : wpAnyH P md ops Q S fuel (listed.setIfInBounds i true) (a.put d (.agg (bL n k).toArray)) w) : wpAnyH P md ops Q S (fuel + 1) listed a w := by
  subst hd
  refine wpAnyH_ready hr (by simp) (AllReadyH.cons ho (fun K hK => ?_) AllReadyH.nil)
  rw [if_pos (by simp [Region.wanted, hgd])]
  exact wp_load_mid ty x hop g off hx (bL n k) dsc hc hu hdr (by rw [bL_len]; exact hi) (hK.out _ _ hS (fun _ => h))
theorem oneStore {i : Nat} {o : Oper} {fuel : Nat} {listed : Array Bool} {a : Act} {w : World} (d : Option Nat) (hr : Region.ready md ops listed = [i]) (ho : ops[i]? = some o) (hd : o.dst = d) (hgd : o.guard = none)
    (ty : TypeId) (x y : Operand) (hop : o.op = .store ty x y) (g off n : Nat) (k : Nat → UInt8) (hx : a.eval x = .pointer (some ⟨g, off, none⟩)) (hy : a.eval y = .agg (bL n k).toArray) (ht : w.there g off n) (hi : (P.info? ty).map (·.size) = some n) (hS : S (w.setCells g off (bL n k)))
    (h : wpAnyH P md ops Q S fuel (listed.setIfInBounds i true) (a.put d undef) (w.setCells g off (bL n k))) : wpAnyH P md ops Q S (fuel + 1) listed a w := by
  subst hd
  refine wpAnyH_ready hr (by simp) (AllReadyH.cons ho (fun K hK => ?_) AllReadyH.nil)
  rw [if_pos (by simp [Region.wanted, hgd])]
  exact wp_store_mid ty x y hop g off (bL n k).toArray hx hy (by rw [bL_size]; exact ht) (by rw [bL_size]; exact hi) (bL_all n k) (hK.out _ _ hS (fun _ => h))
theorem yieldsB {o : Oper} {a : Act} (hw : Region.wanted o (yielded ops a.tmps) = true) (ty : TypeId) (x : Operand) (ho : o.op = .load ty x) (g off n : Nat) (hx : a.eval x = .pointer (some ⟨g, off, none⟩)) (k : Nat → UInt8) (dsc : TypeDesc) (hS : ∀ w, S w → w.rangeAt g off (bL n k))
    (hu : P.underlying ty = some dsc) (hd : dsc.isRow = true) (hi : (P.info? ty).map (·.size) = some n) : YieldsIf P ops S o (.agg (bL n k).toArray) a :=
  yieldsIf_load_mid hw ty x ho g off hx (bL n k) dsc hS hu hd (by rw [bL_len]; exact hi)
theorem step_copy_BD {o : Oper} {a : Act} {w : World} {K : Act → World → Prop} {E : Prop} (dd : Option Nat) (hdd : o.dst = dd) (hgd : o.guard = none) (d s : Operand) (dT sT : TypeId)
    (ho : o.op = .call { callee := .builtin .copy, args := #[d, s], argTypes := #[dT, sT] }) (elem : TypeId) (hu : P.underlying dT = some (.slice elem)) (hsz : (P.info? elem).map (·.size) = some 1)
    (g off dLen dCap h p sLen sCap : Nat) (hd : a.eval d = .slice (some ⟨g, off, none⟩) dLen dCap) (hs : a.eval s = .slice (some ⟨h, p, none⟩) sLen sCap)
    (m : Nat) (k : Nat → UInt8) (hm : m = Nat.min sLen dLen) (hsrc : w.rangeAt h p (bL m k)) (hdst : w.there g off m)
    (hK : K (a.put dd (goInt m)) (w.setCells g off (bL m k))) :
    if Region.wanted o (yielded ops a.tmps) = true then Oper.wp P o a w K Q else E := by
  subst hdd
  exact step_copy_B hgd d s dT sT ho elem hu hsz g off dLen dCap h p sLen sCap hd hs m k hm hsrc hdst hK
theorem step_copy_SD {o : Oper} {a : Act} {w : World} {K : Act → World → Prop} {E : Prop} (dd : Option Nat) (hdd : o.dst = dd) (hgd : o.guard = none) (d s : Operand) (dT sT : TypeId)
    (ho : o.op = .call { callee := .builtin .copy, args := #[d, s], argTypes := #[dT, sT] }) (elem : TypeId) (hu : P.underlying dT = some (.slice elem)) (hsz : (P.info? elem).map (·.size) = some 1)
    (g off dLen dCap : Nat) (t : ByteArray) (hd : a.eval d = .slice (some ⟨g, off, none⟩) dLen dCap) (hs : a.eval s = .string t)
    (m : Nat) (k : Nat → UInt8) (hm : m = Nat.min t.size dLen) (hsrc : ∀ j, j < m → t.data.toList[j]? = some (k j)) (hdst : w.there g off m)
    (hK : K (a.put dd (goInt m)) (w.setCells g off (bL m k))) :
    if Region.wanted o (yielded ops a.tmps) = true then Oper.wp P o a w K Q else E := by
  subst hdd
  exact step_copy_S hgd d s dT sT ho elem hu hsz g off dLen dCap t hd hs m k hm hsrc hdst hK
theorem stepLoad {o : Oper} {a : Act} {w : World} {K : Act → World → Prop} {E : Prop} (d : Option Nat) (hd : o.dst = d) (hgd : o.guard = none)
    (ty : TypeId) (x : Operand) (hop : o.op = .load ty x) (g off n : Nat) (hx : a.eval x = .pointer (some ⟨g, off, none⟩)) (k : Nat → UInt8) (dsc : TypeDesc) (hc : w.rangeAt g off (bL n k)) (hu : P.underlying ty = some dsc) (hdr : dsc.isRow = true) (hi : (P.info? ty).map (·.size) = some n)
    (h : K (a.put d (.agg (bL n k).toArray)) w) : if Region.wanted o (yielded ops a.tmps) = true then Oper.wp P o a w K Q else E := by
  subst hd
  rw [if_pos (by simp [Region.wanted, hgd])]
  exact wp_load_mid ty x hop g off hx (bL n k) dsc hc hu hdr (by rw [bL_len]; exact hi) h
end
end Go.Proofs.Ytipeelkmmjgehab

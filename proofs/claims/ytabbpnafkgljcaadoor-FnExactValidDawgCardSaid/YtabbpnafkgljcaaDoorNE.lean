/-
  Automata that are the same: the model's answer and the program's.
-/
import Derived.Test.YtabbpnafkgljcaaDoorND
import Derived.Test.YtabbpnafkgljcaaDoorX0
namespace Go.Proofs.YtabbpnafkgljcaaDoor
open Go.RowKit

def sameD (x y : Nod) : Bool := (x.f == y.f) && ((x.ls.toList == y.ls.toList) && decide (x.ns = y.ns))
def sameDs (xs ys : List Nod) : Bool := decide (xs.length = ys.length) && allTo (fun j => sameD (nodG xs j) (nodG ys j)) xs.length
theorem sameDs_len {xs ys : List Nod} (h : ¬ xs.length = ys.length) : sameDs xs ys = false := by simp [sameDs, h]
theorem sameDs_all {xs ys : List Nod} (h : xs.length = ys.length) : sameDs xs ys = allTo (fun j => sameD (nodG xs j) (nodG ys j)) xs.length := by simp [sameDs, h]

theorem sameN_on {va vb : Value} {za zb : List Int} {t : Bool} (h : decide (za = zb) = t) (w0 W : World) (hb : Below w0.heap.size w0 W) (ha : Ints .i64 W va za) (hv : Ints .i64 W vb zb) :
    Calls Tryd.prog 167 #[va, vb] W fun e w' => e = .returned (.bool t) ∧ Below w0.heap.size w0 w' :=
  (l00Same_any W ha hv).mono fun _ _ ⟨h1, n, h2⟩ => ⟨by rw [h1, h], by rw [h2]; exact below_drewN hb n⟩
theorem quietL {t : Bool} {va vb : Value} {za zb : List Int} {W : World} {n : Nat} (h : decide (za = zb) = t) (ha : Ints .i64 W va za) (hv : Ints .i64 W vb zb) :
    Calls Tryd.prog 167 #[va, vb] (W.drewN n) fun e w' => e = .returned (.bool t) ∧ ∃ m, w' = W.drewN m := by
  refine (l00Same_any _ (ha.drewN n) (hv.drewN n)).mono ?_
  rintro e w' ⟨rfl, m, rfl⟩
  exact ⟨by rw [h], _, World.drewN_drewN _ _ _⟩
set_option maxRecDepth 100000 in
set_option maxHeartbeats 2000000 in
theorem l06Equal_any {b1 o1 b2 o2 : Nat} {x y : Nod} (W : World) (hx : NodIs W b1 o1 x) (hy : NodIs W b2 o2 y) :
    Calls Tryd.prog 153 #[.pointer (some ⟨b1, o1, none⟩), .pointer (some ⟨b2, o2, none⟩)] W fun e w' => e = .returned (.bool (sameD x y)) ∧ ∃ n, w' = W.drewN n := by
  obtain ⟨f, ls, ns⟩ := x
  obtain ⟨f2, ls2, ns2⟩ := y
  obtain ⟨h0, h1, u, h2, h3⟩ := hx
  obtain ⟨k0, k1, v, k2, k3⟩ := hy
  simp only at h0 h1 h2 h3 k0 k1 k2 k3
  by_cases e0 : f = f2
  · subst e0
    by_cases e1 : ls = ls2
    · subst e1
      obtain ⟨t, ht⟩ : ∃ t, decide (ns = ns2) = t := ⟨_, rfl⟩
      have HR := Shh.mk (show sameD ⟨f, ls, ns⟩ ⟨f, ls, ns2⟩ = t by rw [← ht]; simp [sameD])
      have HT := Shh.mk ht
      have HU := Shh.mk h3
      have HV := Shh.mk k3
      obtain ⟨ua, uc, rfl, -⟩ := h3
      obtain ⟨va, vc, rfl, -⟩ := k3
      clear ht
      go_enter Tryd.func153, Tryd.ntmps153
      go_wp2
      go_quiet ((go_at_call 167; with_reducible exact quietL HT.out HU.out HV.out))
      go_wp2
      go_ret
      exact ⟨ret_bool HR.out.symm, _, by first | rfl | exact World.drewN_drewN _ _ _⟩
    · have hs := strNe e1
      have hs1 : (ls.toList == ls2.toList) = false := hs
      have HR := Shh.mk (show sameD ⟨f, ls, ns⟩ ⟨f, ls2, ns2⟩ = false by simp [sameD, hs])
      obtain ⟨ua, uc, rfl, -⟩ := h3
      obtain ⟨va, vc, rfl, -⟩ := k3
      clear e1 hs
      go_enter Tryd.func153, Tryd.ntmps153
      go_wp2
      go_quiet (fail)
      go_wp2
      go_ret
      exact ⟨ret_bool HR.out.symm, _, by first | rfl | exact World.drewN_drewN _ _ _⟩
  · have hs := beq_eq_false_iff_ne.2 e0
    have hs0 : (f == f2) = false := hs
    have HR := Shh.mk (show sameD ⟨f, ls, ns⟩ ⟨f2, ls2, ns2⟩ = false by simp [sameD, hs])
    obtain ⟨ua, uc, rfl, -⟩ := h3
    obtain ⟨va, vc, rfl, -⟩ := k3
    clear e0 hs
    go_enter Tryd.func153, Tryd.ntmps153
    go_wp2
    go_quiet (fail)
    go_wp2
    go_ret
    exact ⟨ret_bool HR.out.symm, _, by first | rfl | exact World.drewN_drewN _ _ _⟩
end Go.Proofs.YtabbpnafkgljcaaDoor

/-
  Automata that are the same: both answers, whole.
-/
import Derived.Test.YtabbpnafkgljcaaDoorNE
namespace Go.Proofs.YtabbpnafkgljcaaDoor
open Go.RowKit

theorem NodIs.drewN {W : World} {b o : Nat} {x : Nod} (h : NodIs W b o x) (n : Nat) : NodIs (W.drewN n) b o x := h
theorem l06Equal_is {b1 o1 b2 o2 : Nat} {x y : Nod} {t : Bool} (h : sameD x y = t) (W : World) (hx : NodIs W b1 o1 x) (hy : NodIs W b2 o2 y) :
    Calls Tryd.prog 153 #[.pointer (some ⟨b1, o1, none⟩), .pointer (some ⟨b2, o2, none⟩)] W fun e w' => e = .returned (.bool t) ∧ ∃ m, w' = W.drewN m := by
  rw [← h]
  exact l06Equal_any W hx hy


set_option maxRecDepth 100000 in
set_option maxHeartbeats 4000000 in
theorem l06Same_any {g1 g2 : Nat} {va vb : Value} {xs ys : List Nod} (w : World) (h1 : Blk w g1 26 #[va]) (h2 : Blk w g2 26 #[vb]) (ha : Nds w va xs) (hb : Nds w vb ys) :
    Calls Tryd.prog 125 #[.pointer (some ⟨g1, 0, none⟩), .pointer (some ⟨g2, 0, none⟩)] w fun e w' => e = .returned (.bool (sameDs xs ys)) ∧ ∃ n, w' = w.drewN n := by
  have hal := ha.len
  have hbl := hb.len
  have c1 := h1.cells 0
  have c2 := h2.cells 0
  obtain ⟨a, capa, rfl, hla, hma, hca⟩ := ha
  obtain ⟨b, capb, rfl, hlb, hmb, hcb⟩ := hb
  have HCA := Shh.mk hca
  have HCB := Shh.mk hcb
  clear hca hcb
  by_cases hne : xs.length = ys.length
  · have hn1 : (xs.length : Int) = (ys.length : Int) := by omega
    have hall := sameDs_all hne
    have HE := hid hne
    obtain ⟨p, hp⟩ : ∃ p : Nat → Bool, (fun j => sameD (nodG xs j) (nodG ys j)) = p := ⟨_, rfl⟩
    have hpk : ∀ k, sameD (nodG xs k) (nodG ys k) = p k := fun k => by rw [← hp]
    rw [hp] at hall
    have HALL := Shh.mk hall
    have HP := Shh.mk hpk
    have HC := Shh.mk (And.intro c1 c2)
    clear hne hall hpk hp
    go_enter Tryd.func125, Tryd.ntmps125
    go_wp2
    go_quiet (fail)
    go_wp2
    clear hn1
    rename_i nq _
    go_loopw [5] (fun i w' => ∃ k n : Nat, k ≤ xs.length ∧ i = .int .i64 k ∧ w' = w.drewN n ∧ Hid (allTo p k = true)) (fun i _ => xs.length - (intOf i).toNat)
    case atStart => exact ⟨0, _, Nat.zero_le _, rfl, rfl, allTo_zero _⟩
    case round =>
      obtain ⟨k, m, hk, rfl, hw', ht⟩ := hrel
      have HW := Shh.mk hw'
      have d1 : wr.cell? ⟨g1, 0, none⟩ = some (.slice a xs.length capa) := by rw [hw']; exact HC.out.1
      have d2 : wr.cell? ⟨g2, 0, none⟩ = some (.slice b ys.length capb) := by rw [hw']; exact HC.out.2
      by_cases hlt : k < xs.length
      · have hltb : k < ys.length := by rw [← HE.out]; exact hlt
        obtain ⟨ba, oa, rfl, hba, hca'⟩ := HCA.out (by omega)
        obtain ⟨bb, ob, rfl, hbb, hcb'⟩ := HCB.out (by omega)
        have HXA := Shh.mk (show NodIs wr ba (oa + k * 3) (nodG xs k) by rw [hw']; exact hca' k hlt)
        have HYB := Shh.mk (show NodIs wr bb (ob + k * 3) (nodG ys k) by rw [hw']; exact hcb' k hltb)
        have HK1 := Shh.mk (HP.out k)
        have HS := Shh.mk (allTo_succ p k)
        have HNO := Shh.mk (fun h => HALL.out.trans (allTo_not (p := p) (n := xs.length) hlt h))
        clear hca' hcb' hw'
        cases hpk : p k
        · have HN := Shh.mk (HNO.out hpk)
          have HK2 := Shh.mk (HK1.out.trans hpk)
          clear hpk
          go_wp2
          go_quiet ((go_at_call 153; exact Calls.quiet_of (l06Equal_is HK2.out _ (HXA.out.drewN _) (HYB.out.drewN _))))
          go_wp2
          go_ret
          exact ⟨ret_bool HN.out.symm, _, by rw [HW.out]; exact World.drewN_drewN _ _ _⟩
        · have HK := Shh.mk hpk
          have HK2 := Shh.mk (HK1.out.trans hpk)
          clear hpk
          go_wp2
          go_quiet ((go_at_call 153; exact Calls.quiet_of (l06Equal_is HK2.out _ (HXA.out.drewN _) (HYB.out.drewN _))))
          go_wp2
          go_roundw
          case rel => exact ⟨k + 1, _, by omega, by go_num, by rw [HW.out]; exact World.drewN_drewN _ _ _, by rw [Hid, HS.out, ht.out, HK.out]; rfl⟩
          case measure => simp [intOf]; omega
      · obtain rfl : k = xs.length := by omega
        have HD := Shh.mk (HALL.out.trans ht.out)
        clear hw'
        go_wp2
        go_ret
        exact ⟨ret_bool HD.out.symm, _, HW.out⟩
  · have HD := Shh.mk (sameDs_len hne)
    have hn1 : ¬ (xs.length : Int) = (ys.length : Int) := by omega
    have hn2 : ((xs.length : Int) != (ys.length : Int)) = true := by simp; omega
    clear hne
    go_enter Tryd.func125, Tryd.ntmps125
    go_wp2
    go_quiet (fail)
    go_wp2
    go_ret
    exact ⟨ret_bool HD.out.symm, _, by first | rfl | exact World.drewN_drewN _ _ _⟩

theorem toDawgL_any {v : Value} {xs : List Nod} (w : World) (h : Nds w v xs) (hs : SmallD xs) :
    Calls Tryd.prog 51 #[.agg #[v]] w fun e w' => ∃ a s, e = .returned (.agg #[.slice a xs.length s]) ∧ Nds w' (.slice a xs.length s) xs ∧ Below w.heap.size w w' :=
  (toDawg_any w h hs).mono fun _ _ ⟨_, h1, h2, _, h4⟩ => ⟨_, _, h1, h2.nds hs.len, h4⟩
theorem toD_on {v : Value} {xs : List Nod} (w0 W : World) (hb : Below w0.heap.size w0 W) (h : Nds w0 v xs) (hs : SmallD xs) :
    Calls Tryd.prog 51 #[.agg #[v]] W fun e w' => ∃ a s, e = .returned (.agg #[.slice a xs.length s]) ∧ Nds w' (.slice a xs.length s) xs ∧ Below w0.heap.size w0 w' ∧ Below W.heap.size W w' :=
  (toDawgL_any W (h.below hb) hs).mono fun _ _ ⟨a, s, h1, h2, h3⟩ => ⟨a, s, h1, h2, hb.trans (h3.mono hb.size), h3⟩
theorem eqD_on {va vb : Value} {xs : List Nod} (w0 W : World) (hb : Below w0.heap.size w0 W) (hx : Nds W va xs) (hy : Nds W vb xs) :
    Calls Tryd.prog 44 #[.agg #[va], .agg #[vb]] W fun e w' => e = .returned (.bool true) ∧ Below w0.heap.size w0 w' :=
  (eqDawg_same W hx hy).mono fun _ _ ⟨h1, h2⟩ => ⟨h1, hb.trans (h2.mono hb.size)⟩
theorem twoDaw {b1 b2 : Nat} {t1 t2 : TypeId} {x1 x2 : Value} {w w' : World} (p1 : Blk w b1 t1 #[x1]) (p2 : Blk w b2 t2 #[x2]) (hb : Below w.heap.size w w') : w'.cell? ⟨b1, 0, none⟩ = some x1 ∧ w'.cell? ⟨b2, 0, none⟩ = some x2 :=
  ⟨(p1.kept hb p1.lt).cells 0, (p2.kept hb p2.lt).cells 0⟩
end Go.Proofs.YtabbpnafkgljcaaDoor

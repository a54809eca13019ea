/-
  Comparisons of rows of numbers: the model's and the library's.
-/
import Derived.Test.YtokfkofclpajfaaDoorT1
import Derived.Deep.RegionWith
namespace Go.Proofs.YtokfkofclpajfaaDoor
open Go.ChangeShapes Go.WideShapes Go.ChangeAt Go.RowKit Go.Joins

set_option maxHeartbeats 1000000 in
theorem l00Same_any {va vb : Value} {za zb : List Int} (w : World) (ha : Ints .i64 w va za) (hb : Ints .i64 w vb zb) :
    Calls Tryd.prog 137 #[va, vb] w fun e w' => e = .returned (.bool (decide (za = zb))) ∧ ∃ n, w' = w.drewN n := by
  have hal := ha.len
  have hbl := hb.len
  obtain ⟨a, capa, rfl, hla, hma, hca, hwa⟩ := ha
  obtain ⟨b, capb, rfl, hlb, hmb, hcb, hwb⟩ := hb
  clear hwa hwb
  by_cases hne : za.length = zb.length
  · have hn1 : ((za.length : Int) == (zb.length : Int)) = true := beq_iff_eq.2 (by omega)
    have HE := hid hne
    clear hne
    go_enter Tryd.func137, Tryd.ntmps137
    go_wp2
    go_loopw [5] (fun i w' => ∃ k n : Nat, k ≤ za.length ∧ i = .int .i64 k ∧ w' = w.drewN n ∧ Hid (za.take k = zb.take k)) (fun i _ => za.length - (intOf i).toNat)
    case atStart => exact ⟨0, 0, Nat.zero_le _, rfl, rfl, by simp [Hid]⟩
    case round =>
      obtain ⟨k, n, hk, rfl, rfl, hp⟩ := hrel
      by_cases hlt : k < za.length
      · have hltb : k < zb.length := by rw [← HE.out]; exact hlt
        obtain ⟨ba, oa, rfl, hba, hca'⟩ := hca (by omega)
        obtain ⟨bb, ob, rfl, hbb, hcb'⟩ := hcb (by omega)
        have ca := hca' k hlt
        have cb := hcb' k hltb
        clear hca' hcb' hca hcb
        have hsa := hid (take_snoc za k hlt)
        have hsb := hid (take_snoc zb k hltb)
        have hne := take_differs (za := za) (zb := zb) (k := k)
        obtain ⟨x, hx⟩ : ∃ x, za.getD k 0 = x := ⟨_, rfl⟩
        obtain ⟨y, hy⟩ : ∃ y, zb.getD k 0 = y := ⟨_, rfl⟩
        rw [hx] at ca hne
        rw [hy] at cb hne
        have HX := hid hx
        have HY := hid hy
        clear hx hy
        by_cases hxy : x = y
        · subst hxy
          clear hne
          go_wp2
          go_quiet (fail)
          go_wp2
          go_roundw
          case rel => exact ⟨k + 1, _, by omega, by go_num, rfl, by rw [Hid, hsa.out, hsb.out, hp.out, HX.out, HY.out]⟩
          case measure => simp [intOf]; omega
        · have hxy' : (x == y) = false := beq_eq_false_iff_ne.2 hxy
          have HN := hid (decide_eq_false (hne hxy))
          clear hne hxy
          go_wp2
          go_quiet (fail)
          go_wp2
          go_ret
          exact ⟨ret_bool HN.out.symm, _, World.drewN_drewN _ _ _⟩
      · have hk1 : za.length = k := by omega
        have hab : za = zb := by
          have h := hp.out
          rwa [List.take_of_length_le (by omega), List.take_of_length_le (by rw [← HE.out]; omega)] at h
        have HD := hid (decide_eq_true hab)
        clear hab hk1 hp hca hcb
        go_wp2
        go_ret
        exact ⟨ret_bool HD.out.symm, _, rfl⟩
  · have hd : decide (za = zb) = false := decide_eq_false (fun e => hne (by rw [e]))
    have HD := hid hd
    have hn1 : ((za.length : Int) == (zb.length : Int)) = false := beq_eq_false_iff_ne.2 (by omega)
    clear hd hne
    go_enter Tryd.func137, Tryd.ntmps137
    go_wp2
    go_ret
    exact ⟨ret_bool HD.out.symm, 0, rfl⟩


end Go.Proofs.YtokfkofclpajfaaDoor

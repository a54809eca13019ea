/-
  The law of SameTiles is true of every two tile sets: the program says of them what the model says, and changes nothing.
-/
import Derived.Test.YtaipfampkgpnpaaT3
import Derived.Deep.RegionWith
namespace Go.Proofs.Ytaipfampkgpnpaa
open Go.ChangeShapes Go.WideShapes Go.ChangeAt Go.RowKit Go.Joins
open Go.ChangeMaps (open_string shut_string)

set_option maxHeartbeats 1000000 in
theorem l00Same_any {va vb : Value} {za zb : List Int} (w : World) (ha : Ints .i64 w va za) (hb : Ints .i64 w vb zb) :
    Calls Try.prog 24 #[va, vb] w fun e w' => e = .returned (.bool (decide (za = zb))) ∧ ∃ n, w' = w.drewN n := by
  have hal := ha.len
  have hbl := hb.len
  obtain ⟨a, capa, rfl, hla, hma, hca, hwa⟩ := ha
  obtain ⟨b, capb, rfl, hlb, hmb, hcb, hwb⟩ := hb
  clear hwa hwb
  by_cases hne : za.length = zb.length
  · have hn1 : ((za.length : Int) == (zb.length : Int)) = true := beq_iff_eq.2 (by omega)
    have HE := hid hne
    clear hne
    go_enter Try.func24, Try.ntmps24
    go_wp2
    go_loopw [5] (fun i w' => ∃ k n : Nat, k ≤ za.length ∧ i = .int .i64 k ∧ w' = w.drewN n ∧ Hid (za.take k = zb.take k)) (fun i _ => za.length - (intOf i).toNat)
    case atStart => exact ⟨0, 0, Nat.zero_le _, rfl, rfl, by simp [Hid]⟩
    case round =>
      obtain ⟨k, n, hk, rfl, rfl, hp⟩ := hrel
      by_cases hlt : k < za.length
      · have hltb : k < zb.length := by rw [← HE.out]; exact hlt
        obtain ⟨ba, oa, rfl, hba, hca'⟩ := hca (by omega)
        obtain ⟨bb, ob, rfl, hbb, hcb'⟩ := hcb (by omega)
        have ca := hca' k hlt
        have cb := hcb' k hltb
        clear hca' hcb' hca hcb
        have hsa := hid (take_snoc za k hlt)
        have hsb := hid (take_snoc zb k hltb)
        have hne := take_differs (za := za) (zb := zb) (k := k)
        obtain ⟨x, hx⟩ : ∃ x, za.getD k 0 = x := ⟨_, rfl⟩
        obtain ⟨y, hy⟩ : ∃ y, zb.getD k 0 = y := ⟨_, rfl⟩
        rw [hx] at ca hne
        rw [hy] at cb hne
        have HX := hid hx
        have HY := hid hy
        clear hx hy
        by_cases hxy : x = y
        · subst hxy
          clear hne
          go_wp2
          go_quiet (fail)
          go_wp2
          go_roundw
          case rel => exact ⟨k + 1, _, by omega, by go_num, rfl, by rw [Hid, hsa.out, hsb.out, hp.out, HX.out, HY.out]⟩
          case measure => simp [intOf]; omega
        · have hxy' : (x == y) = false := beq_eq_false_iff_ne.2 hxy
          have HN := hid (decide_eq_false (hne hxy))
          clear hne hxy
          go_wp2
          go_quiet (fail)
          go_wp2
          go_ret
          exact ⟨ret_bool HN.out.symm, _, World.drewN_drewN _ _ _⟩
      · have hk1 : za.length = k := by omega
        have hab : za = zb := by
          have h := hp.out
          rwa [List.take_of_length_le (by omega), List.take_of_length_le (by rw [← HE.out]; omega)] at h
        have HD := hid (decide_eq_true hab)
        clear hab hk1 hp hca hcb
        go_wp2
        go_ret
        exact ⟨ret_bool HD.out.symm, _, rfl⟩
  · have hd : decide (za = zb) = false := decide_eq_false (fun e => hne (by rw [e]))
    have HD := hid hd
    have hn1 : ((za.length : Int) == (zb.length : Int)) = false := beq_eq_false_iff_ne.2 (by omega)
    clear hd hne
    go_enter Try.func24, Try.ntmps24
    go_wp2
    go_ret
    exact ⟨ret_bool HD.out.symm, 0, rfl⟩

set_option maxHeartbeats 1000000 in
theorem slicesEqual_any {va vb : Value} {za zb : List Int} (w : World) (ha : Ints .i64 w va za) (hb : Ints .i64 w vb zb) :
    Calls Try.prog 16 #[va, vb] w fun e w' => e = .returned (.bool (decide (za = zb))) ∧ ∃ n, w' = w.drewN n := by
  have hal := ha.len
  have hbl := hb.len
  obtain ⟨a, capa, rfl, hla, hma, hca, hwa⟩ := ha
  obtain ⟨b, capb, rfl, hlb, hmb, hcb, hwb⟩ := hb
  clear hwa hwb
  by_cases hne : za.length = zb.length
  · have hn1 : ((za.length : Int) != (zb.length : Int)) = false := by simp; omega
    have HE := hid hne
    clear hne
    go_enter Try.func16, Try.ntmps16
    go_wp2
    go_loopw [13] (fun i w' => ∃ k n : Nat, k ≤ za.length ∧ i = .int .i64 k ∧ w' = w.drewN n ∧ Hid (za.take k = zb.take k)) (fun i _ => za.length - (intOf i).toNat)
    case atStart => exact ⟨0, 0, Nat.zero_le _, rfl, rfl, by simp [Hid]⟩
    case round =>
      obtain ⟨k, n, hk, rfl, rfl, hp⟩ := hrel
      by_cases hlt : k < za.length
      · have hltb : k < zb.length := by rw [← HE.out]; exact hlt
        obtain ⟨ba, oa, rfl, hba, hca'⟩ := hca (by omega)
        obtain ⟨bb, ob, rfl, hbb, hcb'⟩ := hcb (by omega)
        have ca := hca' k hlt
        have cb := hcb' k hltb
        clear hca' hcb' hca hcb
        have hsa := hid (take_snoc za k hlt)
        have hsb := hid (take_snoc zb k hltb)
        have hne := take_differs (za := za) (zb := zb) (k := k)
        obtain ⟨x, hx⟩ : ∃ x, za.getD k 0 = x := ⟨_, rfl⟩
        obtain ⟨y, hy⟩ : ∃ y, zb.getD k 0 = y := ⟨_, rfl⟩
        rw [hx] at ca hne
        rw [hy] at cb hne
        have HX := hid hx
        have HY := hid hy
        clear hx hy
        by_cases hxy : x = y
        · subst hxy
          clear hne
          have hxx : (x != x) = false := by simp
          go_wp2
          go_quiet (fail)
          go_wp2
          go_roundw
          case rel => exact ⟨k + 1, _, by omega, by go_num, rfl, by rw [Hid, hsa.out, hsb.out, hp.out, HX.out, HY.out]⟩
          case measure => simp [intOf]; omega
        · have hxy' : (x != y) = true := by simp [hxy]
          have HN := hid (decide_eq_false (hne hxy))
          clear hne hxy
          go_wp2
          go_quiet (fail)
          go_wp2
          go_ret
          exact ⟨ret_bool HN.out.symm, _, World.drewN_drewN _ _ _⟩
      · have hk1 : za.length = k := by omega
        have hab : za = zb := by
          have h := hp.out
          rwa [List.take_of_length_le (by omega), List.take_of_length_le (by rw [← HE.out]; omega)] at h
        have HD := hid (decide_eq_true hab)
        clear hab hk1 hp hca hcb
        go_wp2
        go_ret
        exact ⟨ret_bool HD.out.symm, _, rfl⟩
  · have hd : decide (za = zb) = false := decide_eq_false (fun e => hne (by rw [e]))
    have HD := hid hd
    have hn1 : ((za.length : Int) != (zb.length : Int)) = true := by simp; omega
    clear hd hne
    go_enter Try.func16, Try.ntmps16
    go_wp2
    go_ret
    exact ⟨ret_bool HD.out.symm, 0, rfl⟩


/-- Two tile sets are the same. -/
def sameB (L1 L2 : ByteArray) (v1 v2 c1 c2 : List Int) (b1 b2 : Int) : Bool := L1.toList == L2.toList && decide (v1 = v2) && decide (c1 = c2) && b1 == b2

theorem sameL {va vb : Value} {za zb : List Int} {w : World} {n : Nat} {v : Bool} (ha : Ints .i64 w va za) (hb : Ints .i64 w vb zb) (h : decide (za = zb) = v) :
    Calls Try.prog 24 #[va, vb] (w.drewN n) fun e w'' => e = .returned (.bool v) ∧ ∃ m, w'' = w.drewN m := by
  refine (l00Same_any _ (ha.drewN n) (hb.drewN n)).mono ?_
  rintro e w' ⟨rfl, m, rfl⟩
  exact ⟨by rw [h], _, World.drewN_drewN _ _ _⟩

set_option maxRecDepth 100000 in
set_option maxHeartbeats 2000000 in
theorem l02Same_any (B1 B2 : Nat) (L1 L2 : ByteArray) {x1 x2 y1 y2 : Value} {v1 v2 c1 c2 : List Int} (b1 b2 : Int) (w : World)
    (p1 : Blk w B1 27 #[.string L1, x1, y1, .int .i64 b1]) (p2 : Blk w B2 27 #[.string L2, x2, y2, .int .i64 b2])
    (h1 : Ints .i64 w x1 v1) (h2 : Ints .i64 w x2 v2) (h3 : Ints .i64 w y1 c1) (h4 : Ints .i64 w y2 c2) :
    Calls Try.prog 13 #[.pointer (some ⟨B1, 0, none⟩), .pointer (some ⟨B2, 0, none⟩)] w fun e w' => e = .returned (.bool (sameB L1 L2 v1 v2 c1 c2 b1 b2)) ∧ ∃ n, w' = w.drewN n := by
  have q1 := p1.cells
  have q2 := p2.cells
  unfold sameB
  cases hL : (L1.toList == L2.toList)
  · go_enter Try.func13, Try.ntmps13
    go_wp2_with fail
    go_quiet (fail)
    go_wp2
    go_ret
    exact ⟨rfl, _, rfl⟩
  · cases hV : decide (v1 = v2)
    · have HV := hid hV
      go_enter Try.func13, Try.ntmps13
      go_wp2_with fail
      go_quiet ((go_at_call 24; with_reducible exact sameL h1 h2 HV.out))
      go_wp2
      go_ret
      exact ⟨rfl, _, rfl⟩
    · have HV := hid hV
      cases hC : decide (c1 = c2)
      · have HC := hid hC
        clear hV hC
        go_enter Try.func13, Try.ntmps13
        go_wp2_with fail
        go_quiet ((go_at_call 24; first | with_reducible exact sameL h1 h2 HV.out | with_reducible exact sameL h3 h4 HC.out))
        go_wp2
        go_ret
        exact ⟨rfl, _, rfl⟩
      · have HC := hid hC
        clear hV hC
        cases hb : (b1 == b2)
        · go_enter Try.func13, Try.ntmps13
          go_wp2_with fail
          go_quiet ((go_at_call 24; first | with_reducible exact sameL h1 h2 HV.out | with_reducible exact sameL h3 h4 HC.out))
          go_wp2
          go_ret
          exact ⟨rfl, _, rfl⟩
        · go_enter Try.func13, Try.ntmps13
          go_wp2_with fail
          go_quiet ((go_at_call 24; first | with_reducible exact sameL h1 h2 HV.out | with_reducible exact sameL h3 h4 HC.out))
          go_wp2
          go_ret
          exact ⟨rfl, _, rfl⟩

theorem made2 (w : World) (t t' : TypeId) (cs cs' : Array Value) : Blk ((w.alloc (.cells cs t)).alloc (.cells cs' t')) (w.heap.size + 1) t' cs' := by
  have := Blk.made (w.alloc (.cells cs t)) t' cs'
  simpa only [World.size_alloc] using this

set_option maxRecDepth 100000 in
set_option maxHeartbeats 2000000 in
theorem specSameTiles_any (L1 L2 : ByteArray) {x1 x2 y1 y2 : Value} {v1 v2 c1 c2 : List Int} (b1 b2 : Int) (w : World)
    (h1 : Ints .i64 w x1 v1) (h2 : Ints .i64 w x2 v2) (h3 : Ints .i64 w y1 c1) (h4 : Ints .i64 w y2 c2) :
    Calls Try.prog 6 #[.agg #[.string L1, x1, y1, .int .i64 b1], .agg #[.string L2, x2, y2, .int .i64 b2]] w fun e w' => e = .returned (.bool (sameB L1 L2 v1 v2 c1 c2 b1 b2)) ∧ Below w.heap.size w w' := by
  go_enter Try.func6, Try.ntmps6
  go_wp2_with fail
  refine (l02Same_any _ _ L1 L2 b1 b2 _ ((Blk.made _ _ _).alloc _) (made2 _ _ _ _ _) ((h1.alloc _).alloc _) ((h2.alloc _).alloc _) ((h3.alloc _).alloc _) ((h4.alloc _).alloc _)).mono ?_
  rintro e w1 ⟨rfl, n1, rfl⟩
  go_wp2
  go_ret
  exact ⟨rfl, below_drewN (((Below.refl _ _).alloc (Nat.le_refl _) _).alloc (by simp) _) _⟩

set_option maxRecDepth 100000 in
theorem plainOf_on (a : World) (L : ByteArray) (x y : Value) (b : Int) (w : World) (h : Below a.heap.size a w) :
    Calls Try.prog 15 #[.agg #[.string L, x, y, .int .i64 b]] w fun e w' => e = .returned (.agg #[.string L, .int .i64 b]) ∧ Below a.heap.size a w' := by
  go_enter Try.func15, Try.ntmps15
  go_wp2_with fail
  refine bodyPost_ret (v := .agg #[.string L, .int .i64 b]) (by simp [results, Try.results15, go_sem]) rfl ?_
  exact ⟨rfl, (h.alloc h.size _).alloc (by have := h.size; simp; omega) _⟩
theorem slicesEqual_on (a : World) {va vb : Value} {za zb : List Int} {v : Bool} (w : World) (h : Below a.heap.size a w) (ha : Ints .i64 a va za) (hb : Ints .i64 a vb zb) (hv : decide (za = zb) = v) :
    Calls Try.prog 16 #[va, vb] w fun e w' => e = .returned (.bool v) ∧ Below a.heap.size a w' := by
  refine (slicesEqual_any w (ha.below h) (hb.below h)).mono ?_
  rintro e w' ⟨rfl, n, rfl⟩
  exact ⟨by rw [hv], below_drewN h n⟩

end Go.Proofs.Ytaipfampkgpnpaa

/-
  Nodes that are well formed and differ: the program's haveDifferentNodes.
-/
import Derived.Test.YtokfkofclpajfaaDoorWH
import Derived.Test.YtokfkofclpajfaaDoorVL
import Derived.Maps.OwnSet
import Derived.Outline
namespace Go.Proofs.YtokfkofclpajfaaDoor
open Go.RowKit Go.Maps Go.WideMaps

theorem lawW : Keyed Tryd.prog 9 := string_keyed Tryd.underlying9
theorem make_mapW (x : Int) (w : World) : (Instr.makeMap 126 (some (.int .i64 x))).run Tryd.prog w = .ok (.map (some w.heap.size)) (w.alloc (.map #[] 0)) := by
  simp [Instr.makeMap, run_underlying Tryd.underlying126, asInt, asIntOf]
/-- A set of lines. -/
structure LineSet (L : Nat → List UInt8) (D : DataW Unit) (k : Nat) : Prop where
  tidy : Tidy D
  has : ∀ s : List UInt8, Maps.has D (.string s) = true ↔ ∃ i, i < k ∧ L i = s
  size : Maps.size D ≤ k
  full : Maps.size D = k ↔ ∀ i j, i < k → j < k → L i = L j → i = j
theorem LineSet.empty (L : Nat → List UInt8) : LineSet L (.map []) 0 := ⟨tidy_empty, fun s => by simp [Maps.has], Nat.le_refl _, by simp [Maps.size]⟩
theorem LineSet.put {L : Nat → List UInt8} {D : DataW Unit} {k : Nat} (h : LineSet L D k) (d : DataW Unit) : LineSet L (D.put (.string (L k)) d) (k + 1) := by
  have hk : WideAt.IsKeyLit (.string (L k)) := trivial
  refine ⟨h.tidy.put hk d, fun s => ?_, ?_, ?_⟩
  · by_cases e : s = L k
    · subst e
      rw [has_put_same h.tidy.isMap hk]
      exact ⟨fun _ => ⟨k, by omega, rfl⟩, fun _ => rfl⟩
    · rw [has_put_other (fun h2 => e (by injection h2)), h.has s]
      constructor
      · rintro ⟨i, hi, rfl⟩
        exact ⟨i, by omega, rfl⟩
      · rintro ⟨i, hi, rfl⟩
        rcases Nat.lt_or_ge i k with h2 | h2
        · exact ⟨i, h2, rfl⟩
        · obtain rfl : i = k := by omega
          exact absurd rfl e
  · rw [size_put h.tidy]
    have := h.size
    split <;> omega
  · rw [size_put h.tidy]
    have hs := h.size
    cases hh : Maps.has D (.string (L k))
    · simp only [Bool.false_eq_true, if_false]
      have hno : ¬ ∃ i, i < k ∧ L i = L k := fun h2 => by rw [(h.has (L k)).2 h2] at hh; cases hh
      constructor
      · intro he i j hi hj hij
        have hf := h.full.1 (by omega)
        rcases Nat.lt_or_ge i k with h1 | h1 <;> rcases Nat.lt_or_ge j k with h2 | h2
        · exact hf i j h1 h2 hij
        · obtain rfl : j = k := by omega
          exact absurd ⟨i, h1, hij⟩ hno
        · obtain rfl : i = k := by omega
          exact absurd ⟨j, h2, hij.symm⟩ hno
        · omega
      · intro hf
        have := h.full.2 fun i j hi hj hij => hf i j (by omega) (by omega) hij
        omega
    · simp only [if_true]
      obtain ⟨i, hi, he⟩ := (h.has (L k)).1 hh
      constructor
      · intro h2; omega
      · intro hf
        have := hf i k (by omega) (by omega) he
        omega
/-- What the program asks of the nodes. -/
def Hav (xs : List Nod) : Prop := (∀ i, i < xs.length → ShpN xs.length (nodG xs i)) ∧ (gphD xs).Differ xs.length
theorem ShpN.lnd {n : Nat} {x : Nod} (h : ShpN n x) : Lnd x := ⟨h.form, h.len, fun z hz => (h.next z hz).1⟩
theorem cont_differ {xs : List Nod} (hs : Shp xs) : (gphD xs).Differ xs.length ↔ ∀ i j, i < xs.length → j < xs.length → contD (nodG xs i) = contD (nodG xs j) → i = j := by
  have hF : ∀ i, (gphD xs).F i = (nodG xs i).f := fun _ => rfl
  constructor
  · intro h i j hi hj he
    unfold contD at he
    simp only [Prod.mk.injEq] at he
    refine h i j hi hj (by rw [hF, hF]; exact he.1) (by rw [hs.L hi, hs.L hj]; exact he.2.1) (by rw [hs.N hi, hs.N hj, he.2.2])
  · intro h i j hi hj h1 h2 h3
    refine h i j hi hj ?_
    unfold contD
    rw [hF, hF] at h1
    rw [hs.L hi, hs.L hj] at h2
    rw [hs.N hi, hs.N hj] at h3
    rw [h1, h2, nats_inj (fun z hz => ((hs.node i hi).next z hz).1) (fun z hz => ((hs.node j hj).next z hz).1) h3]
theorem lines_differ {xs : List Nod} (h0 : 0 < xs.length) (hn : xs.length ≤ 3000) (hs : ∀ i, i < xs.length → ShpN xs.length (nodG xs i)) : (gphD xs).Differ xs.length ↔ ∀ i j, i < xs.length → j < xs.length → lineW (nodG xs i) = lineW (nodG xs j) → i = j := by
  rw [cont_differ ⟨h0, hn, hs⟩]
  constructor
  · intro h i j hi hj he
    exact h i j hi hj (lineW_inj (hs i hi).lnd (hs j hj).lnd he)
  · intro h i j hi hj he
    exact h i j hi hj (lineW_of he)
theorem ownsMap_belowW {w w2 : World} {b n : Nat} {D : DataW Unit} (h : w.ownsMap Tryd.prog 9 (unitElem (H := Unit)) b n D) (hb : Below w.heap.size w w2) : w2.ownsMap Tryd.prog 9 (unitElem (H := Unit)) b n D :=
  h.kept (row := none) ⟨hb.os, hb.tape, hb.output, hb.size, fun k hk _ => hb.block k hk⟩ (by simp)
theorem lineW_small {x : Nod} (hl : x.ns.length ≤ 3000) (hz : ∀ z ∈ x.ns, 0 ≤ z ∧ z ≤ 3000) : (txt (lineW x)).size ≤ 100000 := by
  rw [txt_size]
  unfold lineW
  have h1 := join_bound (b := 22) (wordsW x x.ns.length) (fun w hw => by
    unfold wordsW at hw
    rcases List.mem_cons.1 hw with rfl | hw
    · simp
    · obtain ⟨j, hj, rfl⟩ := List.mem_map.1 hw
      unfold wordW
      have hj2 := List.mem_range.1 hj
      have hzz : 0 ≤ x.ns.getD j 0 ∧ x.ns.getD j 0 ≤ 3000 := by rw [List.getD_eq_getElem?_getD, List.getElem?_eq_getElem hj2]; exact hz _ (List.getElem_mem hj2)
      have := Lib.itoa_length_le (x.ns.getD j 0) (by omega) (by omega)
      rw [List.length_cons]
      omega)
  have h2 : (wordsW x x.ns.length).length = x.ns.length + 1 := by simp [wordsW]
  rw [h2] at h1
  have h3 : (x.ns.length + 1) * (22 + 1) ≤ 3001 * 23 := Nat.mul_le_mul (by omega) (Nat.le_refl _)
  rw [List.length_append]
  simp only [List.length_cons, List.length_nil]
  omega

set_option maxRecDepth 100000 in
set_option maxHeartbeats 8000000 in
theorem haveDifferentNodes_any {v : Value} {xs : List Nod} (W : World) (hT : TabW W) (hx : Nds W v xs) (h0 : 0 < xs.length) (hn : xs.length ≤ 3000) :
    Calls Tryd.prog 67 #[.agg #[v]] W fun e w' => ∃ b, e = .returned (.bool b) ∧ (b = true ↔ Hav xs) ∧ Below W.heap.size W w' := by
  have hmk := make_mapW
  have HT := Shh.mk hT
  have HX := Shh.mk (hx.alloc (.cells #[v] 29))
  have HBD := Shh.mk (Blk.made W 29 #[v])
  have hmap := World.ownsMap_made (W.alloc (.cells #[v] 29)) Tryd.prog 9 (unitElem (H := Unit))
  rw [World.size_alloc] at hmap
  have HMAP := Shh.mk hmap
  obtain ⟨na, nc, rfl, hn1, hn2, hnn⟩ := hx
  clear hnn hT hmap
  go_enter Tryd.func67, Tryd.ntmps67
  go_wp2
  go_loopw [5, 7, 15, 35] (fun _ _ z _ wr => ∃ (k : Nat) (D : DataW Unit), k ≤ xs.length ∧ z = .int .i64 k ∧ Shh (∀ i, i < k → ShpN xs.length (nodG xs i)) ∧ Shh (LineSet (fun i => lineW (nodG xs i)) D k) ∧ Shh (wr.ownsMap Tryd.prog 9 (unitElem (H := Unit)) (W.heap.size + 1) k D) ∧ Below (W.alloc (.cells #[.slice na xs.length nc] 29)).heap.size (W.alloc (.cells #[.slice na xs.length nc] 29)) wr) (fun _ _ z _ _ => xs.length - (intOf z).toNat)
  case atStart => exact ⟨0, _, Nat.zero_le _, rfl, ⟨fun i hi => absurd hi (by omega)⟩, ⟨LineSet.empty _⟩, HMAP, (Below.refl _ _).alloc (Nat.le_refl _) _⟩
  case round =>
    obtain ⟨k, D, hkl, rfl, hshp, hset, hmap, hb⟩ := hrel
    clear HMAP
    obtain ⟨w2, hwe⟩ : ∃ w2 : World, w2 = wr := ⟨_, rfl⟩
    subst hwe
    have HB0 := Shh.mk (show Below W.heap.size W w2 from ((Below.refl _ _).alloc (Nat.le_refl _) _).trans (hb.mono (by simp)))
    have d0 : w2.cell? ⟨W.heap.size, 0, none⟩ = some (.slice na xs.length nc) := (HBD.out.kept hb (by simp)).cells 0
    by_cases hk : k < xs.length
    · obtain ⟨ad, cd, e2, -, -, hnn⟩ := HX.out
      obtain ⟨bn, on, rfl, hbn, hcn⟩ := hnn (by omega)
      simp only [Value.slice.injEq] at e2
      obtain ⟨rfl, -, rfl⟩ := e2
      obtain ⟨n0, n1, u, n2, hu⟩ := hcn k hk
      obtain ⟨x, hxx⟩ : ∃ x, nodG xs k = x := ⟨_, rfl⟩
      have HXX := Shh.mk hxx
      rw [hxx] at n0 n1 hu
      obtain ⟨f, ls, ns⟩ := x
      simp only at n0 n1 n2 hu
      have hul := hu.len
      have HU := Shh.mk hu
      obtain ⟨ua, uc, rfl, -⟩ := hu
      have m0 := (hb.cell (p := ⟨bn, on + k * 3, none⟩) hbn).trans n0
      have m1 := (hb.cell (p := ⟨bn, on + k * 3 + 1, none⟩) hbn).trans n1
      have m2 := (hb.cell (p := ⟨bn, on + k * 3 + 2, none⟩) hbn).trans n2
      have HAF := Shh.mk (areFormBytes_any ls (w2.alloc (.cells #[.bool f, .string ls, .slice ua ns.length uc] 71)))
      have HBN := Shh.mk (Blk.made w2 71 #[.bool f, .string ls, .slice ua ns.length uc])
      have hBa : Below W.heap.size W (w2.alloc (.cells #[.bool f, .string ls, .slice ua ns.length uc] 71)) := HB0.out.alloc HB0.out.size _
      have hba : Below (W.alloc (.cells #[.slice (some ⟨bn, on, none⟩) xs.length nc] 29)).heap.size (W.alloc (.cells #[.slice (some ⟨bn, on, none⟩) xs.length nc] 29)) (w2.alloc (.cells #[.bool f, .string ls, .slice ua ns.length uc] 71)) := hb.alloc hb.size _
      obtain ⟨fb, hfb⟩ : ∃ fb, formsTo ls.data.toList ls.size = fb := ⟨_, rfl⟩
      have HFB := Shh.mk hfb
      rw [hfb] at HAF
      clear hcn hnn hxx n0 n1 hfb
      cases fb
      · have HNO := Shh.mk (show (false = true ↔ Hav xs) from ⟨fun h => (by cases h), fun h => by
          have h1 := h.1 k hk
          rw [HXX.out] at h1
          have h2 := formsTo_iff.2 ⟨h1.form, h1.rise⟩
          rw [list_size, HFB.out] at h2
          exact h2⟩)
        go_wp2_with (go_at_call 107; refine HAF.out.mono ?_; rintro e w3 ⟨rfl, hb3⟩)
        go_ret
        exact ⟨false, rfl, HNO.out, hBa.trans (hb3.mono hBa.size)⟩
      · by_cases hlen : ls.size = ns.length
        · have hne : ((ns.length : Int) == (ls.size : Int)) = true := by rw [hlen]; simp
          go_wp2_with (go_at_call 107; refine HAF.out.mono ?_; rintro e w3 ⟨rfl, hb3⟩; have HBN3 := Shh.mk (HBN.out.kept hb3 HBN.out.lt); have c1 : w3.cell? ⟨w2.heap.size, 1, none⟩ = some (.string ls) := HBN3.out.cells 1; have c2 : w3.cell? ⟨w2.heap.size, 2, none⟩ = some (.slice ua ns.length uc) := HBN3.out.cells 2)
          have HB3 := Shh.mk (hBa.trans (hb3.mono hBa.size))
          have Hb3 := Shh.mk (hba.trans (hb3.mono hba.size))
          have d3 : w3.cell? ⟨W.heap.size, 0, none⟩ = some (.slice (some ⟨bn, on, none⟩) xs.length nc) := (HBD.out.kept Hb3.out (by simp)).cells 0
          have HU3 := Shh.mk (HU.out.below Hb3.out)
          go_loopw [7, 35] (fun _ z w' => ∃ j : Nat, j ≤ ns.length ∧ z = .int .i64 j ∧ w' = w3 ∧ Shh (∀ i, i < j → 0 ≤ ns.getD i 0 ∧ ns.getD i 0 < xs.length)) (fun _ z _ => ns.length - (intOf z).toNat)
          case atStart => exact ⟨0, Nat.zero_le _, rfl, rfl, ⟨fun i hi => absurd hi (by omega)⟩⟩
          case round =>
            obtain ⟨j, hjl, rfl, rfl, hall⟩ := hrel
            by_cases hj : j < ns.length
            · obtain ⟨a2, cap2, e2, -, -, h5, -⟩ := HU3.out
              obtain ⟨bu, ou, rfl, hbu, hcu⟩ := h5 (by omega)
              simp only [Value.slice.injEq] at e2
              obtain ⟨rfl, -, rfl⟩ := e2
              have cu := hcu j hj
              have hmem : ns.getD j 0 ∈ ns := by rw [List.getD_eq_getElem?_getD, List.getElem?_eq_getElem hj]; exact List.getElem_mem hj
              obtain ⟨z, hz⟩ : ∃ z, ns.getD j 0 = z := ⟨_, rfl⟩
              have HZ := Shh.mk hz
              rw [hz] at cu hmem
              clear hcu h5 hz
              by_cases hz0 : z < 0
              · have HNO := Shh.mk (show (false = true ↔ Hav xs) from ⟨fun h => (by cases h), fun h => by
                  have h1 := h.1 k hk
                  rw [HXX.out] at h1
                  have h2 := (h1.next z hmem).1
                  omega⟩)
                go_wp2_with fail
                go_ret
                first | exact ⟨false, rfl, HNO.out, HB3.out⟩ | exact Or.inl ⟨rfl, (by have := HNO.out; simpa using this), HB3.out⟩
              · by_cases hzn : z < (xs.length : Int)
                · have hzn2 : ¬ (xs.length : Int) ≤ z := by omega
                  go_wp2_with fail
                  go_roundw
                  case rel =>
                    refine ⟨j + 1, by omega, by go_num, by first | trivial | rfl, ⟨fun i hi => ?_⟩⟩
                    rcases Nat.lt_or_ge i j with h | h
                    · exact hall.out i h
                    · obtain rfl : i = j := by omega
                      rw [HZ.out]
                      omega
                  case measure => simp [intOf]; omega
                · have hzn2 : (xs.length : Int) ≤ z := by omega
                  have HNO := Shh.mk (show (false = true ↔ Hav xs) from ⟨fun h => (by cases h), fun h => by
                    have h1 := h.1 k hk
                    rw [HXX.out] at h1
                    have h2 := (h1.next z hmem).2
                    omega⟩)
                  go_wp2_with fail
                  go_ret
                  first | exact ⟨false, rfl, HNO.out, HB3.out⟩ | exact Or.inl ⟨rfl, (by have := HNO.out; simpa using this), HB3.out⟩
            · obtain rfl : j = ns.length := by omega
              have HSH := Shh.mk (show ShpN xs.length ⟨f, ls, ns⟩ from by
                have h2 := formsTo_iff.1 (by rw [list_size]; exact HFB.out)
                refine ⟨h2.1, h2.2, hlen, fun z hz => ?_⟩
                obtain ⟨i, hi, rfl⟩ := List.mem_iff_getElem.1 hz
                have := hall.out i hi
                rw [List.getD_eq_getElem?_getD, List.getElem?_eq_getElem hi] at this
                exact this)
              have hnat : ∀ z ∈ ns, 0 ≤ z ∧ z ≤ 3000 := fun z hz => by have := HSH.out.next z hz; omega
              have hfew : ns.length ≤ 3000 := by
                have h2 := forms_few HSH.out.form HSH.out.rise
                rw [list_size] at h2
                have h3 : ls.size ≤ 27 := h2
                omega
              have HLI := Shh.mk (line_any (f := f) (ls := ls) wr (HT.out.on HB3.out) HU3.out hlen hfew hnat)
              have HSM := Shh.mk (lineW_small (x := ⟨f, ls, ns⟩) hfew hnat)
              have c0 : wr.cell? ⟨w2.heap.size, 0, none⟩ = some (.bool f) := HBN3.out.cells 0
              have hb23 : Below w2.heap.size w2 wr := ((Below.refl _ _).alloc (Nat.le_refl _) _).trans (hb3.mono (by simp))
              have HOW := Shh.mk (fun w4 (hb4 : Below wr.heap.size wr w4) => ownsMap_belowW hmap.out (hb23.trans (hb4.mono hb23.size)))
              have HKEY := Shh.mk (keyOf_string_mk Tryd.underlying9 (show (txt (lineW ⟨f, ls, ns⟩)).size ≤ maxLen from by have := HSM.out; unfold maxLen; omega))
              obtain ⟨SS, hSS⟩ : ∃ SS, txt (lineW ⟨f, ls, ns⟩) = SS := ⟨_, rfl⟩
              have HSS := Shh.mk hSS
              rw [hSS] at HLI HKEY
              clear hnat hfew hall hmap hSS hne hul
              go_wp2_with (first
                | (go_at_call 88; refine HLI.out.mono ?_; rintro e w4 ⟨rfl, hb4⟩)
                | (at_mapUpdate; refine wpList_mapUpdate_own _ rfl _ _ _ 126 rfl 9 128 lawW Tryd.underlying126 (unitElem (H := Unit)) (W.heap.size + 1) k _ rfl (HOW.out _ hb4) (by unfold maxLen; omega) _ _ _ rfl rfl HKEY.out _ [] unitElem_mk ?_; intro w5 hown5 hgrow5))
              go_roundw
              case rel =>
                have hb4' := Hb3.out.trans (hb4.mono Hb3.out.size)
                refine ⟨k + 1, D.put (.string (lineW ⟨f, ls, ns⟩)) (.agg []), by omega, by go_num, ⟨fun i hi => ?_⟩, ⟨?_⟩, ⟨?_⟩, ?_⟩
                · rcases Nat.lt_or_ge i k with h | h
                  · exact hshp.out i h
                  · obtain rfl : i = k := by omega
                    rw [HXX.out]
                    exact HSH.out
                · have h := hset.out.put (.agg [])
                  simp only [HXX.out] at h
                  exact h
                · rw [show lineW ⟨f, ls, ns⟩ = SS.data.toList from by rw [← HSS.out]; simp [txt]]
                  exact hown5
                · exact hb4'.grown hgrow5 hb4'.size (fun j hj => by cases hj; simp)
              case measure => simp [intOf]; omega
        · have hne : ((ns.length : Int) == (ls.size : Int)) = false := by rw [beq_eq_false_iff_ne]; omega
          have HNO := Shh.mk (show (false = true ↔ Hav xs) from ⟨fun h => (by cases h), fun h => by
            have h1 := h.1 k hk
            rw [HXX.out] at h1
            exact absurd h1.len hlen⟩)
          go_wp2_with (go_at_call 107; refine HAF.out.mono ?_; rintro e w3 ⟨rfl, hb3⟩; have HBN3 := Shh.mk (HBN.out.kept hb3 HBN.out.lt); have c1 : w3.cell? ⟨w2.heap.size, 1, none⟩ = some (.string ls) := HBN3.out.cells 1; have c2 : w3.cell? ⟨w2.heap.size, 2, none⟩ = some (.slice ua ns.length uc) := HBN3.out.cells 2)
          go_ret
          exact ⟨false, rfl, HNO.out, hBa.trans (hb3.mono hBa.size)⟩
    · obtain rfl : k = xs.length := by omega
      have HSZ := Shh.mk hset.out.size
      have HIFF := Shh.mk (show (decide (Maps.size D = xs.length) = true ↔ Hav xs) from by
        rw [decide_eq_true_eq, hset.out.full]
        constructor
        · intro h
          exact ⟨hshp.out, (lines_differ h0 hn hshp.out).2 h⟩
        · intro h
          exact (lines_differ h0 hn hshp.out).1 h.2)
      have hown := hmap.out
      have HEQ := Shh.mk (show (((Maps.size D : Nat) : Int) == ((xs.length : Nat) : Int)) = decide (Maps.size D = xs.length) from by rw [Bool.eq_iff_iff]; simp only [beq_iff_eq, decide_eq_true_eq]; omega)
      clear hset hshp hmap
      go_wp2_with (at_len; refine wpList_len_own _ rfl _ 126 rfl 9 128 Tryd.underlying126 _ (W.heap.size + 1) xs.length D rfl hown ?_)
      go_ret
      refine ⟨decide (Maps.size D = xs.length), ?_, HIFF.out, HB0.out⟩
      show Ending.returned (.bool (((Maps.size D : Nat) : Int) == ((xs.length : Nat) : Int))) = _
      rw [HEQ.out]
end Go.Proofs.YtokfkofclpajfaaDoor

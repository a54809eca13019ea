/-
  The steps of a grammar by their names: a map of method values; a derivation's steps, one after the other.
-/
import Derived.Test.YtilagppmljpclaaI6
import Derived.Test.YtilagppmljpclaaF9
import Derived.Test.YtilagppmljpclaaLJ
import Derived.Laws.EntriesVeiled
namespace Go.Proofs.Ytilagppmljpclaa
open Go.RowKit Go.Lib

/-- The method value of an affix. -/
def stepV (x : Aff) : Value := .func (.func 134) #[x.val] #[]
theorem make_mapH (n : Int) (w : World) : (Instr.makeMap 104 (some (.int .i64 n))).run Try.prog w = .ok (.map (some w.heap.size)) (w.alloc (.map #[] 0)) := by
  simp [Instr.makeMap, run_underlying Try.underlying104, asInt, asIntOf]
/-- A map holds the steps of the first k affixes by their names. -/
structure Steps (w : World) (b n : Nat) (D : DataW Value) (xs : List Aff) (k : Nat) : Prop where
  map : w.ownsMap Try.prog 9 idR b n D
  here : ∀ j, j < k → D.atKey (.string (affG xs j).n.data.toList) (.held .nilFunc) = .held (stepV (affG xs j))
theorem Steps.below {w w' : World} {b n k : Nat} {D : DataW Value} {xs : List Aff} (h : Steps w b n D xs k) (hb : Below w.heap.size w w') : Steps w' b n D xs k := ⟨ownsMap_below h.map hb, h.here⟩
theorem fresh_ne {xs : List Aff} {i k : Nat} (h : freshB xs k = true) (hik : i < k) : ¬ (affG xs i).n = (affG xs k).n := fun e => by
  unfold freshB at h
  rw [knowsTo_mono hik (by rw [e]; exact strSame _)] at h
  cases h
theorem Steps.put {w w' : World} {b n k : Nat} {D : DataW Value} {xs : List Aff} (h : Steps w b n D xs k) (hf : freshB xs k = true) (hm : w'.ownsMap Try.prog 9 idR b (n + 1) (D.put (.string (affG xs k).n.data.toList) (.held (stepV (affG xs k))))) :
    Steps w' b (n + 1) (D.put (.string (affG xs k).n.data.toList) (.held (stepV (affG xs k)))) xs (k + 1) := by
  refine ⟨hm, fun j hj => ?_⟩
  rcases Nat.lt_or_ge j k with h1 | h1
  · rw [Maps.atKey_put_other (lit_ne (fresh_ne hf h1))]
    exact h.here j h1
  · obtain rfl : j = k := by omega
    exact Maps.atKey_put_same h.map.isMap (show WideAt.IsKeyLit (.string (affG xs j).n.data.toList) from trivial) _ _
theorem aff_val (x : Aff) : (Value.func (.func 134) #[.agg #[.string x.n, .bool x.f, .string x.w, .string x.s, .string x.a]] #[]) = stepV x := rfl

/-- A look-up in a map that the call has made, read as it is, whatever the zero value. -/
theorem wpList_lookup_any {P : Program} (w : World) {ops : Array Oper} {rest : List Oper} {o : Oper} {a : Act} {Q : Exit → Act → World → Prop}
    (hg : o.guard = none) (m x : Operand) (t : TypeId) (hop : o.op = Op.lookup t m x false)
    (k e : TypeId) (K : Maps.Keyed P k) (ht : P.underlying t = some (.map k e)) (z : Value) (hz : (zeroValue e).run P w = .ok z w) (b n : Nat) (D : DataW Value)
    (hm : a.eval m = .map (some b)) (hown : w.ownsMap P k idR b n D) (key : Value) (kl : Lit) (hx : a.eval x = key) (hkey : Go.keyOf P k key = some kl)
    (hK : ∀ v : Value, D.atKey kl (.held z) = .held v → wpList P ops Q rest (a.put o.dst v) w) :
    wpList P ops Q (o :: rest) a w := by
  refine wpList_plain hg fun K' hK' => ?_
  obtain ⟨v, ps, hrun, hR⟩ := hown.lookup K ht hz (zd := .held z) (zp := []) rfl hkey
  have hat : D.atKey kl (.held z) = .held v := by
    unfold idR at hR
    injection hR with hR
    injection hR with h1 _
    exact h1.symm
  unfold Oper.wp
  simp [execOp, hop, hm, hx, hrun, Result.andThen]
  exact hK' _ _ (hK v hat)
theorem zeroStep (w : World) : (zeroValue 186).run Try.prog w = .ok .nilFunc w := by kernel_rfl

/-- All names are fresh and of a name's length. -/
structure Names (xs : List Aff) : Prop where
  fresh : ∀ k, k < xs.length → freshB xs k = true
  small : ∀ k, k < xs.length → (affG xs k).n.size ≤ maxLen
set_option maxRecDepth 100000 in
set_option maxHeartbeats 2000000 in
theorem stepsByName_any {va vs : Value} {xs : List Aff} {ss : List Stm} (W : World) (hg : Gram W va vs xs ss) (hn : Names xs) (hx : xs.length ≤ 1000) :
    Calls Try.prog 77 #[.agg #[va, vs]] W fun e w' => e = .returned (.map (some (W.heap.size + 1))) ∧ (∃ n D, Steps w' (W.heap.size + 1) n D xs xs.length) ∧ Below W.heap.size W w' := by
  have HNM := Shh.mk hn
  have HB0 := Shh.mk ((Below.refl W.heap.size W).alloc (Nat.le_refl _) (.cells #[va, vs] 48))
  have HP := Shh.mk (Blk.made W 48 #[va, vs])
  have hp0 := HP.out.cells
  have hp1 := (HP.out.alloc (.map #[] 0)).cells
  have hmm := fun w => make_mapH (xs.length : Int) w
  have hm0 : (((W.alloc (.cells #[va, vs] 48)).alloc (.map #[] 0)).ownsMap Try.prog 9 idR (W.alloc (.cells #[va, vs] 48)).heap.size 0 (.map [])) := World.ownsMap_made _ _ _ _
  rw [World.size_alloc] at hm0
  have HS0 := Shh.mk (show Steps ((W.alloc (.cells #[va, vs] 48)).alloc (.map #[] 0)) (W.heap.size + 1) 0 (.map []) xs 0 from ⟨hm0, fun j hj => absurd hj (by omega)⟩)
  have HB1 := Shh.mk (HB0.out.alloc (by simp) (.map #[] 0))
  obtain ⟨⟨aa, ac, rfl, hal, ham, hac⟩, ⟨sa, sc, rfl, -, -, -⟩⟩ := hg
  have HCA := Shh.mk hac
  clear hac hm0 hn
  go_enter Try.func77, Try.ntmps77
  go_wp2
  go_loopw [5, 13] (fun _ i wr => ∃ (k n : Nat) (D : DataW Value), k ≤ xs.length ∧ n ≤ k ∧ i = .int .i64 k ∧ Shh (Steps wr (W.heap.size + 1) n D xs k) ∧ Shh (Below W.heap.size W wr) ∧ W.heap.size + 2 ≤ wr.heap.size) (fun _ i _ => xs.length - (intOf i).toNat)
  case atStart => exact ⟨0, 0, .map [], Nat.zero_le _, Nat.le_refl _, rfl, HS0, HB1, by simp⟩
  case round =>
    obtain ⟨k, n, D, hk, hnk, rfl, hst, hb, hsz⟩ := hrel
    by_cases hlt : k < xs.length
    · obtain ⟨ba, oa, rfl, hba, hcc⟩ := HCA.out (by omega)
      have ha := AffAt.below (hcc k hlt) hb.out hba
      have hfr := HNM.out.fresh k hlt
      have hkey := WideMaps.keyOf_string_mk Try.underlying9 (HNM.out.small k hlt)
      have HPUT := Shh.mk (fun (w' : World) hm => Steps.put (w' := w') hst.out hfr hm)
      have HVAL := Shh.mk (aff_val (affG xs k))
      obtain ⟨y, hy⟩ : ∃ y, affG xs k = y := ⟨_, rfl⟩
      rw [hy] at ha hkey HPUT HVAL
      have HM := Shh.mk (ownsMap_below hst.out.map ((Below.refl wr.heap.size wr).alloc (Nat.le_refl _) (.cells #[.string y.n, .bool y.f, .string y.w, .string y.s, .string y.a] 171)))
      have HB2 := Shh.mk (hb.out.alloc hb.out.size (.cells #[.string y.n, .bool y.f, .string y.w, .string y.s, .string y.a] 171))
      obtain ⟨yn, yf, yw, ys, ya⟩ := y
      obtain ⟨c0, c1, c2, c3, c4⟩ := ha
      simp only at c0 c1 c2 c3 c4 hkey HM HB2
      clear hcc hy hfr hst hb
      go_wp2_with (at_mapUpdate; refine wpList_mapUpdate_own _ rfl _ _ _ 104 rfl 9 186 (Maps.string_keyed Try.underlying9) Try.underlying104 idR (W.heap.size + 1) n D rfl HM.out (by unfold maxLen; omega) _ _ _ rfl rfl hkey (.held (stepV ⟨yn, yf, yw, ys, ya⟩)) [] rfl ?_; intro w4 hm4 hg4)
      have HS4 := Shh.mk (HPUT.out w4 hm4)
      have HB4 := Shh.mk (HB2.out.grown hg4 HB2.out.size (fun j hj => by cases hj; omega))
      have hsz4 : W.heap.size + 2 ≤ w4.heap.size := by have := hg4.size; simp at this; omega
      clear hm4 hg4
      go_wp2
      go_roundw
      case rel => exact ⟨k + 1, n + 1, _, by omega, by omega, by go_num, HS4, HB4, hsz4⟩
      case measure => simp [intOf]; omega
    · obtain rfl : k = xs.length := by omega
      go_wp2
      go_ret
      exact ⟨rfl, ⟨n, D, hst.out⟩, hb.out⟩
end Go.Proofs.Ytilagppmljpclaa

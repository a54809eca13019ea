/-
  The word of a derivation, the program's; the laws' helpers on derivations: XI6 to XIA in one.
-/
import Derived.Test.YtilagppmljpclaaI5
import Derived.Test.YtilagppmljpclaaF9
import Derived.Test.YtilagppmljpclaaLJ
import Derived.Laws.EntriesVeiled
import Derived.Laws.AppendOwn
import Derived.Test.YtilagppmljpclaaHG
import Derived.Test.YtilagppmljpclaaHF
import Derived.Deep.RegionHeld3
import Derived.Test.YtilagppmljpclaaHA
import Derived.Deep.RegionWith
namespace Go.Proofs.Ytilagppmljpclaa
open Go.RowKit

/-- The place of a stem, or -1. -/
def ixI (ss : List Stm) (word : ByteArray) (k : Nat) : Int := match stemIx ss word k with
  | none => -1
  | some i => (i : Int)
set_option maxRecDepth 100000 in
set_option maxHeartbeats 1000000 in
theorem indexStem_any {v u : Value} {ss : List Stm} {stem : ByteArray} {d : Nat} (W : World) (hs : Stms W v ss) (hd : Blk W d 50 #[.string stem, u]) :
    Calls Try.prog 130 #[v, .func (.func 131) #[] #[.pointer (some ⟨d, 0, none⟩)]] W fun e w' => e = .returned (.int .i64 (ixI ss stem ss.length)) ∧ Below W.heap.size W w' := by
  have hsl := hs.len
  have HD := Shh.mk hd
  obtain ⟨sa, sc, rfl, hsl1, hsm, hsc⟩ := hs
  have HCS := Shh.mk hsc
  clear hsc hd
  go_enter Try.func130, Try.ntmps130
  go_wp2
  go_loopw [5, 8] (fun _ i wr => ∃ k : Nat, k ≤ ss.length ∧ i = .int .i64 k ∧ Shh (stemIx ss stem k = none) ∧ Shh (Below W.heap.size W wr)) (fun _ i _ => ss.length - (intOf i).toNat)
  case atStart => exact ⟨0, Nat.zero_le _, rfl, ⟨rfl⟩, ⟨Below.refl _ _⟩⟩
  case round =>
    obtain ⟨k, hk, rfl, hn, hb⟩ := hrel
    by_cases hlt : k < ss.length
    · obtain ⟨bs, os, rfl, hbs, hcc⟩ := HCS.out (by omega)
      have ha := StmIs.below (hcc k hlt) hb.out hbs
      have HY := Shh.mk (fun h => stemIx_old (ss := ss) (word := stem) (i := k) hn.out h (k := ss.length) hlt)
      have HN := Shh.mk (fun h => stemIx_no (ss := ss) (word := stem) (k := k) hn.out h)
      obtain ⟨y, hy⟩ : ∃ y, stmG ss k = y := ⟨_, rfl⟩
      rw [hy] at ha HY HN
      obtain ⟨word, us⟩ := y
      obtain ⟨k0, u2, k1, hu⟩ := ha
      simp only at k0 k1 hu HY HN
      obtain ⟨ua, uc, rfl, -⟩ := hu
      have hD2 := Shh.mk (HD.out.kept hb.out HD.out.lt)
      clear hcc hy
      go_wp2_with fail
      refine (isDer1_any _ hD2.out ⟨_, _, _, rfl⟩).mono ?_
      cases hq : (word.toList == stem.toList)
      · have HNN := Shh.mk (HN.out hq)
        clear hq
        rintro e w1 ⟨rfl, hb1⟩
        have HB1 := Shh.mk (hb.out.trans (hb1.mono hb.out.size))
        clear hb1 k0 k1
        go_wp2
        go_roundw
        case rel => exact ⟨k + 1, by omega, by go_num, HNN, HB1⟩
        case measure => simp [intOf]; omega
      · have HR := Shh.mk (show ixI ss stem ss.length = (k : Int) by unfold ixI; rw [HY.out hq])
        clear hq
        rintro e w1 ⟨rfl, hb1⟩
        have HB1 := Shh.mk (hb.out.trans (hb1.mono hb.out.size))
        clear hb1 k0 k1
        go_wp2
        go_ret
        exact ⟨by rw [HR.out]; rfl, HB1.out⟩
    · obtain rfl : k = ss.length := by omega
      have HR := Shh.mk (show ixI ss stem ss.length = -1 by unfold ixI; rw [hn.out])
      go_wp2
      go_ret
      exact ⟨by rw [HR.out]; rfl, hb.out⟩

theorem okTo_no {u us : List ByteArray} {k : Nat} (hk : k < us.length) (h : okTo u us (k + 1) = false) : okTo u us us.length = false := by
  have : ∀ i, okTo u us (k + 1 + i) = false := by
    intro i
    induction i with
    | zero => exact h
    | succ i ih => rw [show k + 1 + (i + 1) = (k + 1 + i) + 1 by omega, okTo, ih, Bool.false_and]
  have h2 := this (us.length - (k + 1))
  rw [show k + 1 + (us.length - (k + 1)) = us.length by omega] at h2
  exact h2
set_option maxRecDepth 100000 in
set_option maxHeartbeats 4000000 in
theorem isDerivation_any {va vs v : Value} {xs : List Aff} {ss : List Stm} {stem : ByteArray} {us : List ByteArray} (W : World) (hg : Gram W va vs xs ss) (hu : Strs W v us) :
    Calls Try.prog 75 #[.agg #[va, vs], .agg #[.string stem, v]] W fun e w' => e = .returned (.bool (okD ss stem us)) ∧ Below W.heap.size W w' := by
  have hul := hu.len
  have hsl := hg.stms.len
  have HP := Shh.mk ((Blk.made W 48 #[va, vs]).alloc (.cells #[.string stem, v] 50))
  have hq := Blk.made (W.alloc (.cells #[va, vs] 48)) 50 #[.string stem, v]
  rw [World.size_alloc] at hq
  have HQ := Shh.mk hq
  have HB := Shh.mk (((Below.refl W.heap.size W).alloc (Nat.le_refl _) (.cells #[va, vs] 48)).alloc (by simp) (.cells #[.string stem, v] 50))
  have HG := Shh.mk ((hg.alloc (.cells #[va, vs] 48)).alloc (.cells #[.string stem, v] 50))
  have HU := Shh.mk ((hu.alloc (.cells #[va, vs] 48)).alloc (.cells #[.string stem, v] 50))
  have hp0 := HP.out.cells
  have hq0 := HQ.out.cells
  obtain ⟨⟨aa, ac, rfl, -, -, -⟩, ⟨sa, sc, rfl, -, -, -⟩⟩ := hg
  obtain ⟨ua, uc, rfl, -, -, -⟩ := hu
  clear hq
  cases hix : stemIx ss stem ss.length with
  | none =>
    have HI := Shh.mk (show ixI ss stem ss.length = -1 by unfold ixI; rw [hix])
    have HR := Shh.mk (okD_none (us := us) hix)
    clear hix
    go_enter Try.func75, Try.ntmps75
    go_wp2_with fail
    refine (indexStem_any _ HG.out.stms HQ.out).mono ?_
    rw [HI.out]
    rintro e w1 ⟨rfl, hb1⟩
    go_wp2
    go_ret
    exact ⟨ret_bool HR.out.symm, HB.out.trans (hb1.mono HB.out.size)⟩
  | some i' =>
    have HI := Shh.mk (show ixI ss stem ss.length = (i' : Int) by unfold ixI; rw [hix])
    have hR := okD_some (us := us) hix
    have hil := (stemIx_word hix).1
    have hi0 : ¬ (i' : Int) < 0 := by omega
    clear hix
    by_cases h2 : us.length ≤ 2
    · rw [decide_eq_true h2, Bool.true_and] at hR
      have HR := Shh.mk hR
      have h2i : ¬ (2 : Int) < (us.length : Int) := by omega
      clear hR
      go_enter Try.func75, Try.ntmps75
      go_wp2_with fail
      refine (indexStem_any _ HG.out.stms HQ.out).mono ?_
      rw [HI.out]
      rintro e w1 ⟨rfl, hb1⟩
      have HB1 := Shh.mk (HB.out.trans (hb1.mono HB.out.size))
      have HP1 := Shh.mk (HP.out.kept hb1 HP.out.lt)
      have HQ1 := Shh.mk (HQ.out.kept hb1 HQ.out.lt)
      have HG1 := Shh.mk (HG.out.below hb1)
      have HU1 := Shh.mk (HU.out.below hb1)
      have hp1 := HP1.out.cells
      have hq1 := HQ1.out.cells
      clear hb1 hp0 hq0
      go_wp2
      go_loopw [6, 7, 23] (fun _ _ i wr => ∃ k : Nat, k ≤ us.length ∧ i = .int .i64 k ∧ Shh (okTo (stmG ss i').uses us k = true) ∧ wr = w1) (fun _ _ i _ => us.length - (intOf i).toNat)
      case atStart => exact ⟨0, Nat.zero_le _, rfl, ⟨rfl⟩, rfl⟩
      case round =>
        obtain ⟨k, hk, rfl, ho, rfl⟩ := hrel
        by_cases hlt : k < us.length
        · obtain ⟨a', cap', hv, hcle, -, hcc0⟩ := HU1.out
          obtain ⟨bu, ou, hab, hbu, hcc⟩ := hcc0 (by omega)
          injection hv with hv1 _ hv3
          subst hv1
          subst hv3
          subst hab
          obtain ⟨a2, cap2, hv2, -, -, hcs0⟩ := HG1.out.stms
          obtain ⟨bs, os, hab2, hbs, hcs⟩ := hcs0 (by omega)
          injection hv2 with hw1 _ hw3
          subst hw1
          subst hw3
          subst hab2
          have ck := hcc k hlt
          obtain ⟨-, u, k1, hu⟩ := hcs i' hil
          have HUS := Shh.mk hu
          have HTK := Shh.mk (Strs.takeI HU1.out (k := k) (by omega))
          have HE := Shh.mk (inTo_take (us := us) (s := strAt us k) (k := k) (j := k) (Nat.le_refl _))
          have HSU : Shh (okTo (stmG ss i').uses us (k + 1) = (inTo (stmG ss i').uses (strAt us k) (stmG ss i').uses.length && !inTo us (strAt us k) k)) := ⟨by rw [okTo, ho.out, Bool.true_and]⟩
          have HNO := Shh.mk (fun (h : okTo (stmG ss i').uses us (k + 1) = false) => okTo_no (u := (stmG ss i').uses) hlt h)
          obtain ⟨us2, hus2⟩ : ∃ us2, (stmG ss i').uses = us2 := ⟨_, rfl⟩
          have HU2 := Shh.mk hus2
          rw [hus2] at HUS HSU HNO HR ho
          obtain ⟨y, hy⟩ : ∃ y, strAt us k = y := ⟨_, rfl⟩
          rw [hy] at ck HE HSU
          have hk0 : (0 : Int) ≤ (k : Int) := by omega
          have hkl : (k : Int) < (us.length : Int) := by omega
          have hkle : (k : Int) ≤ (uc : Int) := by omega
          have hii0 : (0 : Int) ≤ (i' : Int) := by omega
          have hiil : (i' : Int) < (ss.length : Int) := by omega
          obtain ⟨ua2, uc2, rfl, -, -, -⟩ := hu
          clear hcc hcc0 hcs hcs0 hus2 hy
          go_wp2_with fail
          refine (containsS_any y _ HUS.out).mono ?_
          cases hc1 : inTo us2 y us2.length
          · have HF := Shh.mk (HNO.out (by rw [HSU.out, hc1]; rfl))
            clear hc1
            rintro e w2 ⟨rfl, rfl⟩
            go_wp2
            go_ret
            exact ⟨ret_bool (by rw [HR.out, HF.out]), HB1.out⟩
          · have HC1 := Shh.mk hc1
            clear hc1
            rintro e w2 ⟨rfl, rfl⟩
            go_wp2_with fail
            refine (containsS_any y _ HTK.out).mono ?_
            rw [show inTo (us.take k) y (us.take k).length = inTo us y k by rw [List.length_take, Nat.min_eq_left (by omega)]; exact HE.out]
            cases hc2 : inTo us y k
            · have HN := Shh.mk (show okTo us2 us (k + 1) = true by rw [HSU.out, HC1.out, hc2]; rfl)
              clear hc2
              rintro e w3 ⟨rfl, rfl⟩
              go_wp2
              go_roundw
              case rel => exact ⟨k + 1, by omega, by go_num, by rw [HU2.out]; exact HN, by first | trivial | rfl⟩
              case measure => simp [intOf]; omega
            · have HF := Shh.mk (HNO.out (by rw [HSU.out, HC1.out, hc2]; rfl))
              clear hc2
              rintro e w3 ⟨rfl, rfl⟩
              go_wp2
              go_ret
              exact ⟨ret_bool (by rw [HR.out, HF.out]), HB1.out⟩
        · obtain rfl : k = us.length := by omega
          have HF := Shh.mk (ho.out)
          go_wp2
          go_ret
          exact ⟨ret_bool (by rw [HR.out, HF.out]), HB1.out⟩
    · rw [decide_eq_false h2, Bool.false_and] at hR
      have HR := Shh.mk hR
      have h2i : (2 : Int) < (us.length : Int) := by omega
      clear hR
      go_enter Try.func75, Try.ntmps75
      go_wp2_with fail
      refine (indexStem_any _ HG.out.stms HQ.out).mono ?_
      rw [HI.out]
      rintro e w1 ⟨rfl, hb1⟩
      have hq1 := (HQ.out.kept hb1 HQ.out.lt).cells
      clear hq0 hp0
      go_wp2
      go_ret
      exact ⟨ret_bool HR.out.symm, HB.out.trans (hb1.mono HB.out.size)⟩
end Go.Proofs.Ytilagppmljpclaa

namespace Go.Proofs.Ytilagppmljpclaa
open Go.RowKit Go.Lib

/-- The method value of an affix. -/
def stepV (x : Aff) : Value := .func (.func 134) #[x.val] #[]
theorem make_mapH (n : Int) (w : World) : (Instr.makeMap 104 (some (.int .i64 n))).run Try.prog w = .ok (.map (some w.heap.size)) (w.alloc (.map #[] 0)) := by
  simp [Instr.makeMap, run_underlying Try.underlying104, asInt, asIntOf]
/-- A map holds the steps of the first k affixes by their names. -/
structure Steps (w : World) (b n : Nat) (D : DataW Value) (xs : List Aff) (k : Nat) : Prop where
  map : w.ownsMap Try.prog 9 idR b n D
  here : ∀ j, j < k → D.atKey (.string (affG xs j).n.data.toList) (.held .nilFunc) = .held (stepV (affG xs j))
theorem Steps.below {w w' : World} {b n k : Nat} {D : DataW Value} {xs : List Aff} (h : Steps w b n D xs k) (hb : Below w.heap.size w w') : Steps w' b n D xs k := ⟨ownsMap_below h.map hb, h.here⟩
theorem fresh_ne {xs : List Aff} {i k : Nat} (h : freshB xs k = true) (hik : i < k) : ¬ (affG xs i).n = (affG xs k).n := fun e => by
  unfold freshB at h
  rw [knowsTo_mono hik (by rw [e]; exact strSame _)] at h
  cases h
theorem Steps.put {w w' : World} {b n k : Nat} {D : DataW Value} {xs : List Aff} (h : Steps w b n D xs k) (hf : freshB xs k = true) (hm : w'.ownsMap Try.prog 9 idR b (n + 1) (D.put (.string (affG xs k).n.data.toList) (.held (stepV (affG xs k))))) :
    Steps w' b (n + 1) (D.put (.string (affG xs k).n.data.toList) (.held (stepV (affG xs k)))) xs (k + 1) := by
  refine ⟨hm, fun j hj => ?_⟩
  rcases Nat.lt_or_ge j k with h1 | h1
  · rw [Maps.atKey_put_other (lit_ne (fresh_ne hf h1))]
    exact h.here j h1
  · obtain rfl : j = k := by omega
    exact Maps.atKey_put_same h.map.isMap (show WideAt.IsKeyLit (.string (affG xs j).n.data.toList) from trivial) _ _
theorem aff_val (x : Aff) : (Value.func (.func 134) #[.agg #[.string x.n, .bool x.f, .string x.w, .string x.s, .string x.a]] #[]) = stepV x := rfl

/-- A look-up in a map that the call has made, read as it is, whatever the zero value. -/
theorem wpList_lookup_any {P : Program} (w : World) {ops : Array Oper} {rest : List Oper} {o : Oper} {a : Act} {Q : Exit → Act → World → Prop}
    (hg : o.guard = none) (m x : Operand) (t : TypeId) (hop : o.op = Op.lookup t m x false)
    (k e : TypeId) (K : Maps.Keyed P k) (ht : P.underlying t = some (.map k e)) (z : Value) (hz : (zeroValue e).run P w = .ok z w) (b n : Nat) (D : DataW Value)
    (hm : a.eval m = .map (some b)) (hown : w.ownsMap P k idR b n D) (key : Value) (kl : Lit) (hx : a.eval x = key) (hkey : Go.keyOf P k key = some kl)
    (hK : ∀ v : Value, D.atKey kl (.held z) = .held v → wpList P ops Q rest (a.put o.dst v) w) :
    wpList P ops Q (o :: rest) a w := by
  refine wpList_plain hg fun K' hK' => ?_
  obtain ⟨v, ps, hrun, hR⟩ := hown.lookup K ht hz (zd := .held z) (zp := []) rfl hkey
  have hat : D.atKey kl (.held z) = .held v := by
    unfold idR at hR
    injection hR with hR
    injection hR with h1 _
    exact h1.symm
  unfold Oper.wp
  simp [execOp, hop, hm, hx, hrun, Result.andThen]
  exact hK' _ _ (hK v hat)
theorem zeroStep (w : World) : (zeroValue 186).run Try.prog w = .ok .nilFunc w := by kernel_rfl

/-- All names are fresh and of a name's length. -/
structure Names (xs : List Aff) : Prop where
  fresh : ∀ k, k < xs.length → freshB xs k = true
  small : ∀ k, k < xs.length → (affG xs k).n.size ≤ maxLen
set_option maxRecDepth 100000 in
set_option maxHeartbeats 2000000 in
theorem stepsByName_any {va vs : Value} {xs : List Aff} {ss : List Stm} (W : World) (hg : Gram W va vs xs ss) (hn : Names xs) (hx : xs.length ≤ 1000) :
    Calls Try.prog 77 #[.agg #[va, vs]] W fun e w' => e = .returned (.map (some (W.heap.size + 1))) ∧ (∃ n D, Steps w' (W.heap.size + 1) n D xs xs.length) ∧ Below W.heap.size W w' := by
  have HNM := Shh.mk hn
  have HB0 := Shh.mk ((Below.refl W.heap.size W).alloc (Nat.le_refl _) (.cells #[va, vs] 48))
  have HP := Shh.mk (Blk.made W 48 #[va, vs])
  have hp0 := HP.out.cells
  have hp1 := (HP.out.alloc (.map #[] 0)).cells
  have hmm := fun w => make_mapH (xs.length : Int) w
  have hm0 : (((W.alloc (.cells #[va, vs] 48)).alloc (.map #[] 0)).ownsMap Try.prog 9 idR (W.alloc (.cells #[va, vs] 48)).heap.size 0 (.map [])) := World.ownsMap_made _ _ _ _
  rw [World.size_alloc] at hm0
  have HS0 := Shh.mk (show Steps ((W.alloc (.cells #[va, vs] 48)).alloc (.map #[] 0)) (W.heap.size + 1) 0 (.map []) xs 0 from ⟨hm0, fun j hj => absurd hj (by omega)⟩)
  have HB1 := Shh.mk (HB0.out.alloc (by simp) (.map #[] 0))
  obtain ⟨⟨aa, ac, rfl, hal, ham, hac⟩, ⟨sa, sc, rfl, -, -, -⟩⟩ := hg
  have HCA := Shh.mk hac
  clear hac hm0 hn
  go_enter Try.func77, Try.ntmps77
  go_wp2
  go_loopw [5, 13] (fun _ i wr => ∃ (k n : Nat) (D : DataW Value), k ≤ xs.length ∧ n ≤ k ∧ i = .int .i64 k ∧ Shh (Steps wr (W.heap.size + 1) n D xs k) ∧ Shh (Below W.heap.size W wr) ∧ W.heap.size + 2 ≤ wr.heap.size) (fun _ i _ => xs.length - (intOf i).toNat)
  case atStart => exact ⟨0, 0, .map [], Nat.zero_le _, Nat.le_refl _, rfl, HS0, HB1, by simp⟩
  case round =>
    obtain ⟨k, n, D, hk, hnk, rfl, hst, hb, hsz⟩ := hrel
    by_cases hlt : k < xs.length
    · obtain ⟨ba, oa, rfl, hba, hcc⟩ := HCA.out (by omega)
      have ha := AffAt.below (hcc k hlt) hb.out hba
      have hfr := HNM.out.fresh k hlt
      have hkey := WideMaps.keyOf_string_mk Try.underlying9 (HNM.out.small k hlt)
      have HPUT := Shh.mk (fun (w' : World) hm => Steps.put (w' := w') hst.out hfr hm)
      have HVAL := Shh.mk (aff_val (affG xs k))
      obtain ⟨y, hy⟩ : ∃ y, affG xs k = y := ⟨_, rfl⟩
      rw [hy] at ha hkey HPUT HVAL
      have HM := Shh.mk (ownsMap_below hst.out.map ((Below.refl wr.heap.size wr).alloc (Nat.le_refl _) (.cells #[.string y.n, .bool y.f, .string y.w, .string y.s, .string y.a] 171)))
      have HB2 := Shh.mk (hb.out.alloc hb.out.size (.cells #[.string y.n, .bool y.f, .string y.w, .string y.s, .string y.a] 171))
      obtain ⟨yn, yf, yw, ys, ya⟩ := y
      obtain ⟨c0, c1, c2, c3, c4⟩ := ha
      simp only at c0 c1 c2 c3 c4 hkey HM HB2
      clear hcc hy hfr hst hb
      go_wp2_with (at_mapUpdate; refine wpList_mapUpdate_own _ rfl _ _ _ 104 rfl 9 186 (Maps.string_keyed Try.underlying9) Try.underlying104 idR (W.heap.size + 1) n D rfl HM.out (by unfold maxLen; omega) _ _ _ rfl rfl hkey (.held (stepV ⟨yn, yf, yw, ys, ya⟩)) [] rfl ?_; intro w4 hm4 hg4)
      have HS4 := Shh.mk (HPUT.out w4 hm4)
      have HB4 := Shh.mk (HB2.out.grown hg4 HB2.out.size (fun j hj => by cases hj; omega))
      have hsz4 : W.heap.size + 2 ≤ w4.heap.size := by have := hg4.size; simp at this; omega
      clear hm4 hg4
      go_wp2
      go_roundw
      case rel => exact ⟨k + 1, n + 1, _, by omega, by omega, by go_num, HS4, HB4, hsz4⟩
      case measure => simp [intOf]; omega
    · obtain rfl : k = xs.length := by omega
      go_wp2
      go_ret
      exact ⟨rfl, ⟨n, D, hst.out⟩, hb.out⟩
end Go.Proofs.Ytilagppmljpclaa

namespace Go.Proofs.Ytilagppmljpclaa
open Go.RowKit Go.Lib

/-- The steps of some names. -/
def stepsOf (xs : List Aff) (us : List ByteArray) : List Value := us.map fun u => stepV (affG xs (idxOf xs u))
theorem stepsOf_len (xs : List Aff) (us : List ByteArray) : (stepsOf xs us).length = us.length := by simp [stepsOf]
theorem stepsOf_take {xs : List Aff} {us : List ByteArray} {k : Nat} (h : k < us.length) : stepsOf xs (us.take (k + 1)) = stepsOf xs (us.take k) ++ [stepV (affG xs (idxOf xs (strAt us k)))] := by
  unfold stepsOf
  rw [List.take_succ_eq_append_getElem h, List.map_append, List.map_singleton, strAt_eq h]
theorem stepsOf_at {xs : List Aff} {us : List ByteArray} {k : Nat} (h : k < us.length) : (stepsOf xs us)[k]? = some (stepV (affG xs (idxOf xs (strAt us k)))) := by
  unfold stepsOf
  rw [List.getElem?_map, List.getElem?_eq_getElem h, strAt_eq h]
  rfl
theorem info_step : (Try.prog.info? 186).map (fun i => (i.zero, i.size, i.bytes)) = some (some .nilFunc, 1, 8) := by kernel_rfl
/-- All affixes are as long as an affix is. -/
structure Shortish (xs : List Aff) : Prop where
  w : ∀ k, k < xs.length → (affG xs k).w.size ≤ maxLen
  a : ∀ k, k < xs.length → (affG xs k).a.size ≤ 1000

set_option maxRecDepth 100000 in
set_option maxHeartbeats 2000000 in
theorem follow_any {B : Nat} {v : Value} {xs : List Aff} {us : List ByteArray} (word : ByteArray) (W : World) (h : W.ownsRow B 186 1 v us.length (stepsOf xs us)) (hx : Shortish xs) (hi : ∀ u ∈ us, idxOf xs u < xs.length) (hw : word.size ≤ 1000) :
    Calls Try.prog 133 #[.string word, v] W fun e w' => e = .returned (retX (wordX xs us word)) ∧ Below W.heap.size W w' := by
  have HO := Shh.mk h
  have HX := Shh.mk hx
  have HI := Shh.mk hi
  obtain ⟨a, cap, rfl, h1, h2, h3⟩ := own_form h
  have hl : us.length ≤ 9223372036854775807 := by unfold maxLen at h2; omega
  have H3 := Shh.mk h3
  clear h h3 hx hi
  go_enter Try.func133, Try.ntmps133
  go_wp2
  go_loopw [0, 7, 8, 9, 12] (fun t _ _ _ i wr => ∃ (k : Nat) (wd : ByteArray), k ≤ us.length ∧ i = .int .i64 k ∧ t = .string wd ∧ Shh (wordX xs (us.drop k) wd = wordX xs us word) ∧ wd.size ≤ 1000 ∧ Shh (Below W.heap.size W wr)) (fun _ _ _ _ i _ => us.length - (intOf i).toNat)
  case atStart => exact ⟨0, word, Nat.zero_le _, rfl, rfl, ⟨by rw [List.drop_zero]⟩, hw, ⟨Below.refl _ _⟩⟩
  case round =>
    obtain ⟨k, wd, hk, rfl, rfl, he, hwd, hb⟩ := hrel
    by_cases hlt : k < us.length
    · obtain ⟨g, rfl, -, hgl⟩ := H3.out (by omega)
      have ck : wr.cell? ⟨g, k, none⟩ = some (stepV (affG xs (idxOf xs (strAt us k)))) := by
        rw [hb.out.cell (p := ⟨g, k, none⟩) hgl, World.ownsRow.cellAt (size := 1) HO.out k (by omega), stepsOf_at hlt]
      have hz := HI.out _ (strAt_mem hlt)
      have hzw := HX.out.w _ hz
      have hza := HX.out.a _ hz
      have HOK := Shh.mk (fun (nx : ByteArray) h => wordX_ok (xs := xs) (us := us) (word := wd) (nx := nx) hlt h)
      have HBAD := Shh.mk (fun (nx : ByteArray) (c : Int) h hc => wordX_bad (xs := xs) (us := us) (word := wd) (nx := nx) (c := c) hlt h hc)
      obtain ⟨y, hy⟩ : ∃ y, affG xs (idxOf xs (strAt us k)) = y := ⟨_, rfl⟩
      rw [hy] at ck hzw hza HOK HBAD
      obtain ⟨yn, yf, yw, ys, ya⟩ := y
      simp only at hzw hza
      obtain ⟨⟨nx, c⟩, hap⟩ : ∃ p, applyA ⟨yn, yf, yw, ys, ya⟩ wd = p := ⟨_, rfl⟩
      have HAP := Shh.mk (show applyX yf yw ys ya wd = (nx, c) from hap)
      rw [hap] at HOK HBAD
      have ck' : wr.cell? ⟨g, k, none⟩ = some (.func (.func 134) #[.agg #[.string yn, .bool yf, .string yw, .string ys, .string ya]] #[]) := ck
      clear ck hap hy hz
      go_wp2_with fail
      refine (applyI HAP.out _ hzw hza hwd).mono ?_
      rintro e w1 ⟨rfl, hb1⟩
      have HB1 := Shh.mk (hb.out.trans (hb1.mono hb.out.size))
      clear hb1 ck'
      unfold retX
      by_cases hc : c = 0
      · subst hc
        have HN := Shh.mk ((HOK.out nx rfl).symm.trans he.out)
        have hnx : nx.size ≤ 1000 := by have := applyX_ok_size HAP.out; omega
        go_wp2
        go_roundw
        case rel => exact ⟨k + 1, nx, by omega, by go_num, rfl, HN, hnx, HB1⟩
        case measure => simp [intOf]; omega
      · have HR := Shh.mk (he.out.symm.trans (HBAD.out nx c rfl hc))
        have hcb : (c != 0) = true := by simp [hc]
        clear hc
        go_wp2
        go_ret2
        exact ⟨by rw [HR.out]; rfl, HB1.out⟩
    · obtain rfl : k = us.length := by omega
      have HR := Shh.mk (show wordX xs us word = (wd, 0) by
        have := he.out
        rw [List.drop_length] at this
        exact this.symm)
      go_wp2
      go_ret2
      exact ⟨by rw [HR.out]; rfl, hb.out⟩

theorem known_idx {xs : List Aff} {u : ByteArray} (hnm : Names xs) (h : knowsTo xs u xs.length = true) : ∃ j, j < xs.length ∧ (affG xs j).n = u ∧ idxOf xs u = j := by
  obtain ⟨j, hj, e⟩ := knowsTo_at h
  have e2 := bytes_same e
  refine ⟨j, hj, e2, ?_⟩
  unfold idxOf
  rw [← e2, find_fresh (hnm.fresh j hj) hj]
  rfl
theorem append_step {ops : Array Oper} {rest : List Oper} {o : Oper} {a : Act} {Q : Exit → Act → World → Prop} {B : Nat} {W : World} (hgd : o.guard = none) (s x : Operand)
    (ho : o.op = .call { callee := .builtin .append, args := #[s, x], argTypes := #[184, 184] })
    (v : Value) (fs : List Value) (y : Aff) (hs : a.eval s = v) (hx : a.eval x = .slice (some ⟨W.heap.size, 0, none⟩) 1 1)
    (hown : W.ownsRow B 186 1 v fs.length fs) (hlen : fs.length ≤ 1000) (hB : B ≤ W.heap.size)
    (h : ∀ v' w', w'.ownsRow B 186 1 v' (fs ++ [stepV y]).length (fs ++ [stepV y]) → (∀ w0, Below B w0 W → Below B w0 w') → wpList Try.prog ops Q rest (a.put o.dst v') w') :
    wpList Try.prog ops Q (o :: rest) a (W.alloc (.cells #[stepV y] 186)) := by
  obtain ⟨i0, hi, hz0, hz1, hz2⟩ := info_parts info_step
  refine wpList_append_own _ hgd s x 184 ho B 186 i0 .nilFunc 1 8 Try.underlying184 hi hz0 hz1 hz2 rfl (by decide) v fs.length fs hs (World.ownsRow.alloc hown _) ⟨W.heap.size, 0, none⟩ 1 1 [stepV y] hx rfl ?_ ?_ ?_ ?_ ?_ ?_
  · exact cell_one_new _ _ _
  · intro u hu; simp at hu; subst hu; rfl
  · simp [maxLen]; omega
  · omega
  · simp; omega
  · intro v' w' ho' hg _
    refine h v' w' ?_ fun w0 h0 => (h0.alloc hB _).grown hg (by simp; omega) (fun k hk => (World.ownsRow.lt hown k hk).1)
    rw [List.length_append, List.length_singleton]
    exact ho'
set_option maxRecDepth 100000 in
set_option maxHeartbeats 2000000 in
theorem derive_any {b n : Nat} {D : DataW Value} {v : Value} {xs : List Aff} {us : List ByteArray} {stem : ByteArray} (W : World) (hst : Steps W b n D xs xs.length) (hu : Strs W v us) (hx : Shortish xs) (hnm : Names xs)
    (hi : ∀ u ∈ us, knowsTo xs u xs.length = true) (hul : us.length ≤ 2) (hw : stem.size ≤ 1000) :
    Calls Try.prog 76 #[.map (some b), .agg #[.string stem, v]] W fun e w' => e = .returned (retX (wordX xs us stem)) ∧ Below W.heap.size W w' := by
  have hb0 := hst.map.lt
  have HB0 := Shh.mk ((Below.refl W.heap.size W).alloc (Nat.le_refl _) (.cells #[.string stem, v] 50))
  have HQ := Shh.mk (Blk.made W 50 #[.string stem, v])
  have hq0 := HQ.out.cells
  have HST := Shh.mk hst
  have HU := Shh.mk hu
  have HX := Shh.mk hx
  have HNM := Shh.mk hnm
  have HI := Shh.mk hi
  have hw1000 := hw
  obtain ⟨ua, uc, rfl, -, -, huc⟩ := hu
  have HUC := Shh.mk huc
  clear hst huc hx hnm hi
  go_enter Try.func76, Try.ntmps76
  go_wp2
  go_loopw [6, 8, 12] (fun f _ i wr => ∃ (k : Nat), k ≤ us.length ∧ i = .int .i64 k ∧ Shh (wr.ownsRow (W.heap.size + 1) 186 1 f (stepsOf xs (us.take k)).length (stepsOf xs (us.take k))) ∧ Shh (Below W.heap.size W wr) ∧ Shh (Blk wr W.heap.size 50 #[.string stem, .slice ua us.length uc]) ∧ W.heap.size + 1 ≤ wr.heap.size) (fun _ _ i _ => us.length - (intOf i).toNat)
  case atStart => exact ⟨0, Nat.zero_le _, rfl, ⟨World.ownsRow_nil _ _ _ _⟩, HB0, HQ, by simp⟩
  case round =>
    obtain ⟨k, hk, rfl, ho, hb, hq, hsz⟩ := hrel
    by_cases hlt : k < us.length
    · obtain ⟨bu, ou, rfl, hbu, hcc⟩ := HUC.out (by omega)
      have ck := (hb.out.cell (p := ⟨bu, ou + k, none⟩) hbu).trans (hcc k hlt)
      have HTK := Shh.mk (stepsOf_take (xs := xs) hlt)
      obtain ⟨j, hj, hjn, hji⟩ := known_idx HNM.out (HI.out _ (strAt_mem hlt))
      have hsm := HNM.out.small j hj
      have hat := HST.out.here j hj
      rw [hjn] at hat hsm
      rw [hji] at HTK
      obtain ⟨z, hz⟩ : ∃ z, strAt us k = z := ⟨_, rfl⟩
      rw [hz] at ck hat hsm
      have hkey := WideMaps.keyOf_string_mk Try.underlying9 hsm
      have HAT := Shh.mk hat
      have HM := Shh.mk (ownsMap_below HST.out.map hb.out)
      obtain ⟨fs, hfs⟩ : ∃ fs, stepsOf xs (us.take k) = fs := ⟨_, rfl⟩
      rw [hfs] at HTK ho
      have hfl : fs.length ≤ 1000 := by rw [← hfs, stepsOf_len, List.length_take]; omega
      clear hcc hat hz hfs hjn hji
      go_wp2_with (first
        | (at_lookup; refine wpList_lookup_any _ rfl _ _ 104 rfl 9 186 (Maps.string_keyed Try.underlying9) Try.underlying104 .nilFunc (zeroStep _) b n D rfl HM.out _ _ rfl hkey ?_; intro v0 hv0; obtain rfl : (Value.func (.func 134) #[(affG xs j).val] #[]) = v0 := (by rw [HAT.out] at hv0; injection hv0))
        | (at_builtin; (refine append_step rfl _ _ rfl _ fs (affG xs j) rfl rfl ho.out hfl hsz ?_; intro v' w2 ho2 hb2)))
      have HO2 := Shh.mk ho2
      have hbq := Shh.mk (hb2 _ (Below.refl (W.heap.size + 1) wr))
      have HB2 := Shh.mk (hb.out.trans (hbq.out.mono (by omega)))
      have HQ2 := Shh.mk (hq.out.kept hbq.out (by omega))
      have hsz2 : W.heap.size + 1 ≤ w2.heap.size := Nat.le_trans hsz hbq.out.size
      clear ho2 hb2 ck
      go_wp2
      go_roundw
      case rel => exact ⟨k + 1, by omega, by go_num, by rw [HTK.out]; exact HO2, HB2, HQ2, hsz2⟩
      case measure => simp [intOf]; omega
    · obtain rfl : k = us.length := by omega
      have ho := ho.out
      rw [List.take_length, stepsOf_len] at ho
      have HO := Shh.mk ho
      have hq1 := hq.out.cells
      obtain ⟨fa, fc, rfl, -, -, -⟩ := own_form ho
      have HIX := Shh.mk (show ∀ u ∈ us, idxOf xs u < xs.length from fun u hu => by
        obtain ⟨j, hj, -, e⟩ := known_idx HNM.out (HI.out u hu)
        rw [e]
        exact hj)
      clear ho
      go_wp2_with fail
      refine (follow_any stem _ HO.out HX.out HIX.out hw1000).mono ?_
      rintro e w3 ⟨rfl, hb3⟩
      obtain ⟨⟨r, c⟩, hr⟩ : ∃ p, wordX xs us stem = p := ⟨_, rfl⟩
      have HRR := Shh.mk hr
      rw [hr]
      unfold retX
      clear hr
      go_wp2
      go_ret2
      exact ⟨by rw [HRR.out]; rfl, hb.out.trans (hb3.mono hb.out.size)⟩
end Go.Proofs.Ytilagppmljpclaa

namespace Go.Proofs.Ytilagppmljpclaa
open Go.RowKit Go.Lib

theorem names_of {xs : List Aff} {ss : List Stm} (h : okG xs ss = true) : Names xs ∧ Shortish xs ∧ xs.length ≤ 1000 := by
  have h1 := (okG_split h).1
  have h2 : ∀ k, k < xs.length → affB (affG xs k).n (affG xs k).w (affG xs k).s (affG xs k).a = true ∧ freshB xs k = true := fun k hk => by
    have := h1 k hk
    unfold okA at this
    rw [Bool.and_eq_true] at this
    exact this
  refine ⟨⟨fun k hk => (h2 k hk).2, fun k hk => ?_⟩, ⟨fun k hk => ?_, fun k hk => ?_⟩, ?_⟩
  · have h3 := (h2 k hk).1
    simp only [affB, Bool.and_eq_true] at h3
    have h4 := h3.1.1.1.1
    simp only [isNameB, Bool.and_eq_true, decide_eq_true_eq] at h4
    have := h4.1.2
    rw [Array.length_toList] at this
    unfold maxLen
    exact Nat.le_trans this (by decide)
  · have h3 := (h2 k hk).1
    simp only [affB, Bool.and_eq_true] at h3
    have := partB_size h3.1.1.1.2
    unfold maxLen
    omega
  · have h3 := (h2 k hk).1
    simp only [affB, Bool.and_eq_true] at h3
    have := partB_size h3.1.2
    omega
  · rcases Nat.lt_or_ge 12 xs.length with h3 | h3
    · rw [okG_len (fun e => by omega)] at h; cases h
    · omega
theorem okD_two {ss : List Stm} {stem : ByteArray} {us : List ByteArray} (h : okD ss stem us = true) : us.length ≤ 2 := by
  unfold okD at h
  split at h
  · cases h
  · rw [Bool.and_eq_true, decide_eq_true_eq] at h
    exact h.1
theorem validG_is {va vs : Value} {xs : List Aff} {ss : List Stm} {b : Bool} (h : okG xs ss = b) (W : World) (hg : Gram W va vs xs ss) (hx : ∀ x ∈ xs, AffFine x) (hs : ∀ x ∈ ss, StmFine x) :
    Calls Try.prog 74 #[.agg #[va, vs]] W fun e w' => e = .returned (.bool b) ∧ Below W.heap.size W w' := by rw [← h]; exact implValidGrammar_any W hg hx hs
theorem isDer_is {va vs v : Value} {xs : List Aff} {ss : List Stm} {stem : ByteArray} {us : List ByteArray} {b : Bool} (h : okD ss stem us = b) (W : World) (hg : Gram W va vs xs ss) (hu : Strs W v us) :
    Calls Try.prog 75 #[.agg #[va, vs], .agg #[.string stem, v]] W fun e w' => e = .returned (.bool b) ∧ Below W.heap.size W w' := by rw [← h]; exact isDerivation_any W hg hu
theorem steps_on {va vs : Value} {xs : List Aff} {ss : List Stm} (a w : World) (hb : Below a.heap.size a w) (hg : Gram a va vs xs ss) (hn : Names xs) (hx : xs.length ≤ 1000) :
    Calls Try.prog 77 #[.agg #[va, vs]] w fun e w' => ∃ b n D, e = .returned (.map (some b)) ∧ Steps w' b n D xs xs.length ∧ Below a.heap.size a w' :=
  (stepsByName_any w (hg.below hb) hn hx).mono fun _ _ ⟨h1, ⟨n, D, h2⟩, h3⟩ => ⟨_, n, D, h1, h2, hb.trans (h3.mono hb.size)⟩
theorem derive_on {b n : Nat} {D : DataW Value} {v : Value} {xs : List Aff} {us : List ByteArray} {stem r : ByteArray} {c : Int} (hr : wordX xs us stem = (r, c)) (a w : World) (hb : Below a.heap.size a w) (hst : Steps w b n D xs xs.length) (hu : Strs a v us) (hx : Shortish xs) (hnm : Names xs)
    (hi : ∀ u ∈ us, knowsTo xs u xs.length = true) (hul : us.length ≤ 2) (hw : stem.size ≤ 1000) :
    Calls Try.prog 76 #[.map (some b), .agg #[.string stem, v]] w fun e w' => e = .returned (.tuple #[.string r, .int .i64 c]) ∧ Below a.heap.size a w' := by
  have := derive_any w hst (hu.below hb) hx hnm hi hul hw
  rw [hr] at this
  exact this.mono fun _ _ ⟨h1, h2⟩ => ⟨h1, hb.trans (h2.mono hb.size)⟩

set_option maxRecDepth 100000 in
set_option maxHeartbeats 4000000 in
theorem implWordOf_any {va vs v : Value} {xs : List Aff} {ss : List Stm} {stem : ByteArray} {us : List ByteArray} (W : World) (hg : Gram W va vs xs ss) (hx : ∀ x ∈ xs, AffFine x) (hs : ∀ x ∈ ss, StmFine x) (hu : Strs W v us) :
    Calls Try.prog 25 #[.agg #[va, vs], .agg #[.string stem, v]] W fun e w' => e = .returned (retX (wordOut xs ss stem us)) ∧ Below W.heap.size W w' := by
  have HP := Shh.mk ((Blk.made W 48 #[va, vs]).alloc (.cells #[.string stem, v] 50))
  have hq := Blk.made (W.alloc (.cells #[va, vs] 48)) 50 #[.string stem, v]
  rw [World.size_alloc] at hq
  have HQ := Shh.mk hq
  have HB := Shh.mk (((Below.refl W.heap.size W).alloc (Nat.le_refl _) (.cells #[va, vs] 48)).alloc (by simp) (.cells #[.string stem, v] 50))
  have HG := Shh.mk ((hg.alloc (.cells #[va, vs] 48)).alloc (.cells #[.string stem, v] 50))
  have HU := Shh.mk ((hu.alloc (.cells #[va, vs] 48)).alloc (.cells #[.string stem, v] 50))
  have hp0 := HP.out.cells
  have hq0 := HQ.out.cells
  obtain ⟨⟨aa, ac, rfl, -, -, -⟩, ⟨sa, sc, rfl, -, -, -⟩⟩ := hg
  obtain ⟨ua, uc, rfl, -, -, -⟩ := hu
  clear hq
  cases hok : okG xs ss
  · have HO := Shh.mk hok
    have HR := Shh.mk (wordOut_bad (stem := stem) (us := us) hok)
    clear hok
    go_enter Try.func25, Try.ntmps25
    go_wp2_with fail
    refine (validG_is HO.out _ HG.out hx hs).mono ?_
    rintro e w1 ⟨rfl, hb1⟩
    go_wp2
    go_ret2
    exact ⟨by rw [HR.out]; rfl, HB.out.trans (hb1.mono HB.out.size)⟩
  · have HO := Shh.mk hok
    cases hd : okD ss stem us
    · have HD := Shh.mk hd
      have HR := Shh.mk (wordOut_no hok hd)
      clear hok hd
      go_enter Try.func25, Try.ntmps25
      go_wp2_with fail
      refine (validG_is HO.out _ HG.out hx hs).mono ?_
      rintro e w1 ⟨rfl, hb1⟩
      have hp1 := (HP.out.kept hb1 HP.out.lt).cells
      have hq1 := (HQ.out.kept hb1 HQ.out.lt).cells
      have HB1 := Shh.mk (HB.out.trans (hb1.mono HB.out.size))
      have HG1 := Shh.mk (HG.out.below hb1)
      have HU1 := Shh.mk (HU.out.below hb1)
      clear hb1 hp0 hq0
      go_wp2_with fail
      refine (isDer_is HD.out _ HG1.out HU1.out).mono ?_
      rintro e w2 ⟨rfl, hb2⟩
      go_wp2
      go_ret2
      exact ⟨by rw [HR.out]; rfl, HB1.out.trans (hb2.mono HB1.out.size)⟩
    · have HD := Shh.mk hd
      have HR := Shh.mk (wordOut_yes hok hd)
      have HN := Shh.mk (names_of hok)
      have HKN := Shh.mk (okD_known hok hd)
      have HTW := Shh.mk (okD_two hd)
      obtain ⟨⟨r, c⟩, hr⟩ : ∃ p, wordX xs us stem = p := ⟨_, rfl⟩
      have HRR := Shh.mk hr
      clear hok hd hr
      go_enter Try.func25, Try.ntmps25
      go_wp2_with fail
      refine (validG_is HO.out _ HG.out hx hs).mono ?_
      rintro e w1 ⟨rfl, hb1⟩
      have HP1 := Shh.mk (HP.out.kept hb1 HP.out.lt)
      have HQ1 := Shh.mk (HQ.out.kept hb1 HQ.out.lt)
      have hp1 := HP1.out.cells
      have hq1 := HQ1.out.cells
      have HB1 := Shh.mk (HB.out.trans (hb1.mono HB.out.size))
      have HG1 := Shh.mk (HG.out.below hb1)
      have HU1 := Shh.mk (HU.out.below hb1)
      clear hb1 hp0 hq0
      go_wp2_with fail
      refine (isDer_is HD.out _ HG1.out HU1.out).mono ?_
      rintro e w2 ⟨rfl, hb2⟩
      have HP2 := Shh.mk (HP1.out.kept hb2 HP1.out.lt)
      have HQ2 := Shh.mk (HQ1.out.kept hb2 HQ1.out.lt)
      have HB2 := Shh.mk (HB1.out.trans (hb2.mono HB1.out.size))
      have HG2 := Shh.mk (HG1.out.below hb2)
      have HU2 := Shh.mk (HU1.out.below hb2)
      have HK := Shh.mk (fun w' (hb : Below w2.heap.size w2 w') => (⟨(HP2.out.kept hb HP2.out.lt).cells 0, (HP2.out.kept hb HP2.out.lt).cells 1, (HQ2.out.kept hb HQ2.out.lt).cells 0, (HQ2.out.kept hb HQ2.out.lt).cells 1⟩ :
        w'.cell? ⟨W.heap.size, 0, none⟩ = some (.slice aa xs.length ac) ∧ w'.cell? ⟨W.heap.size, 1, none⟩ = some (.slice sa ss.length sc) ∧ w'.cell? ⟨W.heap.size + 1, 0, none⟩ = some (.string stem) ∧ w'.cell? ⟨W.heap.size + 1, 1, none⟩ = some (.slice ua us.length uc)))
      clear hb2 hp1 hq1
      go_wp2
      go_region_held3 (fun w' => w'.cell? ⟨W.heap.size, 0, none⟩ = some (.slice aa xs.length ac) ∧ w'.cell? ⟨W.heap.size, 1, none⟩ = some (.slice sa ss.length sc) ∧ w'.cell? ⟨W.heap.size + 1, 0, none⟩ = some (.string stem) ∧ w'.cell? ⟨W.heap.size + 1, 1, none⟩ = some (.slice ua us.length uc))
        (exact HK.out _ (by first | assumption | exact (Below.refl _ _).drew))
        (first
          | (go_at_call 77; refine (steps_on w2 _ (by first | assumption | exact (Below.refl _ _).drew) HG2.out HN.out.1 HN.out.2.2).mono ?_; rintro e w3 ⟨bm, n, D, rfl, hst, hb3⟩)
          | (go_at_call 76; refine (derive_on HRR.out w2 _ (by assumption) hst HU2.out HN.out.2.1 HN.out.1 HKN.out.2 HTW.out HKN.out.1).mono ?_; rintro e w4 ⟨rfl, hb4⟩))
      all_goals
        go_wp2
        go_ret2
        exact ⟨by rw [HR.out, HRR.out]; rfl, HB2.out.trans (hb4.mono HB2.out.size)⟩
end Go.Proofs.Ytilagppmljpclaa

namespace Go.Proofs.Ytilagppmljpclaa
open Go.ChangeShapes Go.WideShapes Go.ChangeAt Go.RowKit Go.Joins Go.Deep

set_option maxHeartbeats 1000000 in
theorem szDer_any {u : Value} (n : ByteArray) (us : List ByteArray) (left : Int) (w : World) (hu : Strs w u us) (hn : n.size ≤ maxLen) (hz : ∀ s ∈ us, s.size ≤ maxLen) (h0 : 0 ≤ left) (h1 : left ≤ 1048576) :
    Calls Try.prog 21 #[.agg #[.string n, u], .int .i64 left] w fun e w' => e = .returned (.int .i64 (szN left (stmW ⟨n, us⟩))) ∧ Below w.heap.size w w' := by
  have hU := Shh.mk (hu.alloc (.cells #[.string n, u] 41))
  have hB0 := (Below.refl w.heap.size w).alloc (Nat.le_refl _) (.cells #[.string n, u] 41)
  have hW : stmW ⟨n, us⟩ = n.size + strsW us := rfl
  have HW := Shh.mk hW
  clear hW
  obtain ⟨ua, uc, rfl, -⟩ := hu
  unfold maxLen at hn
  by_cases hA : left - (n.size : Int) < 0
  · have HR := Shh.mk (szN_no (left := left) (n := stmW ⟨n, us⟩) (by rw [HW.out]; omega))
    go_enter Try.func21, Try.ntmps21
    go_wp2
    go_ret
    exact ⟨ret_i64 HR.out.symm, hB0⟩
  · by_cases hC : left - (n.size : Int) < ((strsW us : Nat) : Int)
    · have HR := Shh.mk (szN_no (left := left) (n := stmW ⟨n, us⟩) (by rw [HW.out]; omega))
      have HZ := Shh.mk (szN_no hC)
      clear hC
      go_enter Try.func21, Try.ntmps21
      go_wp2_with fail
      refine (szStringS_any (left - (n.size : Int)) _ hU.out hz (by omega) (by omega)).mono ?_
      rw [HZ.out]
      rintro e w' ⟨rfl, rfl⟩
      go_wp2
      go_ret
      exact ⟨ret_i64 HR.out.symm, hB0⟩
    · have HR := Shh.mk ((szN_yes (left := left) (n := stmW ⟨n, us⟩) (by rw [HW.out]; omega)).trans (show _ = left - (n.size : Int) - (strsW us : Nat) by rw [HW.out]; omega))
      have HZ := Shh.mk (szN_yes hC)
      have hnn : ¬ (left - (n.size : Int) - (strsW us : Nat) < 0) := by omega
      clear hC
      go_enter Try.func21, Try.ntmps21
      go_wp2_with fail
      refine (szStringS_any (left - (n.size : Int)) _ hU.out hz (by omega) (by omega)).mono ?_
      rw [HZ.out]
      rintro e w' ⟨rfl, rfl⟩
      go_wp2
      go_ret
      exact ⟨ret_i64 HR.out.symm, hB0⟩

set_option maxHeartbeats 2000000 in
theorem toDer_any {u : Value} (n : ByteArray) (us : List ByteArray) (w : World) (hu : Strs w u us) (hn : us.length ≤ 1048576) :
    Calls Try.prog 24 #[.agg #[.string n, u]] w fun e w' => ∃ a cap, e = .returned (.agg #[.string n, .slice a us.length cap]) ∧ OwnS w.heap.size w' (.slice a us.length cap) us ∧ Below w.heap.size w w' := by
  have HU := Shh.mk (((hu.alloc (.cells #[.string n, u] 41)).alloc (.cells #[.string ⟨#[]⟩, .slice none 0 0] 50)).alloc (.cells #[.string n, .slice none 0 0] 50))
  obtain ⟨ua, uc, rfl, -⟩ := hu
  go_enter Try.func24, Try.ntmps24
  go_wp2_with fail
  refine (toStringS_any _ HU.out hn).mono ?_
  rintro e w1 ⟨u1, rfl, ho, hb1⟩
  obtain ⟨a, cap, rfl, hc1, hc2, -⟩ := own_form ho
  have hz1 : w.heap.size + 2 < w1.heap.size := by have := hb1.size; simp at this; omega
  have q1 := ((Blk.made (w.alloc (.cells #[.string n, .slice ua us.length uc] 41)) 50 #[.string ⟨#[]⟩, .slice none 0 0]).alloc (.cells #[.string n, .slice none 0 0] 50)).kept hb1 (by simp)
  have q2 := (Blk.made ((w.alloc (.cells #[.string n, .slice ua us.length uc] 41)).alloc (.cells #[.string ⟨#[]⟩, .slice none 0 0] 50)) 50 #[.string n, .slice none 0 0]).kept hb1 (by simp)
  simp only [World.size_alloc] at q1 q2 ho
  have HO := Shh.mk ho
  have c1 := q1.cells
  have c2 := q2.cells
  have m1 := q1.marks
  have m2 := q2.marks
  have hB1 := Shh.mk ((((((Below.refl w.heap.size w).alloc (Nat.le_refl _) (.cells #[.string n, .slice ua us.length uc] 41)).alloc (by simp) (.cells #[.string ⟨#[]⟩, .slice none 0 0] 50)).alloc (by simp; omega) (.cells #[.string n, .slice none 0 0] 50))).trans (hb1.mono (by simp; omega)))
  clear ho hb1 q1 q2
  go_wp2
  refine bodyPost_ret (v := .agg #[.string n, .slice a us.length cap]) (by simp [results, Try.results24, go_sem, c1]) rfl ?_
  refine ⟨a, cap, rfl, ?_, ?_⟩
  · exact (((HO.out.off (by omega) _ _).off (by omega) _ _).off (by omega) _ _).lower (by omega)
  · exact ((hB1.out.setCell (by simp; omega) _).setCell (by simp) _).setCell (by simp) _

set_option maxHeartbeats 1000000 in
theorem eqDer_same {u v : Value} (n : ByteArray) (us : List ByteArray) (W : World) (hu : Strs W u us) (hv : Strs W v us) :
    Calls Try.prog 27 #[.agg #[.string n, u], .agg #[.string n, v]] W fun e w' => e = .returned (.bool true) ∧ Below W.heap.size W w' := by
  have HU := Shh.mk ((hu.alloc (.cells #[.string n, u] 50)).alloc (.cells #[.string n, v] 50))
  have HV := Shh.mk ((hv.alloc (.cells #[.string n, u] 50)).alloc (.cells #[.string n, v] 50))
  obtain ⟨ua, uc, rfl, -⟩ := hu
  obtain ⟨va, vc, rfl, -⟩ := hv
  go_enter Try.func27, Try.ntmps27
  go_wp2_with fail
  refine (eqStringS_sameH _ HU.out HV.out).mono ?_
  rintro e w' ⟨rfl, m, rfl⟩
  go_wp2
  go_ret
  exact ⟨rfl, below_drewN (((Below.refl _ _).alloc (Nat.le_refl _) _).alloc (by simp) _) _⟩

end Go.Proofs.Ytilagppmljpclaa

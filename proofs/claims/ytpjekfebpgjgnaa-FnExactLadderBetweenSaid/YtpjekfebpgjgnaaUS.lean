/-
  The program's LadderBetween.
-/
import Derived.Test.YtpjekfebpgjgnaaUQ
import Derived.Test.YtpjekfebpgjgnaaUR
import Derived.Test.YtpjekfebpgjgnaaL7
namespace Go.Proofs.Ytpjekfebpgjgnaa
open Go.RowKit Go.Lib Go.Maps

/-- A look-up of a string that is there. -/
theorem wpList_lookup_str {P : Program} (w : World) {ops : Array Oper} {rest : List Oper} {o : Oper} {a : Act} {Q : Exit → Act → World → Prop}
    (hg : o.guard = none) (m x : Operand) (t : TypeId) (hop : o.op = Op.lookup t m x false)
    (k e : TypeId) (K : Keyed P k) (ht : P.underlying t = some (.map k e)) (z : Value) (hz : (zeroValue e).run P w = .ok z w) (b n : Nat) (D : DataW Value)
    (hm : a.eval m = .map (some b)) (hown : w.ownsMap P k idR b n D) (key : Value) (kl : Lit) (hx : a.eval x = key) (hkey : Go.keyOf P k key = some kl) (y : Value) (hat : ∀ z, D.atKey kl z = .held y)
    (hK : wpList P ops Q rest (a.put o.dst y) w) :
    wpList P ops Q (o :: rest) a w := by
  refine wpList_plain hg fun K' hK' => ?_
  obtain ⟨v, ps, hrun, hR⟩ := hown.lookup K ht hz (zd := .held z) (zp := []) rfl hkey
  have hv : v = y := by
    rw [hat] at hR
    unfold idR at hR
    injection hR with hR
    injection hR with h1 _
    injection h1
  subst hv
  unfold Oper.wp
  simp [execOp, hop, hm, hx, hrun, Result.andThen]
  exact hK' _ _ hK
/-- The ladder from its end, t steps of it. -/
def upL (q : List ByteArray) (pi : Nat → Nat) (j t : Nat) : List ByteArray := (List.range (t + 1)).map fun t => strAt q (anc pi j t)
theorem upL_len (q : List ByteArray) (pi : Nat → Nat) (j t : Nat) : (upL q pi j t).length = t + 1 := by simp [upL]
theorem upL_zero (q : List ByteArray) (pi : Nat → Nat) (j : Nat) : upL q pi j 0 = [strAt q j] := by simp [upL, anc]
theorem upL_more (q : List ByteArray) (pi : Nat → Nat) (j t : Nat) : upL q pi j (t + 1) = upL q pi j t ++ [strAt q (anc pi j (t + 1))] := by
  unfold upL
  rw [List.range_succ (n := t + 1), List.map_append]
  rfl
theorem hasL_both {us : List ByteArray} {a b : ByteArray} {x y : Bool} (h1 : hasL us a = x) (h2 : hasL us b = y) : (hasL us a && hasL us b) = (x && y) := by rw [h1, h2]

theorem has_onL {v : Value} {us : List ByteArray} {s : ByteArray} {t : Bool} (h : hasOut us s = t) (W : World) (hu : Strs W v us) (hz : ∀ s ∈ us, s.size ≤ maxLen) (hs : s.size ≤ 1048576) :
    Calls Try.prog 40 #[.agg #[v], .string s] W fun e w' => e = .returned (.bool t) ∧ Below W.heap.size W w' := by rw [← h]; exact implHasWord_any s W hu hz hs
set_option maxRecDepth 100000 in
set_option maxHeartbeats 2000000 in
theorem implLadderBetween_any {v : Value} {us : List ByteArray} (a b : ByteArray) (W : World) (hu : Strs W v us) (hz : ∀ s ∈ us, s.size ≤ maxLen) (ha : a.size ≤ 1048576) (hb : b.size ≤ 1048576) :
    Calls Try.prog 42 #[.agg #[v], .string a, .string b] W fun e w' => ∃ v0, e = retS v0 (ladOut us a b).2 ∧ OwnS W.heap.size w' v0 (ladOut us a b).1 ∧ Below W.heap.size W w' := by
  have HG := ShE.mk (LexAt.made hu)
  have HB := ShE.mk ((Below.refl W.heap.size W).alloc (Nat.le_refl _) (.cells #[v] 26))
  have c0 := HG.out.blk.cells
  cases hok : okL us
  · have HA := ShE.mk (show ladOut us a b = ([], 1) from LadIs.out (.inl ⟨hok, rfl, rfl⟩))
    have HO := ShE.mk hok
    clear hok
    go_enter Try.func42, Try.ntmps42
    go_wp2_with fail
    refine (valid_on HO.out _ HG.out.strs hz).mono ?_
    rintro e w1 ⟨rfl, hb1⟩
    go_wp2
    go_ret2
    rw [HA.out]
    exact ⟨_, rfl, OwnS.voidG _ _, HB.out.trans (hb1.mono HB.out.size)⟩
  · have HO := ShE.mk hok
    cases h1 : hasL us a
    · have HA := ShE.mk (show ladOut us a b = ([], 3) from LadIs.out (.inr (.inl ⟨hok, by rw [h1]; rfl, rfl, rfl⟩)))
      have H1 := ShE.mk (show hasOut us a = false by rw [hasOut_yes hok]; exact h1)
      clear hok h1
      go_enter Try.func42, Try.ntmps42
      go_wp2_with fail
      refine (valid_on HO.out _ HG.out.strs hz).mono ?_
      rintro e w1 ⟨rfl, hb1⟩
      have HG1 := ShE.mk (HG.out.belowG hb1)
      have HB1 := ShE.mk (HB.out.trans (hb1.mono HB.out.size))
      have c1 := HG1.out.blk.cells
      clear c0 hb1
      go_wp2_with fail
      refine (has_onL H1.out _ HG1.out.strs hz ha).mono ?_
      rintro e w2 ⟨rfl, hb2⟩
      go_wp2
      go_ret2
      rw [HA.out]
      exact ⟨_, rfl, OwnS.voidG _ _, HB1.out.trans (hb2.mono HB1.out.size)⟩
    · cases h2 : hasL us b
      · have HA := ShE.mk (show ladOut us a b = ([], 3) from LadIs.out (.inr (.inl ⟨hok, by rw [h1, h2]; rfl, rfl, rfl⟩)))
        have H1 := ShE.mk (show hasOut us a = true by rw [hasOut_yes hok]; exact h1)
        have H2 := ShE.mk (show hasOut us b = false by rw [hasOut_yes hok]; exact h2)
        clear hok h1 h2
        go_enter Try.func42, Try.ntmps42
        go_wp2_with fail
        refine (valid_on HO.out _ HG.out.strs hz).mono ?_
        rintro e w1 ⟨rfl, hb1⟩
        have HG1 := ShE.mk (HG.out.belowG hb1)
        have HB1 := ShE.mk (HB.out.trans (hb1.mono HB.out.size))
        have c1 := HG1.out.blk.cells
        clear c0 hb1
        go_wp2_with fail
        refine (has_onL H1.out _ HG1.out.strs hz ha).mono ?_
        rintro e w2 ⟨rfl, hb2⟩
        have HG2 := ShE.mk (HG1.out.belowG hb2)
        have HB2 := ShE.mk (HB1.out.trans (hb2.mono HB1.out.size))
        have c2 := HG2.out.blk.cells
        clear c1 hb2
        go_wp2_with fail
        refine (has_onL H2.out _ HG2.out.strs hz hb).mono ?_
        rintro e w3 ⟨rfl, hb3⟩
        go_wp2
        go_ret2
        rw [HA.out]
        exact ⟨_, rfl, OwnS.voidG _ _, HB2.out.trans (hb3.mono HB2.out.size)⟩
      · have H1 := ShE.mk (show hasOut us a = true by rw [hasOut_yes hok]; exact h1)
        have H2 := ShE.mk (show hasOut us b = true by rw [hasOut_yes hok]; exact h2)
        have HH := ShE.mk (show (hasL us a && hasL us b) = true by rw [h1, h2]; rfl)
        have hau : a ∈ us := (hasL_mem (okL_rise hok)).1 h1
        clear hok h1 h2
        go_enter Try.func42, Try.ntmps42
        go_wp2_with fail
        refine (valid_on HO.out _ HG.out.strs hz).mono ?_
        rintro e w1 ⟨rfl, hb1⟩
        have HG1 := ShE.mk (HG.out.belowG hb1)
        have HB1 := ShE.mk (HB.out.trans (hb1.mono HB.out.size))
        have c1 := HG1.out.blk.cells
        clear c0 hb1
        go_wp2_with fail
        refine (has_onL H1.out _ HG1.out.strs hz ha).mono ?_
        rintro e w2 ⟨rfl, hb2⟩
        have HG2 := ShE.mk (HG1.out.belowG hb2)
        have HB2 := ShE.mk (HB1.out.trans (hb2.mono HB1.out.size))
        have c2 := HG2.out.blk.cells
        clear c1 hb2
        go_wp2_with fail
        refine (has_onL H2.out _ HG2.out.strs hz hb).mono ?_
        rintro e w3 ⟨rfl, hb3⟩
        have HG3 := ShE.mk (HG2.out.belowG hb3)
        have HB3 := ShE.mk (HB2.out.trans (hb3.mono HB2.out.size))
        have c3 := HG3.out.blk.cells
        clear c2 hb3
        go_wp2_with fail
        refine (parentsFrom_any _ HG3.out.strs HO.out hau).mono ?_
        rintro e w4 ⟨mb, q, pi, D, rfl, hmb, hp, hf, hnd, hb4⟩
        have HB4 := ShE.mk (HB3.out.trans (hb4.mono HB3.out.size))
        have HP := ShE.mk hp
        have HF := ShE.mk hf
        have HN := ShE.mk hnd
        have hkb := keyP hb
        have hhas := hp.has b
        have hml := hp.map.lt
        clear hp hf hb4 c3 hnd
        by_cases hin : b ∈ q
        · obtain ⟨j, hj, hjb⟩ := mem_at hin
          have hht := hhas.2 hin
          have HA := ShE.mk (show ladOut us a b = (ladL q pi j, 0) from LadIs.out (.inr (.inr (.inr ⟨HO.out, HH.out, ⟨_, by rw [← hjb]; exact HF.out.lad HN.out hj⟩, rfl⟩))))
          have HJ := ShE.mk hjb
          have HIN := ShE.mk hin
          clear hhas hjb hin
          go_wp2_with (at_lookup; refine wpList_lookup_own_ok _ rfl _ _ 75 rfl 9 9 (string_keyed Try.underlying9) Try.underlying75 idR (zeroStrP _) (.held (.string ByteArray.empty)) [] rfl mb q.length D rfl HP.out.map _ _ rfl hkb ?_; intro lv ps _; rw [hht])
          have HP5 := ShE.mk (HP.out.below ((Below.refl _ _).alloc (Nat.le_refl _) (.cells #[.string b] 9)))
          have HO5 := ShE.mk (show OwnS w4.heap.size (w4.alloc (.cells #[.string b] 9)) (.slice (some ⟨w4.heap.size, 0, none⟩) 1 1) (upL q pi j 0) by rw [upL_zero, HJ.out]; exact World.ownsRow_lit w4 #[.string b] 1 (Nat.le_refl _) (by unfold maxLen; omega) rfl)
          have hjd := dep_le HF.out j hj
          have hqn : q.length ≤ us.length := nodup_len HN.out HF.out.mem
          have hun := okL_size HO.out
          go_loopw [11, 12] (fun x y wr => ∃ t : Nat, t ≤ dep pi j ∧ y = .string (strAt q (anc pi j t)) ∧ OwnS w4.heap.size wr x (upL q pi j t) ∧ Below w4.heap.size w4 wr) (fun x _ _ => dep pi j + 1 - lenV x)
          case atStart => exact ⟨0, Nat.zero_le _, by rw [show anc pi j 0 = j from rfl, HJ.out], HO5.out, (Below.refl _ _).alloc (Nat.le_refl _) _⟩
          case round =>
            obtain ⟨t, ht, rfl, ho, hb5⟩ := hrel
            have hal := anc_dep HF.out hj t ht
            obtain ⟨xa, xc, rfl, hx1, hx2, -⟩ := own_form ho
            have hul := upL_len q pi j t
            rw [hul] at ho hx1 ⊢
            have HOO := ShE.mk ho
            have HB5 := ShE.mk hb5
            have HPP := ShE.mk (HP.out.below hb5)
            clear ho hb5
            by_cases hlt : t < dep pi j
            · have hpos := anc_pos HF.out hj hlt
              have hyu := HF.out.mem _ (strAt_mem hal.1)
              have hkey := keyP (word_sizeP HO.out hyu).1
              have hat := HP.out.here _ hpos hal.1
              have HUM := ShE.mk (upL_more q pi j t)
              have hne : ¬ strAt q (anc pi j t) = a := fun e => by
                rw [← HF.out.first] at e
                have := nodup_at HN.out hal.1 HF.out.ne e
                omega
              obtain ⟨y, hy⟩ : ∃ y, strAt q (anc pi j t) = y := ⟨_, rfl⟩
              obtain ⟨z, hz2⟩ : ∃ z, strAt q (pi (anc pi j t)) = z := ⟨_, rfl⟩
              have HZ := ShE.mk (show strAt q (anc pi j (t + 1)) = z from hz2)
              rw [hy, hz2] at hat
              rw [hy] at hkey hne hyu ⊢
              have hbn : (y.toList == a.toList) = false := strNe hne
              clear hy hz2
              go_wp2_with (first
                | (at_lookup; refine wpList_lookup_str _ rfl _ _ 75 rfl 9 9 (string_keyed Try.underlying9) Try.underlying75 _ (zeroStrP _) mb q.length D rfl HPP.out.map _ _ rfl hkey (.string z) hat ?_)
                | (at_builtin; refine wpList_append_word rfl _ _ rfl z rfl rfl HOO.out (by omega) (by have := HB5.out.size; omega) ?_; intro x' w6 ho6 hg6 _; have HO6 := ShE.mk (show OwnS w4.heap.size w6 x' (upL q pi j (t + 1)) by rw [HUM.out, HZ.out]; exact ho6); have HB6 := ShE.mk (HB5.out.grown hg6 HB5.out.size (OwnS.block HOO.out)); clear ho6 hg6))
              obtain ⟨xa6, xc6, rfl, -, -, -⟩ := own_form HO6.out
              go_roundw
              case rel => exact ⟨t + 1, by omega, by rw [HZ.out], HO6.out, HB6.out⟩
              case measure => simp [lenV, upL_len]; omega
            · obtain rfl : t = dep pi j := by omega
              have hend : strAt q (anc pi j (dep pi j)) = a := by rw [anc_end HF.out hj]; exact HF.out.first
              rw [hend]
              have hbn : (a.toList == a.toList) = true := by simp
              go_wp2_with fail
              refine (backOwn_any HOO.out (by omega) (by omega)).mono ?_
              rintro e w6 ⟨rfl, ho6, hg6⟩
              have HO6 := ShE.mk (show OwnS w4.heap.size w6 _ (ladL q pi j) by rw [← ladL_back]; exact ho6)
              have HB6 := ShE.mk (HB5.out.grown hg6 HB5.out.size (OwnS.block HOO.out))
              clear ho6 hg6
              go_wp2
              go_ret2
              rw [HA.out]
              exact ⟨_, rfl, OwnS.lower HO6.out HB4.out.size, HB4.out.trans (HB6.out.mono HB4.out.size)⟩
        · have hht : Maps.has D (.string b.data.toList) = false := Bool.eq_false_iff.2 fun e => hin (hhas.1 e)
          have HA := ShE.mk (show ladOut us a b = ([], 6) from LadIs.out (.inr (.inr (.inl ⟨HO.out, HH.out, HF.out.none hin, rfl, rfl⟩))))
          clear hhas hin
          go_wp2_with (at_lookup; refine wpList_lookup_own_ok _ rfl _ _ 75 rfl 9 9 (string_keyed Try.underlying9) Try.underlying75 idR (zeroStrP _) (.held (.string ByteArray.empty)) [] rfl mb q.length D rfl HP.out.map _ _ rfl hkb ?_; intro lv ps _; rw [hht])
          go_ret2
          rw [HA.out]
          exact ⟨_, rfl, OwnS.voidG _ _, HB4.out⟩
end Go.Proofs.Ytpjekfebpgjgnaa

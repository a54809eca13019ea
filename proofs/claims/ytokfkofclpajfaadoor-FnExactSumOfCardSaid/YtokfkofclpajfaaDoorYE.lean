/-
  The strings that lead from a node to those that are wanted: the program's stringsTo, with its two functions.
-/
import Derived.Test.YtokfkofclpajfaaDoorYD
import Derived.Lib.AppendZeros
import Derived.Laws.AppendOwn
import Derived.Deep.RegionHeld3
namespace Go.Proofs.YtokfkofclpajfaaDoor
open Go.RowKit

theorem info_strE : (Tryd.prog.info? 9).map (fun i => (i.zero, i.size, i.bytes)) = some (some (.string ByteArray.empty), 1, 16) := by kernel_rfl
theorem append_noneE {w : World} {base : Nat} {e : TypeId} {size : Nat} {P : Program} (t ty : TypeId) (i : TypeInfo) (ht : P.underlying t = some (.slice e)) (hi : P.info? e = some i)
    (v : Value) (n c : Nat) (xs : List Value) (hown : w.ownsRow base e size v n xs) : (Builtin.append_ #[t, t] ty #[v, .slice none 0 c]).run P w = .ok v w := by
  rcases hown.2 with ⟨rfl, rfl⟩ | ⟨g, cap, cur, rfl, _, _, hnc, _⟩
  · simp [Builtin.append_, run_underlying ht, sizeOf, typeInfo, hi, Builtin.lenOf, Builtin.firstCells]
  · simp [Builtin.append_, run_underlying ht, sizeOf, typeInfo, hi, Builtin.lenOf, Builtin.firstCells, hnc, storeCells]
theorem strs_oneE (ss : List ByteArray) : ∀ u ∈ ss.map Value.string, u.oneCell' = true := by
  intro u hu
  rw [List.mem_map] at hu
  obtain ⟨x, _, rfl⟩ := hu
  rfl
theorem strs_newsE {w : World} {b off : Nat} {ss : List ByteArray} (h : ∀ j, j < ss.length → w.cell? ⟨b, off + j, none⟩ = some (.string (strAt ss j))) : ∀ j u, (ss.map Value.string)[j]? = some u → w.cell? ((⟨b, off, none⟩ : Addr).add j) = some u := by
  intro j u hj
  have hjl : j < ss.length := by
    rcases Nat.lt_or_ge j ss.length with h | h
    · exact h
    · rw [List.getElem?_eq_none (by simpa using h)] at hj; cases hj
  rw [Go.WideShapes.add_plain, h j hjl, ← hj, strAt_map ss j hjl]
/-- More strings behind a row of the call's own, as a step of a region that draws: whatever slice they lie in. -/
theorem step_append_strs {ops : Array Oper} {o : Oper} {a : Act} {K : Act → World → Prop} {Q : Exit → Act → World → Prop} {E : Prop} {w : World} (hgd : o.guard = none) (s x : Operand)
    (ho : o.op = .call { callee := .builtin .append, args := #[s, x], argTypes := #[38, 38] }) {B : Nat} {v u : Value} {xs ys : List ByteArray} (hs : a.eval s = v) (hx : a.eval x = u)
    (hown : OwnS B w v xs) (hst : Strs w u ys) (hl : xs.length + ys.length ≤ 4000000) (hB : B ≤ w.heap.size)
    (h : ∀ v' w', OwnS B w' v' (xs ++ ys) → w.grownBy w' v.ownBlock → K (a.put o.dst v') w') :
    if Region.wanted o (yielded ops a.tmps) = true then Oper.wp Tryd.prog o a w K Q else E := by
  have hw : Region.wanted o (yielded ops a.tmps) = true := by simp [Region.wanted, hgd]
  rw [if_pos hw]
  obtain ⟨i0, hi, hz0, hz1, hz2⟩ := info_parts info_strE
  obtain ⟨ad, cap, rfl, l1, m1, k1⟩ := hst
  rcases Nat.eq_zero_or_pos ys.length with hz | hz
  · have hnil : ys = [] := List.eq_nil_of_length_eq_zero hz
    subst hnil
    rcases ad with _ | a2
    · refine Lib.wp_append_run w s x _ _ ho v _ hs hx v w (append_noneE 38 _ i0 Tryd.underlying38 hi _ _ _ _ hown) ?_
      exact h v w (by rw [List.append_nil]; exact hown) (World.grownBy.refl _ _)
    · refine wp_append_own w s x 38 ho B 9 i0 (.string ByteArray.empty) 1 16 Tryd.underlying38 hi hz0 hz1 hz2 rfl (by decide) v _ _ hs hown a2 0 cap [] hx rfl (fun j u h => by simp at h) (fun u h => by simp at h) ?_ ?_ hB ?_
      · unfold maxLen; omega
      · omega
      · intro v' w' hw hg _
        refine h v' w' ?_ hg
        rw [List.append_nil] at hw ⊢
        exact hw
  · obtain ⟨b2, o2, rfl, hb2, hk2⟩ := k1 hz
    refine wp_append_own w s x 38 ho B 9 i0 (.string ByteArray.empty) 1 16 Tryd.underlying38 hi hz0 hz1 hz2 rfl (by decide) v _ _ hs hown ⟨b2, o2, none⟩ ys.length cap (ys.map Value.string) hx (by simp) (strs_newsE hk2) (strs_oneE _) ?_ ?_ hB ?_
    · unfold maxLen; omega
    · omega
    · intro v' w' hw hg _
      refine h v' w' ?_ hg
      rw [← List.map_append] at hw
      unfold OwnS
      rw [List.length_append]
      exact hw
theorem own_blockE {B n : Nat} {e : TypeId} {w : World} {v : Value} {xs : List Value} (h : w.ownsRow B e 1 v n xs) : ∀ k, v.ownBlock = some k → B ≤ k := by
  intro k hk
  rcases h.2 with ⟨rfl, _⟩ | ⟨g, cap, cur, rfl, hB, _⟩
  · simp [Value.ownBlock] at hk
  · simp [Value.ownBlock] at hk
    omega
theorem own_monoE {B C n : Nat} {e : TypeId} {w : World} {v : Value} {xs : List Value} (h : w.ownsRow C e 1 v n xs) (hBC : B ≤ C) : w.ownsRow B e 1 v n xs := by
  refine ⟨h.1, ?_⟩
  rcases h.2 with h | ⟨g, cap, cur, e1, hC, r⟩
  · exact .inl h
  · exact .inr ⟨g, cap, cur, e1, Nat.le_trans hBC hC, r⟩
/-- One string more behind a row of the call's own. -/
theorem append_strE {ops : Array Oper} {rest : List Oper} {o : Oper} {a : Act} {Q : Exit → Act → World → Prop} {B : Nat} {W : World} (hgd : o.guard = none) (s x : Operand)
    (ho : o.op = .call { callee := .builtin .append, args := #[s, x], argTypes := #[38, 38] })
    (v : Value) (ss : List ByteArray) (c : ByteArray) (hs : a.eval s = v) (hx : a.eval x = .slice (some ⟨W.heap.size, 0, none⟩) 1 1)
    (hown : OwnS B W v ss) (hlen : ss.length ≤ 1000000) (hB : B ≤ W.heap.size)
    (h : ∀ v' w', OwnS B w' v' (ss ++ [c]) → (∀ w0, Below B w0 W → Below B w0 w') → wpList Tryd.prog ops Q rest (a.put o.dst v') w') :
    wpList Tryd.prog ops Q (o :: rest) a (W.alloc (.cells #[.string c] 9)) := by
  obtain ⟨i0, hi, hz0, hz1, hz2⟩ := info_parts info_strE
  refine wpList_append_own _ hgd s x 38 ho B 9 i0 (.string ByteArray.empty) 1 16 Tryd.underlying38 hi hz0 hz1 hz2 rfl (by decide) v ss.length (ss.map Value.string) hs (World.ownsRow.alloc hown _) ⟨W.heap.size, 0, none⟩ 1 1 [.string c] hx rfl ?_ ?_ ?_ ?_ ?_ ?_
  · exact cell_one_new _ _ _
  · intro u hu; simp at hu; subst hu; rfl
  · simp [maxLen]; omega
  · omega
  · simp; omega
  · intro v' w' ho' hg _
    refine h v' w' ?_ fun w0 h0 => (h0.alloc hB _).grown hg (by simp; omega) (own_blockE hown)
    unfold OwnS
    rw [List.map_append, List.length_append]
    exact ho'
set_option maxHeartbeats 1000000 in
theorem isWanted_any {nb t : Nat} (W : World) (hn : Blk W nb 2 #[.int .i64 (t : Int)]) (i : Nat) :
    Calls Tryd.prog 97 #[.int .i64 (i : Int), .pointer (some ⟨nb, 0, none⟩)] W fun e w' => e = .returned (.bool (i == t)) ∧ w' = W := by
  have c0 := hn.cells 0
  have HR := Shh.mk (show ((i : Int) == (t : Int)) = (i == t) from by rw [Bool.eq_iff_iff, beq_iff_eq, beq_iff_eq]; omega)
  obtain ⟨b, hb⟩ : ∃ b, ((i : Int) == (t : Int)) = b := ⟨_, rfl⟩
  rw [hb] at HR
  go_enter Tryd.func97, Tryd.ntmps97
  go_wp2
  go_ret
  exact ⟨by (rw [← HR.out]; try rfl), rfl⟩

def stringsDo (W0 : World) (v : Value) (xs : List Nod) (r : Nat) : Prop := ∀ (i : Nat) (s : ByteArray) (w : World), i < xs.length → (gphD xs).okH (r + 1) i = true → s.size + r ≤ 100000 → ((gphD xs).W r i).length ≤ 100000 → Below W0.heap.size W0 w →
    Calls Tryd.prog 98 #[.agg #[v], .func (.func 110) #[.agg #[v]] #[], .int .i64 (i : Int), .string s] w fun e w' => ∃ a n c, e = .returned (.slice a n c) ∧ OwnS w.heap.size w' (.slice a n c) (((gphD xs).W r i).map (catB s)) ∧ Below w.heap.size w w'
set_option maxRecDepth 100000 in
set_option maxHeartbeats 8000000 in
theorem strings_step {xs : List Nod} {v : Value} (W0 : World) (hx : Nds W0 v xs) (hs : Shp xs) (r : Nat) (hrec : ∀ r', r' < r → stringsDo W0 v xs r') : stringsDo W0 v xs r := by
    intro i s w hi hok hsz hfew hW
    have HREC := Shh.mk hrec
    clear hrec
    have HX := Shh.mk hx
    have HSH := Shh.mk hs
    have HOK := Shh.mk hok
    have HFEW := Shh.mk hfew
    have HWW := Shh.mk (show Below w.heap.size w (w.alloc (.cells #[v] 29)) from (Below.refl _ _).alloc (Nat.le_refl _) _)
    have HW1 := Shh.mk (show Below W0.heap.size W0 (w.alloc (.cells #[v] 29)) from hW.alloc hW.size _)
    have HW0 := Shh.mk (fun (w' : World) (h' : Below (w.heap.size + 1) (w.alloc (.cells #[v] 29)) w') => show Below W0.heap.size W0 w' from HW1.out.trans (h'.mono (by have := hW.size; omega)))
    have HCELL := Shh.mk (fun (w' : World) (h' : Below (w.heap.size + 1) (w.alloc (.cells #[v] 29)) w') => show w'.cell? ⟨w.heap.size, 0, none⟩ = some v from (Blk.kept (Blk.made w 29 #[v]) (by rw [World.size_alloc]; exact h') (Blk.made w 29 #[v]).lt).cells 0)
    have hxl := hx.len
    have hsh := hs.node i hi
    have hE0 : (gphD xs).E i = (nodG xs i).ls.data.toList.zip ((nodG xs i).ns.map Int.toNat) := rfl
    obtain ⟨na, nc, rfl, hn1, hn2, hnn⟩ := hx
    obtain ⟨bn, on, rfl, hbn, hcn⟩ := hnn (by omega)
    have hn := hcn i hi
    have hEL := hs.E_len hi
    have hEA := fun k (hk : k < (nodG xs i).ns.length) => hs.E_at hi hk
    obtain ⟨x, hxx⟩ : ∃ x, nodG xs i = x := ⟨_, rfl⟩
    have HXX := Shh.mk hxx
    rw [hxx] at hn hsh hE0 hEL hEA
    obtain ⟨f, ls, ns⟩ := x
    obtain ⟨-, n1, u, n2, hu⟩ := hn
    simp only at n1 n2 hu hE0 hEL hEA
    have hul := hu.len
    obtain ⟨ua, uc, rfl, hu1, hu2, hu3, -⟩ := hu
    have HU := Shh.mk (fun (h0 : 0 < ns.length) => show ∃ b o, ua = some ⟨b, o, none⟩ ∧ b < W0.heap.size ∧ ∀ k, k < ns.length → ∀ w', Below (w.heap.size + 1) (w.alloc (.cells #[.slice (some ⟨bn, on, none⟩) xs.length nc] 29)) w' → w'.cell? ⟨b, o + k, none⟩ = some (.int .i64 (ns.getD k 0)) from by
      obtain ⟨b, o, e, hb, hc⟩ := hu3 h0
      exact ⟨b, o, e, hb, fun k hk w' h' => ((HW0.out w' h').cell (p := ⟨b, o + k, none⟩) hb).trans (hc k hk)⟩)
    have HNODE := Shh.mk (fun (w' : World) (h' : Below (w.heap.size + 1) (w.alloc (.cells #[.slice (some ⟨bn, on, none⟩) xs.length nc] 29)) w') => show w'.cell? ⟨bn, on + i * 3 + 1, none⟩ = some (.string ls) ∧ w'.cell? ⟨bn, on + i * 3 + 2, none⟩ = some (.slice ua ns.length uc) from
      ⟨((HW0.out w' h').cell (p := ⟨bn, on + i * 3 + 1, none⟩) hbn).trans n1, ((HW0.out w' h').cell (p := ⟨bn, on + i * 3 + 2, none⟩) hbn).trans n2⟩)
    have HLEN := Shh.mk (show ls.size = ns.length from hsh.len)
    have HEL := Shh.mk (show ((gphD xs).E i).length = ns.length from hEL)
    have HE := Shh.mk (fun k (hk : k < ns.length) => show ((gphD xs).E i)[k]? = some (ls.data.toList.getD k 0, (ns.getD k 0).toNat) from hEA k hk)
    have HNX := Shh.mk (fun k (hk : k < ns.length) => show 0 ≤ ns.getD k 0 ∧ ns.getD k 0 < xs.length by rw [List.getD_eq_getElem?_getD, List.getElem?_eq_getElem hk]; exact hsh.next _ (List.getElem_mem hk))
    obtain ⟨F, hF⟩ : ∃ F, (gphD xs).F i = F := ⟨_, rfl⟩
    have HF := Shh.mk hF
    have hin : (i : Int) < (xs.length : Int) := by omega
    clear hu3 hsh hE0 hEL hEA hnn hcn hxx hW hok hfew n1 n2
    have HCF := Shh.mk (fun (w' : World) (h' : Below (w.heap.size + 1) (w.alloc (.cells #[.slice (some ⟨bn, on, none⟩) xs.length nc] 29)) w') => show Calls Tryd.prog 110 #[.agg #[.slice (some ⟨bn, on, none⟩) xs.length nc], .int .i64 (i : Int)] w' fun e w2 => e = .returned (.bool F) ∧ Below w'.heap.size w' w2 from by rw [← HF.out]; exact isFinal_any w' (HX.out.below (HW0.out w' h')) i hi)
    cases F
    · have HT0 := Shh.mk (show (gphD xs).T r i 0 = [] from by unfold Gph.T; rw [HF.out]; simp)
      go_enter Tryd.func98, Tryd.ntmps98
      go_wp2_with (go_at_call 110; refine (HCF.out _ (Below.refl _ _)).mono ?_; rintro e w1 ⟨rfl, hb1⟩; have HB1 := Shh.mk (show Below (w.heap.size + 1) (w.alloc (.cells #[.slice (some ⟨bn, on, none⟩) xs.length nc] 29)) w1 from by have h9 := hb1; rw [World.size_alloc] at h9; exact h9); have HSZ1 := Shh.mk (show w.heap.size + 1 ≤ w1.heap.size from by have := hb1.size; rw [World.size_alloc] at this; exact this); have d1 : w1.cell? ⟨w.heap.size, 0, none⟩ = some (.slice (some ⟨bn, on, none⟩) xs.length nc) := HCELL.out _ HB1.out; have n21 := (HNODE.out _ HB1.out).2; clear hb1)
      go_loopw [9, 10, 11, 26] (fun fo _ _ z wr => ∃ (k : Nat) (a : Option Addr) (c : Nat), k ≤ ns.length ∧ z = .int .i64 k ∧ fo = .slice a (((gphD xs).T r i k).map (catB s)).length c ∧ OwnS (w.heap.size + 1) wr (.slice a (((gphD xs).T r i k).map (catB s)).length c) (((gphD xs).T r i k).map (catB s)) ∧ Below (w.heap.size + 1) (w.alloc (.cells #[.slice (some ⟨bn, on, none⟩) xs.length nc] 29)) wr) (fun _ _ _ z _ => ns.length - (intOf z).toNat)
      case atStart => exact ⟨0, _, _, Nat.zero_le _, rfl, by rw [HT0.out]; rfl, by rw [HT0.out]; exact ⟨rfl, .inl ⟨rfl, rfl⟩⟩, HB1.out⟩
      case round =>
        obtain ⟨k, fa, fc, hkl, rfl, rfl, hfo, hb⟩ := hrel
        have HFO := Shh.mk hfo
        have HB := Shh.mk hb
        have d0 : wr.cell? ⟨w.heap.size, 0, none⟩ = some (.slice (some ⟨bn, on, none⟩) xs.length nc) := HCELL.out _ hb
        obtain ⟨n1, n2⟩ := HNODE.out _ hb
        clear hfo
        by_cases hk : k < ns.length
        · obtain ⟨bu, ou, rfl, hbu, hcu⟩ := HU.out (by omega)
          have cu := hcu k hk _ hb
          obtain ⟨hz0', hz1'⟩ := HNX.out k hk
          have hek := HE.out k hk
          obtain ⟨z, hz⟩ : ∃ z, ns.getD k 0 = z := ⟨_, rfl⟩
          rw [hz] at cu hz0' hz1' hek
          obtain ⟨j, rfl⟩ : ∃ j : Nat, z = (j : Int) := ⟨z.toNat, by omega⟩
          rw [toNat_cast] at hek
          have hjn : j < xs.length := by omega
          obtain ⟨r', rfl⟩ : ∃ r', r = r' + 1 := by
            cases r with
            | zero => exact absurd (Gph.okH_step.1 HOK.out _ (List.mem_of_getElem? hek)) (by simp [Gph.okH])
            | succ r' => exact ⟨r', rfl⟩
          have hokj := Gph.okH_step.1 HOK.out _ (List.mem_of_getElem? hek)
          have HTS := Shh.mk (Gph.T_succ (r := r' + 1) hek)
          have hmo := Gph.T_mono (G := (gphD xs)) (r := r' + 1) (i := i) (show k + 1 ≤ ((gphD xs).E i).length by have := HEL.out; omega)
          rw [Gph.T_all HOK.out, HTS.out, List.length_append, List.length_map] at hmo
          have hmo' : ((gphD xs).T (r' + 1) i k).length + ((gphD xs).W r' j).length ≤ 100000 := Nat.le_trans hmo HFEW.out
          obtain ⟨S2, hS2⟩ : ∃ S2, s ++ ls.extract k (k + 1) = S2 := ⟨_, rfl⟩
          obtain ⟨c, hc'⟩ : ∃ c, ls.data.toList.getD k 0 = c := ⟨_, rfl⟩
          rw [hc'] at hek HTS
          have hS3 : S2 = catB s [c] := by rw [← hS2, ← hc']; exact cat_at (by have := HLEN.out; omega)
          have hsz2 : S2.size + r' ≤ 100000 := by rw [hS3, catB_size]; omega
          have hwb : w.heap.size + 1 ≤ wr.heap.size := by have := hb.size; rw [World.size_alloc] at this; exact this
          have HCALL := Shh.mk (fun (w' : World) (h' : Below wr.heap.size wr w') => (HREC.out r' (Nat.lt_succ_self _) j S2 w' hjn hokj hsz2 (by omega) ((HW0.out _ hb).trans (h'.mono (HW0.out _ hb).size))).mono fun e w2 (hh : ∃ a n c, e = .returned (.slice a n c) ∧ OwnS w'.heap.size w2 (.slice a n c) (((gphD xs).W r' j).map (catB S2)) ∧ Below w'.heap.size w' w2) => (by
            obtain ⟨a, n, c, h1, h2, h3⟩ := hh
            exact ⟨a, n, c, h1, own_monoE h2 h'.size, h'.trans (h3.mono h'.size)⟩ : ∃ a n c, e = .returned (.slice a n c) ∧ OwnS wr.heap.size w2 (.slice a n c) (((gphD xs).W r' j).map (catB S2)) ∧ Below wr.heap.size wr w2))
          have HMAP := Shh.mk (show (((gphD xs).W r' j).map (c :: ·)).map (catB s) = ((gphD xs).W r' j).map (catB S2) from by
            rw [hS3, List.map_map]
            exact List.map_congr_left fun t _ => (catB_cons s c t).symm)
          have hlk : (k : Int) + 1 ≤ (ls.size : Int) := by have := HLEN.out; omega
          have hwr : IntKind.i64.wrap ((k : Int) + 1) = (k : Int) + 1 := IntWalk.i64_in _ (by omega)
          have hlo : (0 : Int) ≤ (k : Int) + 1 := by omega
          have hup : (k : Int) ≤ (k : Int) + 1 := by omega
          have hnn : ((k : Int) + 1).toNat = k + 1 := by omega
          have hmx : ¬ 9223372036854775807 < s.size + (min (k + 1) ls.size - k) := by omega
          have hin : (i : Int) < (xs.length : Int) := by omega
          have HLL := Shh.mk (show (((gphD xs).T (r' + 1) i k).map (catB s)).length + (((gphD xs).W r' j).map (catB S2)).length ≤ 4000000 from by rw [List.length_map, List.length_map]; omega)
          obtain ⟨LT, hLT⟩ : ∃ LT, ((gphD xs).T (r' + 1) i k).map (catB s) = LT := ⟨_, rfl⟩
          obtain ⟨LW, hLW⟩ : ∃ LW, ((gphD xs).W r' j).map (catB S2) = LW := ⟨_, rfl⟩
          have HNEW := Shh.mk (show ((gphD xs).T (r' + 1) i (k + 1)).map (catB s) = LT ++ LW from by rw [HTS.out, List.map_append, hLT]; exact congrArg (LT ++ ·) (HMAP.out.trans hLW))
          rw [hLT] at HFO HLL ⊢
          rw [hLW] at HCALL HLL
          obtain ⟨nLT, hnLT⟩ : ∃ n, LT.length = n := ⟨_, rfl⟩
          have HNLT := Shh.mk hnLT
          rw [hnLT] at HFO ⊢
          have HKEEP := Shh.mk (fun (w' : World) (h' : Below (w.heap.size + 1) (w.alloc (.cells #[.slice (some ⟨bn, on, none⟩) xs.length nc] 29)) w') => show w'.cell? ⟨w.heap.size, 0, none⟩ = some (.slice (some ⟨bn, on, none⟩) xs.length nc) ∧ w'.cell? ⟨bn, on + i * 3 + 1, none⟩ = some (.string ls) from ⟨HCELL.out _ h', (HNODE.out _ h').1⟩)
          have HGRW := Shh.mk (fun (w2 w3 : World) (h2 : Below wr.heap.size wr w2) (hg : w2.grownBy w3 (Value.slice fa nLT fc).ownBlock) => show Below (w.heap.size + 1) (w.alloc (.cells #[.slice (some ⟨bn, on, none⟩) xs.length nc] 29)) w3 from (HB.out.trans (h2.mono hwb)).grown hg (Nat.le_trans hwb h2.size) (own_blockE HFO.out))
          clear hcu hz hek hc' hS3 hmo hmo' hokj n2 hLT hLW hnLT hb
          go_wp2
          go_region_held3 (fun w' => w'.cell? ⟨w.heap.size, 0, none⟩ = some (.slice (some ⟨bn, on, none⟩) xs.length nc) ∧ w'.cell? ⟨bn, on + i * 3 + 1, none⟩ = some (.string ls))
            (exact HKEEP.out _ (by first | exact HB.out.drew | exact HB.out | exact HB.out.trans (Below.mono (by assumption) hwb) | assumption))
            (first
              | (go_at_call 98; with_reducible refine (HCALL.out _ (by first | exact (Below.refl _ _).drew | exact Below.refl _ _ | assumption)).mono ?_; rintro e w2 ⟨ua2, un2, uc2, rfl, ho2, hb2⟩)
              | (refine step_append_strs (by rfl) _ _ (by rfl) (B := w.heap.size + 1) (xs := LT) (ys := LW) (by rfl) (by rfl) (OwnS.kept HFO.out hb2) (OwnS.strs ho2) HLL.out (Nat.le_trans hwb hb2.size) ?_; intro v3 w3 ho3 hg3; obtain ⟨a3, c3, rfl, -, -, -⟩ := own_form ho3; have hB3 := HGRW.out _ _ hb2 hg3))
          all_goals
            go_wp2
            go_roundw
            case rel => exact ⟨k + 1, a3, c3, by omega, by go_num, by rw [HNEW.out, List.length_append], by rw [HNEW.out]; exact ho3, hB3⟩
            case measure => simp [intOf]; omega
        · obtain rfl : k = ns.length := by omega
          have HR := Shh.mk (show (gphD xs).T r i ns.length = (gphD xs).W r i from by rw [← HEL.out]; exact Gph.T_all HOK.out)
          have HFI := Shh.mk (show OwnS w.heap.size wr (.slice fa (((gphD xs).W r i).map (catB s)).length fc) (((gphD xs).W r i).map (catB s)) from by rw [← HR.out]; exact own_monoE HFO.out (Nat.le_succ _))
          rw [HR.out]
          clear hb
          go_wp2
          go_ret
          exact ⟨_, _, _, rfl, HFI.out, HWW.out.trans (Below.mono HB.out (Nat.le_succ _))⟩

    · have HT0 := Shh.mk (show (gphD xs).T r i 0 = [[]] from by unfold Gph.T; rw [HF.out]; simp)
      go_enter Tryd.func98, Tryd.ntmps98
      go_wp2_with (first
        | (go_at_call 110; refine (HCF.out _ (Below.refl _ _)).mono ?_; rintro e w1 ⟨rfl, hb1⟩; have HB1 := Shh.mk (show Below (w.heap.size + 1) (w.alloc (.cells #[.slice (some ⟨bn, on, none⟩) xs.length nc] 29)) w1 from by have h9 := hb1; rw [World.size_alloc] at h9; exact h9); have HSZ1 := Shh.mk (show w.heap.size + 1 ≤ w1.heap.size from by have := hb1.size; rw [World.size_alloc] at this; exact this); have d1 : w1.cell? ⟨w.heap.size, 0, none⟩ = some (.slice (some ⟨bn, on, none⟩) xs.length nc) := HCELL.out _ HB1.out; have n21 := (HNODE.out _ HB1.out).2; clear hb1)
        | (at_builtin; refine append_strE (by rfl) _ _ (by rfl) (B := w.heap.size + 1) (.slice none 0 0) [] s (by rfl) (by rfl) ⟨rfl, .inl ⟨rfl, rfl⟩⟩ (by simp) HSZ1.out ?_; intro v3 w3 ho3 hb3; obtain ⟨a3, c3, rfl, -, -, -⟩ := own_form ho3; have HO3 := Shh.mk ho3; have HB3 := Shh.mk (hb3 _ HB1.out); have n2b := (HNODE.out _ HB3.out).2; have d3 : w3.cell? ⟨w.heap.size, 0, none⟩ = some (.slice (some ⟨bn, on, none⟩) xs.length nc) := HCELL.out _ HB3.out; clear ho3 hb3))
      go_loopw [9, 10, 11, 26] (fun fo _ _ z wr => ∃ (k : Nat) (a : Option Addr) (c : Nat), k ≤ ns.length ∧ z = .int .i64 k ∧ fo = .slice a (((gphD xs).T r i k).map (catB s)).length c ∧ OwnS (w.heap.size + 1) wr (.slice a (((gphD xs).T r i k).map (catB s)).length c) (((gphD xs).T r i k).map (catB s)) ∧ Below (w.heap.size + 1) (w.alloc (.cells #[.slice (some ⟨bn, on, none⟩) xs.length nc] 29)) wr) (fun _ _ _ z _ => ns.length - (intOf z).toNat)
      case atStart => exact ⟨0, _, _, Nat.zero_le _, rfl, by rw [HT0.out]; rfl, by rw [HT0.out]; simpa [catB_nil] using HO3.out, HB3.out⟩
      case round =>
        obtain ⟨k, fa, fc, hkl, rfl, rfl, hfo, hb⟩ := hrel
        have HFO := Shh.mk hfo
        have HB := Shh.mk hb
        have d0 : wr.cell? ⟨w.heap.size, 0, none⟩ = some (.slice (some ⟨bn, on, none⟩) xs.length nc) := HCELL.out _ hb
        obtain ⟨n1, n2⟩ := HNODE.out _ hb
        clear hfo
        by_cases hk : k < ns.length
        · obtain ⟨bu, ou, rfl, hbu, hcu⟩ := HU.out (by omega)
          have cu := hcu k hk _ hb
          obtain ⟨hz0', hz1'⟩ := HNX.out k hk
          have hek := HE.out k hk
          obtain ⟨z, hz⟩ : ∃ z, ns.getD k 0 = z := ⟨_, rfl⟩
          rw [hz] at cu hz0' hz1' hek
          obtain ⟨j, rfl⟩ : ∃ j : Nat, z = (j : Int) := ⟨z.toNat, by omega⟩
          rw [toNat_cast] at hek
          have hjn : j < xs.length := by omega
          obtain ⟨r', rfl⟩ : ∃ r', r = r' + 1 := by
            cases r with
            | zero => exact absurd (Gph.okH_step.1 HOK.out _ (List.mem_of_getElem? hek)) (by simp [Gph.okH])
            | succ r' => exact ⟨r', rfl⟩
          have hokj := Gph.okH_step.1 HOK.out _ (List.mem_of_getElem? hek)
          have HTS := Shh.mk (Gph.T_succ (r := r' + 1) hek)
          have hmo := Gph.T_mono (G := (gphD xs)) (r := r' + 1) (i := i) (show k + 1 ≤ ((gphD xs).E i).length by have := HEL.out; omega)
          rw [Gph.T_all HOK.out, HTS.out, List.length_append, List.length_map] at hmo
          have hmo' : ((gphD xs).T (r' + 1) i k).length + ((gphD xs).W r' j).length ≤ 100000 := Nat.le_trans hmo HFEW.out
          obtain ⟨S2, hS2⟩ : ∃ S2, s ++ ls.extract k (k + 1) = S2 := ⟨_, rfl⟩
          obtain ⟨c, hc'⟩ : ∃ c, ls.data.toList.getD k 0 = c := ⟨_, rfl⟩
          rw [hc'] at hek HTS
          have hS3 : S2 = catB s [c] := by rw [← hS2, ← hc']; exact cat_at (by have := HLEN.out; omega)
          have hsz2 : S2.size + r' ≤ 100000 := by rw [hS3, catB_size]; omega
          have hwb : w.heap.size + 1 ≤ wr.heap.size := by have := hb.size; rw [World.size_alloc] at this; exact this
          have HCALL := Shh.mk (fun (w' : World) (h' : Below wr.heap.size wr w') => (HREC.out r' (Nat.lt_succ_self _) j S2 w' hjn hokj hsz2 (by omega) ((HW0.out _ hb).trans (h'.mono (HW0.out _ hb).size))).mono fun e w2 (hh : ∃ a n c, e = .returned (.slice a n c) ∧ OwnS w'.heap.size w2 (.slice a n c) (((gphD xs).W r' j).map (catB S2)) ∧ Below w'.heap.size w' w2) => (by
            obtain ⟨a, n, c, h1, h2, h3⟩ := hh
            exact ⟨a, n, c, h1, own_monoE h2 h'.size, h'.trans (h3.mono h'.size)⟩ : ∃ a n c, e = .returned (.slice a n c) ∧ OwnS wr.heap.size w2 (.slice a n c) (((gphD xs).W r' j).map (catB S2)) ∧ Below wr.heap.size wr w2))
          have HMAP := Shh.mk (show (((gphD xs).W r' j).map (c :: ·)).map (catB s) = ((gphD xs).W r' j).map (catB S2) from by
            rw [hS3, List.map_map]
            exact List.map_congr_left fun t _ => (catB_cons s c t).symm)
          have hlk : (k : Int) + 1 ≤ (ls.size : Int) := by have := HLEN.out; omega
          have hwr : IntKind.i64.wrap ((k : Int) + 1) = (k : Int) + 1 := IntWalk.i64_in _ (by omega)
          have hlo : (0 : Int) ≤ (k : Int) + 1 := by omega
          have hup : (k : Int) ≤ (k : Int) + 1 := by omega
          have hnn : ((k : Int) + 1).toNat = k + 1 := by omega
          have hmx : ¬ 9223372036854775807 < s.size + (min (k + 1) ls.size - k) := by omega
          have hin : (i : Int) < (xs.length : Int) := by omega
          have HLL := Shh.mk (show (((gphD xs).T (r' + 1) i k).map (catB s)).length + (((gphD xs).W r' j).map (catB S2)).length ≤ 4000000 from by rw [List.length_map, List.length_map]; omega)
          obtain ⟨LT, hLT⟩ : ∃ LT, ((gphD xs).T (r' + 1) i k).map (catB s) = LT := ⟨_, rfl⟩
          obtain ⟨LW, hLW⟩ : ∃ LW, ((gphD xs).W r' j).map (catB S2) = LW := ⟨_, rfl⟩
          have HNEW := Shh.mk (show ((gphD xs).T (r' + 1) i (k + 1)).map (catB s) = LT ++ LW from by rw [HTS.out, List.map_append, hLT]; exact congrArg (LT ++ ·) (HMAP.out.trans hLW))
          rw [hLT] at HFO HLL ⊢
          rw [hLW] at HCALL HLL
          obtain ⟨nLT, hnLT⟩ : ∃ n, LT.length = n := ⟨_, rfl⟩
          have HNLT := Shh.mk hnLT
          rw [hnLT] at HFO ⊢
          have HKEEP := Shh.mk (fun (w' : World) (h' : Below (w.heap.size + 1) (w.alloc (.cells #[.slice (some ⟨bn, on, none⟩) xs.length nc] 29)) w') => show w'.cell? ⟨w.heap.size, 0, none⟩ = some (.slice (some ⟨bn, on, none⟩) xs.length nc) ∧ w'.cell? ⟨bn, on + i * 3 + 1, none⟩ = some (.string ls) from ⟨HCELL.out _ h', (HNODE.out _ h').1⟩)
          have HGRW := Shh.mk (fun (w2 w3 : World) (h2 : Below wr.heap.size wr w2) (hg : w2.grownBy w3 (Value.slice fa nLT fc).ownBlock) => show Below (w.heap.size + 1) (w.alloc (.cells #[.slice (some ⟨bn, on, none⟩) xs.length nc] 29)) w3 from (HB.out.trans (h2.mono hwb)).grown hg (Nat.le_trans hwb h2.size) (own_blockE HFO.out))
          clear hcu hz hek hc' hS3 hmo hmo' hokj n2 hLT hLW hnLT hb
          go_wp2
          go_region_held3 (fun w' => w'.cell? ⟨w.heap.size, 0, none⟩ = some (.slice (some ⟨bn, on, none⟩) xs.length nc) ∧ w'.cell? ⟨bn, on + i * 3 + 1, none⟩ = some (.string ls))
            (exact HKEEP.out _ (by first | exact HB.out.drew | exact HB.out | exact HB.out.trans (Below.mono (by assumption) hwb) | assumption))
            (first
              | (go_at_call 98; with_reducible refine (HCALL.out _ (by first | exact (Below.refl _ _).drew | exact Below.refl _ _ | assumption)).mono ?_; rintro e w2 ⟨ua2, un2, uc2, rfl, ho2, hb2⟩)
              | (refine step_append_strs (by rfl) _ _ (by rfl) (B := w.heap.size + 1) (xs := LT) (ys := LW) (by rfl) (by rfl) (OwnS.kept HFO.out hb2) (OwnS.strs ho2) HLL.out (Nat.le_trans hwb hb2.size) ?_; intro v3 w3 ho3 hg3; obtain ⟨a3, c3, rfl, -, -, -⟩ := own_form ho3; have hB3 := HGRW.out _ _ hb2 hg3))
          all_goals
            go_wp2
            go_roundw
            case rel => exact ⟨k + 1, a3, c3, by omega, by go_num, by rw [HNEW.out, List.length_append], by rw [HNEW.out]; exact ho3, hB3⟩
            case measure => simp [intOf]; omega
        · obtain rfl : k = ns.length := by omega
          have HR := Shh.mk (show (gphD xs).T r i ns.length = (gphD xs).W r i from by rw [← HEL.out]; exact Gph.T_all HOK.out)
          have HFI := Shh.mk (show OwnS w.heap.size wr (.slice fa (((gphD xs).W r i).map (catB s)).length fc) (((gphD xs).W r i).map (catB s)) from by rw [← HR.out]; exact own_monoE HFO.out (Nat.le_succ _))
          rw [HR.out]
          clear hb
          go_wp2
          go_ret
          exact ⟨_, _, _, rfl, HFI.out, HWW.out.trans (Below.mono HB.out (Nat.le_succ _))⟩

theorem strings_does {xs : List Nod} {v : Value} (W0 : World) (hx : Nds W0 v xs) (hs : Shp xs) : ∀ r, stringsDo W0 v xs r := fun r => Nat.strongRecOn r fun r ih => strings_step W0 hx hs  r ih
def bucketDo (W0 : World) (v : Value) (xs : List Nod) (nb t : Nat) (r : Nat) : Prop := ∀ (i : Nat) (s : ByteArray) (w : World), i < xs.length → ((gphD xs).to fun k => k == t).okH (r + 1) i = true → s.size + r ≤ 100000 → (((gphD xs).to fun k => k == t).W r i).length ≤ 100000 → Below W0.heap.size W0 w →
    Calls Tryd.prog 98 #[.agg #[v], .func (.func 97) #[] #[.pointer (some ⟨nb, 0, none⟩)], .int .i64 (i : Int), .string s] w fun e w' => ∃ a n c, e = .returned (.slice a n c) ∧ OwnS w.heap.size w' (.slice a n c) ((((gphD xs).to fun k => k == t).W r i).map (catB s)) ∧ Below w.heap.size w w'
set_option maxRecDepth 100000 in
set_option maxHeartbeats 8000000 in
theorem bucket_step {xs : List Nod} {v : Value} {nb t : Nat} (W0 : World) (hx : Nds W0 v xs) (hs : Shp xs) (hnb : Blk W0 nb 2 #[.int .i64 (t : Int)]) (r : Nat) (hrec : ∀ r', r' < r → bucketDo W0 v xs nb t r') : bucketDo W0 v xs nb t r := by
    intro i s w hi hok hsz hfew hW
    have HREC := Shh.mk hrec
    clear hrec
    have HX := Shh.mk hx
    have HSH := Shh.mk hs
    have HOK := Shh.mk hok
    have HFEW := Shh.mk hfew
    have HWW := Shh.mk (show Below w.heap.size w (w.alloc (.cells #[v] 29)) from (Below.refl _ _).alloc (Nat.le_refl _) _)
    have HW1 := Shh.mk (show Below W0.heap.size W0 (w.alloc (.cells #[v] 29)) from hW.alloc hW.size _)
    have HW0 := Shh.mk (fun (w' : World) (h' : Below (w.heap.size + 1) (w.alloc (.cells #[v] 29)) w') => show Below W0.heap.size W0 w' from HW1.out.trans (h'.mono (by have := hW.size; omega)))
    have HCELL := Shh.mk (fun (w' : World) (h' : Below (w.heap.size + 1) (w.alloc (.cells #[v] 29)) w') => show w'.cell? ⟨w.heap.size, 0, none⟩ = some v from (Blk.kept (Blk.made w 29 #[v]) (by rw [World.size_alloc]; exact h') (Blk.made w 29 #[v]).lt).cells 0)
    have hxl := hx.len
    have hsh := hs.node i hi
    have hE0 : ((gphD xs).to fun k => k == t).E i = (nodG xs i).ls.data.toList.zip ((nodG xs i).ns.map Int.toNat) := rfl
    obtain ⟨na, nc, rfl, hn1, hn2, hnn⟩ := hx
    obtain ⟨bn, on, rfl, hbn, hcn⟩ := hnn (by omega)
    have hn := hcn i hi
    have hEL := hs.E_len hi
    have hEA := fun k (hk : k < (nodG xs i).ns.length) => hs.E_at hi hk
    obtain ⟨x, hxx⟩ : ∃ x, nodG xs i = x := ⟨_, rfl⟩
    have HXX := Shh.mk hxx
    rw [hxx] at hn hsh hE0 hEL hEA
    obtain ⟨f, ls, ns⟩ := x
    obtain ⟨-, n1, u, n2, hu⟩ := hn
    simp only at n1 n2 hu hE0 hEL hEA
    have hul := hu.len
    obtain ⟨ua, uc, rfl, hu1, hu2, hu3, -⟩ := hu
    have HU := Shh.mk (fun (h0 : 0 < ns.length) => show ∃ b o, ua = some ⟨b, o, none⟩ ∧ b < W0.heap.size ∧ ∀ k, k < ns.length → ∀ w', Below (w.heap.size + 1) (w.alloc (.cells #[.slice (some ⟨bn, on, none⟩) xs.length nc] 29)) w' → w'.cell? ⟨b, o + k, none⟩ = some (.int .i64 (ns.getD k 0)) from by
      obtain ⟨b, o, e, hb, hc⟩ := hu3 h0
      exact ⟨b, o, e, hb, fun k hk w' h' => ((HW0.out w' h').cell (p := ⟨b, o + k, none⟩) hb).trans (hc k hk)⟩)
    have HNODE := Shh.mk (fun (w' : World) (h' : Below (w.heap.size + 1) (w.alloc (.cells #[.slice (some ⟨bn, on, none⟩) xs.length nc] 29)) w') => show w'.cell? ⟨bn, on + i * 3 + 1, none⟩ = some (.string ls) ∧ w'.cell? ⟨bn, on + i * 3 + 2, none⟩ = some (.slice ua ns.length uc) from
      ⟨((HW0.out w' h').cell (p := ⟨bn, on + i * 3 + 1, none⟩) hbn).trans n1, ((HW0.out w' h').cell (p := ⟨bn, on + i * 3 + 2, none⟩) hbn).trans n2⟩)
    have HLEN := Shh.mk (show ls.size = ns.length from hsh.len)
    have HEL := Shh.mk (show (((gphD xs).to fun k => k == t).E i).length = ns.length from hEL)
    have HE := Shh.mk (fun k (hk : k < ns.length) => show (((gphD xs).to fun k => k == t).E i)[k]? = some (ls.data.toList.getD k 0, (ns.getD k 0).toNat) from hEA k hk)
    have HNX := Shh.mk (fun k (hk : k < ns.length) => show 0 ≤ ns.getD k 0 ∧ ns.getD k 0 < xs.length by rw [List.getD_eq_getElem?_getD, List.getElem?_eq_getElem hk]; exact hsh.next _ (List.getElem_mem hk))
    obtain ⟨F, hF⟩ : ∃ F, ((gphD xs).to fun k => k == t).F i = F := ⟨_, rfl⟩
    have HF := Shh.mk hF
    have hin : (i : Int) < (xs.length : Int) := by omega
    clear hu3 hsh hE0 hEL hEA hnn hcn hxx hW hok hfew n1 n2
    have HCF := Shh.mk (fun (w' : World) (h' : Below (w.heap.size + 1) (w.alloc (.cells #[.slice (some ⟨bn, on, none⟩) xs.length nc] 29)) w') => show Calls Tryd.prog 97 #[.int .i64 (i : Int), .pointer (some ⟨nb, 0, none⟩)] w' fun e w2 => e = .returned (.bool F) ∧ Below w'.heap.size w' w2 from by rw [← HF.out]; exact (isWanted_any w' (hnb.kept (HW0.out w' h') hnb.lt) i).mono fun e w2 h => ⟨h.1, by rw [h.2]; exact Below.refl _ _⟩)
    have HNB := Shh.mk hnb
    cases F
    · have HT0 := Shh.mk (show ((gphD xs).to fun k => k == t).T r i 0 = [] from by unfold Gph.T; rw [HF.out]; simp)
      go_enter Tryd.func98, Tryd.ntmps98
      go_wp2_with (go_at_call 97; refine (HCF.out _ (Below.refl _ _)).mono ?_; rintro e w1 ⟨rfl, hb1⟩; have HB1 := Shh.mk (show Below (w.heap.size + 1) (w.alloc (.cells #[.slice (some ⟨bn, on, none⟩) xs.length nc] 29)) w1 from by have h9 := hb1; rw [World.size_alloc] at h9; exact h9); have HSZ1 := Shh.mk (show w.heap.size + 1 ≤ w1.heap.size from by have := hb1.size; rw [World.size_alloc] at this; exact this); have d1 : w1.cell? ⟨w.heap.size, 0, none⟩ = some (.slice (some ⟨bn, on, none⟩) xs.length nc) := HCELL.out _ HB1.out; have n21 := (HNODE.out _ HB1.out).2; clear hb1)
      go_loopw [9, 10, 11, 26] (fun fo _ _ z wr => ∃ (k : Nat) (a : Option Addr) (c : Nat), k ≤ ns.length ∧ z = .int .i64 k ∧ fo = .slice a ((((gphD xs).to fun k => k == t).T r i k).map (catB s)).length c ∧ OwnS (w.heap.size + 1) wr (.slice a ((((gphD xs).to fun k => k == t).T r i k).map (catB s)).length c) ((((gphD xs).to fun k => k == t).T r i k).map (catB s)) ∧ Below (w.heap.size + 1) (w.alloc (.cells #[.slice (some ⟨bn, on, none⟩) xs.length nc] 29)) wr) (fun _ _ _ z _ => ns.length - (intOf z).toNat)
      case atStart => exact ⟨0, _, _, Nat.zero_le _, rfl, by rw [HT0.out]; rfl, by rw [HT0.out]; exact ⟨rfl, .inl ⟨rfl, rfl⟩⟩, HB1.out⟩
      case round =>
        obtain ⟨k, fa, fc, hkl, rfl, rfl, hfo, hb⟩ := hrel
        have HFO := Shh.mk hfo
        have HB := Shh.mk hb
        have d0 : wr.cell? ⟨w.heap.size, 0, none⟩ = some (.slice (some ⟨bn, on, none⟩) xs.length nc) := HCELL.out _ hb
        obtain ⟨n1, n2⟩ := HNODE.out _ hb
        clear hfo
        by_cases hk : k < ns.length
        · obtain ⟨bu, ou, rfl, hbu, hcu⟩ := HU.out (by omega)
          have cu := hcu k hk _ hb
          obtain ⟨hz0', hz1'⟩ := HNX.out k hk
          have hek := HE.out k hk
          obtain ⟨z, hz⟩ : ∃ z, ns.getD k 0 = z := ⟨_, rfl⟩
          rw [hz] at cu hz0' hz1' hek
          obtain ⟨j, rfl⟩ : ∃ j : Nat, z = (j : Int) := ⟨z.toNat, by omega⟩
          rw [toNat_cast] at hek
          have hjn : j < xs.length := by omega
          obtain ⟨r', rfl⟩ : ∃ r', r = r' + 1 := by
            cases r with
            | zero => exact absurd (Gph.okH_step.1 HOK.out _ (List.mem_of_getElem? hek)) (by simp [Gph.okH])
            | succ r' => exact ⟨r', rfl⟩
          have hokj := Gph.okH_step.1 HOK.out _ (List.mem_of_getElem? hek)
          have HTS := Shh.mk (Gph.T_succ (r := r' + 1) hek)
          have hmo := Gph.T_mono (G := ((gphD xs).to fun k => k == t)) (r := r' + 1) (i := i) (show k + 1 ≤ (((gphD xs).to fun k => k == t).E i).length by have := HEL.out; omega)
          rw [Gph.T_all HOK.out, HTS.out, List.length_append, List.length_map] at hmo
          have hmo' : (((gphD xs).to fun k => k == t).T (r' + 1) i k).length + (((gphD xs).to fun k => k == t).W r' j).length ≤ 100000 := Nat.le_trans hmo HFEW.out
          obtain ⟨S2, hS2⟩ : ∃ S2, s ++ ls.extract k (k + 1) = S2 := ⟨_, rfl⟩
          obtain ⟨c, hc'⟩ : ∃ c, ls.data.toList.getD k 0 = c := ⟨_, rfl⟩
          rw [hc'] at hek HTS
          have hS3 : S2 = catB s [c] := by rw [← hS2, ← hc']; exact cat_at (by have := HLEN.out; omega)
          have hsz2 : S2.size + r' ≤ 100000 := by rw [hS3, catB_size]; omega
          have hwb : w.heap.size + 1 ≤ wr.heap.size := by have := hb.size; rw [World.size_alloc] at this; exact this
          have HCALL := Shh.mk (fun (w' : World) (h' : Below wr.heap.size wr w') => (HREC.out r' (Nat.lt_succ_self _) j S2 w' hjn hokj hsz2 (by omega) ((HW0.out _ hb).trans (h'.mono (HW0.out _ hb).size))).mono fun e w2 (hh : ∃ a n c, e = .returned (.slice a n c) ∧ OwnS w'.heap.size w2 (.slice a n c) ((((gphD xs).to fun k => k == t).W r' j).map (catB S2)) ∧ Below w'.heap.size w' w2) => (by
            obtain ⟨a, n, c, h1, h2, h3⟩ := hh
            exact ⟨a, n, c, h1, own_monoE h2 h'.size, h'.trans (h3.mono h'.size)⟩ : ∃ a n c, e = .returned (.slice a n c) ∧ OwnS wr.heap.size w2 (.slice a n c) ((((gphD xs).to fun k => k == t).W r' j).map (catB S2)) ∧ Below wr.heap.size wr w2))
          have HMAP := Shh.mk (show ((((gphD xs).to fun k => k == t).W r' j).map (c :: ·)).map (catB s) = (((gphD xs).to fun k => k == t).W r' j).map (catB S2) from by
            rw [hS3, List.map_map]
            exact List.map_congr_left fun t _ => (catB_cons s c t).symm)
          have hlk : (k : Int) + 1 ≤ (ls.size : Int) := by have := HLEN.out; omega
          have hwr : IntKind.i64.wrap ((k : Int) + 1) = (k : Int) + 1 := IntWalk.i64_in _ (by omega)
          have hlo : (0 : Int) ≤ (k : Int) + 1 := by omega
          have hup : (k : Int) ≤ (k : Int) + 1 := by omega
          have hnn : ((k : Int) + 1).toNat = k + 1 := by omega
          have hmx : ¬ 9223372036854775807 < s.size + (min (k + 1) ls.size - k) := by omega
          have hin : (i : Int) < (xs.length : Int) := by omega
          have HLL := Shh.mk (show ((((gphD xs).to fun k => k == t).T (r' + 1) i k).map (catB s)).length + ((((gphD xs).to fun k => k == t).W r' j).map (catB S2)).length ≤ 4000000 from by rw [List.length_map, List.length_map]; omega)
          obtain ⟨LT, hLT⟩ : ∃ LT, (((gphD xs).to fun k => k == t).T (r' + 1) i k).map (catB s) = LT := ⟨_, rfl⟩
          obtain ⟨LW, hLW⟩ : ∃ LW, (((gphD xs).to fun k => k == t).W r' j).map (catB S2) = LW := ⟨_, rfl⟩
          have HNEW := Shh.mk (show (((gphD xs).to fun k => k == t).T (r' + 1) i (k + 1)).map (catB s) = LT ++ LW from by rw [HTS.out, List.map_append, hLT]; exact congrArg (LT ++ ·) (HMAP.out.trans hLW))
          rw [hLT] at HFO HLL ⊢
          rw [hLW] at HCALL HLL
          obtain ⟨nLT, hnLT⟩ : ∃ n, LT.length = n := ⟨_, rfl⟩
          have HNLT := Shh.mk hnLT
          rw [hnLT] at HFO ⊢
          have HKEEP := Shh.mk (fun (w' : World) (h' : Below (w.heap.size + 1) (w.alloc (.cells #[.slice (some ⟨bn, on, none⟩) xs.length nc] 29)) w') => show w'.cell? ⟨w.heap.size, 0, none⟩ = some (.slice (some ⟨bn, on, none⟩) xs.length nc) ∧ w'.cell? ⟨bn, on + i * 3 + 1, none⟩ = some (.string ls) from ⟨HCELL.out _ h', (HNODE.out _ h').1⟩)
          have HGRW := Shh.mk (fun (w2 w3 : World) (h2 : Below wr.heap.size wr w2) (hg : w2.grownBy w3 (Value.slice fa nLT fc).ownBlock) => show Below (w.heap.size + 1) (w.alloc (.cells #[.slice (some ⟨bn, on, none⟩) xs.length nc] 29)) w3 from (HB.out.trans (h2.mono hwb)).grown hg (Nat.le_trans hwb h2.size) (own_blockE HFO.out))
          clear hcu hz hek hc' hS3 hmo hmo' hokj n2 hLT hLW hnLT hb
          go_wp2
          go_region_held3 (fun w' => w'.cell? ⟨w.heap.size, 0, none⟩ = some (.slice (some ⟨bn, on, none⟩) xs.length nc) ∧ w'.cell? ⟨bn, on + i * 3 + 1, none⟩ = some (.string ls))
            (exact HKEEP.out _ (by first | exact HB.out.drew | exact HB.out | exact HB.out.trans (Below.mono (by assumption) hwb) | assumption))
            (first
              | (go_at_call 98; with_reducible refine (HCALL.out _ (by first | exact (Below.refl _ _).drew | exact Below.refl _ _ | assumption)).mono ?_; rintro e w2 ⟨ua2, un2, uc2, rfl, ho2, hb2⟩)
              | (refine step_append_strs (by rfl) _ _ (by rfl) (B := w.heap.size + 1) (xs := LT) (ys := LW) (by rfl) (by rfl) (OwnS.kept HFO.out hb2) (OwnS.strs ho2) HLL.out (Nat.le_trans hwb hb2.size) ?_; intro v3 w3 ho3 hg3; obtain ⟨a3, c3, rfl, -, -, -⟩ := own_form ho3; have hB3 := HGRW.out _ _ hb2 hg3))
          all_goals
            go_wp2
            go_roundw
            case rel => exact ⟨k + 1, a3, c3, by omega, by go_num, by rw [HNEW.out, List.length_append], by rw [HNEW.out]; exact ho3, hB3⟩
            case measure => simp [intOf]; omega
        · obtain rfl : k = ns.length := by omega
          have HR := Shh.mk (show ((gphD xs).to fun k => k == t).T r i ns.length = ((gphD xs).to fun k => k == t).W r i from by rw [← HEL.out]; exact Gph.T_all HOK.out)
          have HFI := Shh.mk (show OwnS w.heap.size wr (.slice fa ((((gphD xs).to fun k => k == t).W r i).map (catB s)).length fc) ((((gphD xs).to fun k => k == t).W r i).map (catB s)) from by rw [← HR.out]; exact own_monoE HFO.out (Nat.le_succ _))
          rw [HR.out]
          clear hb
          go_wp2
          go_ret
          exact ⟨_, _, _, rfl, HFI.out, HWW.out.trans (Below.mono HB.out (Nat.le_succ _))⟩

    · have HT0 := Shh.mk (show ((gphD xs).to fun k => k == t).T r i 0 = [[]] from by unfold Gph.T; rw [HF.out]; simp)
      go_enter Tryd.func98, Tryd.ntmps98
      go_wp2_with (first
        | (go_at_call 97; refine (HCF.out _ (Below.refl _ _)).mono ?_; rintro e w1 ⟨rfl, hb1⟩; have HB1 := Shh.mk (show Below (w.heap.size + 1) (w.alloc (.cells #[.slice (some ⟨bn, on, none⟩) xs.length nc] 29)) w1 from by have h9 := hb1; rw [World.size_alloc] at h9; exact h9); have HSZ1 := Shh.mk (show w.heap.size + 1 ≤ w1.heap.size from by have := hb1.size; rw [World.size_alloc] at this; exact this); have d1 : w1.cell? ⟨w.heap.size, 0, none⟩ = some (.slice (some ⟨bn, on, none⟩) xs.length nc) := HCELL.out _ HB1.out; have n21 := (HNODE.out _ HB1.out).2; clear hb1)
        | (at_builtin; refine append_strE (by rfl) _ _ (by rfl) (B := w.heap.size + 1) (.slice none 0 0) [] s (by rfl) (by rfl) ⟨rfl, .inl ⟨rfl, rfl⟩⟩ (by simp) HSZ1.out ?_; intro v3 w3 ho3 hb3; obtain ⟨a3, c3, rfl, -, -, -⟩ := own_form ho3; have HO3 := Shh.mk ho3; have HB3 := Shh.mk (hb3 _ HB1.out); have n2b := (HNODE.out _ HB3.out).2; have d3 : w3.cell? ⟨w.heap.size, 0, none⟩ = some (.slice (some ⟨bn, on, none⟩) xs.length nc) := HCELL.out _ HB3.out; clear ho3 hb3))
      go_loopw [9, 10, 11, 26] (fun fo _ _ z wr => ∃ (k : Nat) (a : Option Addr) (c : Nat), k ≤ ns.length ∧ z = .int .i64 k ∧ fo = .slice a ((((gphD xs).to fun k => k == t).T r i k).map (catB s)).length c ∧ OwnS (w.heap.size + 1) wr (.slice a ((((gphD xs).to fun k => k == t).T r i k).map (catB s)).length c) ((((gphD xs).to fun k => k == t).T r i k).map (catB s)) ∧ Below (w.heap.size + 1) (w.alloc (.cells #[.slice (some ⟨bn, on, none⟩) xs.length nc] 29)) wr) (fun _ _ _ z _ => ns.length - (intOf z).toNat)
      case atStart => exact ⟨0, _, _, Nat.zero_le _, rfl, by rw [HT0.out]; rfl, by rw [HT0.out]; simpa [catB_nil] using HO3.out, HB3.out⟩
      case round =>
        obtain ⟨k, fa, fc, hkl, rfl, rfl, hfo, hb⟩ := hrel
        have HFO := Shh.mk hfo
        have HB := Shh.mk hb
        have d0 : wr.cell? ⟨w.heap.size, 0, none⟩ = some (.slice (some ⟨bn, on, none⟩) xs.length nc) := HCELL.out _ hb
        obtain ⟨n1, n2⟩ := HNODE.out _ hb
        clear hfo
        by_cases hk : k < ns.length
        · obtain ⟨bu, ou, rfl, hbu, hcu⟩ := HU.out (by omega)
          have cu := hcu k hk _ hb
          obtain ⟨hz0', hz1'⟩ := HNX.out k hk
          have hek := HE.out k hk
          obtain ⟨z, hz⟩ : ∃ z, ns.getD k 0 = z := ⟨_, rfl⟩
          rw [hz] at cu hz0' hz1' hek
          obtain ⟨j, rfl⟩ : ∃ j : Nat, z = (j : Int) := ⟨z.toNat, by omega⟩
          rw [toNat_cast] at hek
          have hjn : j < xs.length := by omega
          obtain ⟨r', rfl⟩ : ∃ r', r = r' + 1 := by
            cases r with
            | zero => exact absurd (Gph.okH_step.1 HOK.out _ (List.mem_of_getElem? hek)) (by simp [Gph.okH])
            | succ r' => exact ⟨r', rfl⟩
          have hokj := Gph.okH_step.1 HOK.out _ (List.mem_of_getElem? hek)
          have HTS := Shh.mk (Gph.T_succ (r := r' + 1) hek)
          have hmo := Gph.T_mono (G := ((gphD xs).to fun k => k == t)) (r := r' + 1) (i := i) (show k + 1 ≤ (((gphD xs).to fun k => k == t).E i).length by have := HEL.out; omega)
          rw [Gph.T_all HOK.out, HTS.out, List.length_append, List.length_map] at hmo
          have hmo' : (((gphD xs).to fun k => k == t).T (r' + 1) i k).length + (((gphD xs).to fun k => k == t).W r' j).length ≤ 100000 := Nat.le_trans hmo HFEW.out
          obtain ⟨S2, hS2⟩ : ∃ S2, s ++ ls.extract k (k + 1) = S2 := ⟨_, rfl⟩
          obtain ⟨c, hc'⟩ : ∃ c, ls.data.toList.getD k 0 = c := ⟨_, rfl⟩
          rw [hc'] at hek HTS
          have hS3 : S2 = catB s [c] := by rw [← hS2, ← hc']; exact cat_at (by have := HLEN.out; omega)
          have hsz2 : S2.size + r' ≤ 100000 := by rw [hS3, catB_size]; omega
          have hwb : w.heap.size + 1 ≤ wr.heap.size := by have := hb.size; rw [World.size_alloc] at this; exact this
          have HCALL := Shh.mk (fun (w' : World) (h' : Below wr.heap.size wr w') => (HREC.out r' (Nat.lt_succ_self _) j S2 w' hjn hokj hsz2 (by omega) ((HW0.out _ hb).trans (h'.mono (HW0.out _ hb).size))).mono fun e w2 (hh : ∃ a n c, e = .returned (.slice a n c) ∧ OwnS w'.heap.size w2 (.slice a n c) ((((gphD xs).to fun k => k == t).W r' j).map (catB S2)) ∧ Below w'.heap.size w' w2) => (by
            obtain ⟨a, n, c, h1, h2, h3⟩ := hh
            exact ⟨a, n, c, h1, own_monoE h2 h'.size, h'.trans (h3.mono h'.size)⟩ : ∃ a n c, e = .returned (.slice a n c) ∧ OwnS wr.heap.size w2 (.slice a n c) ((((gphD xs).to fun k => k == t).W r' j).map (catB S2)) ∧ Below wr.heap.size wr w2))
          have HMAP := Shh.mk (show ((((gphD xs).to fun k => k == t).W r' j).map (c :: ·)).map (catB s) = (((gphD xs).to fun k => k == t).W r' j).map (catB S2) from by
            rw [hS3, List.map_map]
            exact List.map_congr_left fun t _ => (catB_cons s c t).symm)
          have hlk : (k : Int) + 1 ≤ (ls.size : Int) := by have := HLEN.out; omega
          have hwr : IntKind.i64.wrap ((k : Int) + 1) = (k : Int) + 1 := IntWalk.i64_in _ (by omega)
          have hlo : (0 : Int) ≤ (k : Int) + 1 := by omega
          have hup : (k : Int) ≤ (k : Int) + 1 := by omega
          have hnn : ((k : Int) + 1).toNat = k + 1 := by omega
          have hmx : ¬ 9223372036854775807 < s.size + (min (k + 1) ls.size - k) := by omega
          have hin : (i : Int) < (xs.length : Int) := by omega
          have HLL := Shh.mk (show ((((gphD xs).to fun k => k == t).T (r' + 1) i k).map (catB s)).length + ((((gphD xs).to fun k => k == t).W r' j).map (catB S2)).length ≤ 4000000 from by rw [List.length_map, List.length_map]; omega)
          obtain ⟨LT, hLT⟩ : ∃ LT, (((gphD xs).to fun k => k == t).T (r' + 1) i k).map (catB s) = LT := ⟨_, rfl⟩
          obtain ⟨LW, hLW⟩ : ∃ LW, (((gphD xs).to fun k => k == t).W r' j).map (catB S2) = LW := ⟨_, rfl⟩
          have HNEW := Shh.mk (show (((gphD xs).to fun k => k == t).T (r' + 1) i (k + 1)).map (catB s) = LT ++ LW from by rw [HTS.out, List.map_append, hLT]; exact congrArg (LT ++ ·) (HMAP.out.trans hLW))
          rw [hLT] at HFO HLL ⊢
          rw [hLW] at HCALL HLL
          obtain ⟨nLT, hnLT⟩ : ∃ n, LT.length = n := ⟨_, rfl⟩
          have HNLT := Shh.mk hnLT
          rw [hnLT] at HFO ⊢
          have HKEEP := Shh.mk (fun (w' : World) (h' : Below (w.heap.size + 1) (w.alloc (.cells #[.slice (some ⟨bn, on, none⟩) xs.length nc] 29)) w') => show w'.cell? ⟨w.heap.size, 0, none⟩ = some (.slice (some ⟨bn, on, none⟩) xs.length nc) ∧ w'.cell? ⟨bn, on + i * 3 + 1, none⟩ = some (.string ls) from ⟨HCELL.out _ h', (HNODE.out _ h').1⟩)
          have HGRW := Shh.mk (fun (w2 w3 : World) (h2 : Below wr.heap.size wr w2) (hg : w2.grownBy w3 (Value.slice fa nLT fc).ownBlock) => show Below (w.heap.size + 1) (w.alloc (.cells #[.slice (some ⟨bn, on, none⟩) xs.length nc] 29)) w3 from (HB.out.trans (h2.mono hwb)).grown hg (Nat.le_trans hwb h2.size) (own_blockE HFO.out))
          clear hcu hz hek hc' hS3 hmo hmo' hokj n2 hLT hLW hnLT hb
          go_wp2
          go_region_held3 (fun w' => w'.cell? ⟨w.heap.size, 0, none⟩ = some (.slice (some ⟨bn, on, none⟩) xs.length nc) ∧ w'.cell? ⟨bn, on + i * 3 + 1, none⟩ = some (.string ls))
            (exact HKEEP.out _ (by first | exact HB.out.drew | exact HB.out | exact HB.out.trans (Below.mono (by assumption) hwb) | assumption))
            (first
              | (go_at_call 98; with_reducible refine (HCALL.out _ (by first | exact (Below.refl _ _).drew | exact Below.refl _ _ | assumption)).mono ?_; rintro e w2 ⟨ua2, un2, uc2, rfl, ho2, hb2⟩)
              | (refine step_append_strs (by rfl) _ _ (by rfl) (B := w.heap.size + 1) (xs := LT) (ys := LW) (by rfl) (by rfl) (OwnS.kept HFO.out hb2) (OwnS.strs ho2) HLL.out (Nat.le_trans hwb hb2.size) ?_; intro v3 w3 ho3 hg3; obtain ⟨a3, c3, rfl, -, -, -⟩ := own_form ho3; have hB3 := HGRW.out _ _ hb2 hg3))
          all_goals
            go_wp2
            go_roundw
            case rel => exact ⟨k + 1, a3, c3, by omega, by go_num, by rw [HNEW.out, List.length_append], by rw [HNEW.out]; exact ho3, hB3⟩
            case measure => simp [intOf]; omega
        · obtain rfl : k = ns.length := by omega
          have HR := Shh.mk (show ((gphD xs).to fun k => k == t).T r i ns.length = ((gphD xs).to fun k => k == t).W r i from by rw [← HEL.out]; exact Gph.T_all HOK.out)
          have HFI := Shh.mk (show OwnS w.heap.size wr (.slice fa ((((gphD xs).to fun k => k == t).W r i).map (catB s)).length fc) ((((gphD xs).to fun k => k == t).W r i).map (catB s)) from by rw [← HR.out]; exact own_monoE HFO.out (Nat.le_succ _))
          rw [HR.out]
          clear hb
          go_wp2
          go_ret
          exact ⟨_, _, _, rfl, HFI.out, HWW.out.trans (Below.mono HB.out (Nat.le_succ _))⟩

theorem bucket_does {xs : List Nod} {v : Value} {nb t : Nat} (W0 : World) (hx : Nds W0 v xs) (hs : Shp xs) (hnb : Blk W0 nb 2 #[.int .i64 (t : Int)]) : ∀ r, bucketDo W0 v xs nb t r := fun r => Nat.strongRecOn r fun r ih => bucket_step W0 hx hs hnb r ih
end Go.Proofs.YtokfkofclpajfaaDoor

/-
  The program's search breadth first: parentsFrom.
-/
import Derived.Test.YtpjekfebpgjgnaaUO
namespace Go.Proofs.Ytpjekfebpgjgnaa
open Go.RowKit Go.Lib Go.Maps

theorem parentsFrom_tells {g : Nat} {s : ByteArray} {us : List ByteArray} (W : World) (hg : Blk W g 9 #[.string s]) (hok : okL us = true) (hs : s.size ≤ 1048576) (hal : allSmall s.data.toList = true) : Tells 146 g W us (fun x => nearS s x) := by
  intro k hk wr hb
  have c0 := (hg.kept hb hg.lt).cells
  have HS := ShE.mk (long_all hok k hk)
  have HA := ShE.mk (word_small hok hk)
  obtain ⟨y, hy⟩ : ∃ y, strAt us k = y := ⟨_, rfl⟩
  rw [hy] at HS HA ⊢
  go_enter Try.func146, Try.ntmps146
  go_wp2_with fail
  refine (isChange_any s y _ hs hal).mono ?_
  rintro e w' ⟨rfl, hb'⟩
  go_wp2
  go_ret
  exact ⟨rfl, hb'⟩
theorem parentsFrom_enters : ∀ args w, (callFunc 146 args).run Try.prog w = .ok (.enter 146 args) w := enters_of Try.func146 (by kernel_rfl) rfl
theorem word_sizeP {us : List ByteArray} (hok : okL us = true) {s : ByteArray} (hs : s ∈ us) : s.size ≤ 1048576 ∧ allSmall s.data.toList = true := by
  obtain ⟨j, hj, rfl⟩ := mem_at hs
  exact ⟨long_all hok j hj, word_small hok hj⟩
theorem keyP {s : ByteArray} (h : s.size ≤ 1048576) : Go.keyOf Try.prog 9 (.string s) = some (.string s.data.toList) := WideMaps.keyOf_string_mk Try.underlying9 (by unfold maxLen; omega)
theorem dropS_at {q : List ByteArray} {h : Nat} (hh : h < q.length) : strAt (q.drop h) 0 = strAt q h := by
  rw [strAt_eq (by simp; omega), strAt_eq hh, List.getElem_drop]
  rfl
def lenV (v : Value) : Nat := match v with
  | .slice _ n _ => n
  | _ => 0
/-- What the search holds between two rounds. -/
structure Srch (w0 w : World) (v : Value) (us : List ByteArray) (s : ByteArray) (x : Value) (q : List ByteArray) (pi : Nat → Nat) (h : Nat) (D : DataW Value) : Prop where
  hq : h ≤ q.length
  que : QueueS (w0.heap.size + 2) w x (q.drop h)
  part : Part us s q pi h [] 0
  pars : Pars w (w0.heap.size + 1) q pi D
  lex : Blk w w0.heap.size 26 #[v]
  below : Below w0.heap.size w0 w
  size : w0.heap.size + 2 ≤ w.heap.size
theorem Srch.meas {w0 w : World} {v : Value} {us : List ByteArray} {s : ByteArray} {x : Value} {q : List ByteArray} {pi : Nat → Nat} {h : Nat} {D : DataW Value} (H : Srch w0 w v us s x q pi h D) : mapSize w (w0.heap.size + 1) - lenV x = h := by
  obtain ⟨g, off, cap, rfl, -⟩ := H.que.form
  have h1 := H.hq
  rw [H.pars.mapSize]
  simp [lenV]
  omega
theorem pickTo_memP {q : ByteArray → Bool} {us : List ByteArray} {x : ByteArray} : x ∈ pickTo q us us.length ↔ x ∈ us ∧ q x = true := by
  unfold pickTo
  rw [List.take_of_length_le (Nat.le_refl _)]
  exact List.mem_filter
theorem pickTo_riseP {q : ByteArray → Bool} {us : List ByteArray} (hr : Rise us) (k : Nat) : Rise (pickTo q us k) := by
  rw [rise_pw] at hr ⊢
  have hs : (pickTo q us k).Sublist us := List.Sublist.trans List.filter_sublist (List.take_sublist k us)
  exact hr.sublist (hs.map bytesOf)
theorem zeroStrP (w : World) : (zeroValue 9).run Try.prog w = .ok (.string ByteArray.empty) w := by kernel_rfl
/-- What it holds within a round. -/
structure Rnd (w0 : World) (gw : Nat) (w : World) (v : Value) (us : List ByteArray) (s y : ByteArray) (x nv : Value) (ns q : List ByteArray) (pi : Nat → Nat) (h : Nat) (D : DataW Value) (k : Nat) : Prop where
  hk : k ≤ ns.length
  hh : h < q.length
  word : strAt q h = y
  que : QueueS (w0.heap.size + 2) w x (q.drop (h + 1))
  off : ∀ g, x.ownBlock = some g → g ≠ gw ∧ nv.ownBlock ≠ some g
  part : Part us s q pi h ns k
  pars : Pars w (w0.heap.size + 1) q pi D
  lex : Blk w w0.heap.size 26 #[v]
  row : OwnS (gw + 1) w nv ns
  box : Blk w gw 9 #[.string y]
  below : Below w0.heap.size w0 w
  size : w0.heap.size + 2 ≤ gw
section
variable {w0 w : World} {gw : Nat} {v : Value} {us : List ByteArray} {s y : ByteArray} {x nv : Value} {ns q : List ByteArray} {pi : Nat → Nat} {h : Nat} {D : DataW Value} {k : Nat}
theorem Rnd.skip (H : Rnd w0 gw w v us s y x nv ns q pi h D k) (hk : k < ns.length) (hx : strAt ns k ∈ q) : Rnd w0 gw w v us s y x nv ns q pi h D (k + 1) :=
  ⟨hk, H.hh, H.word, H.que, H.off, H.part.skip hk hx, H.pars, H.lex, H.row, H.box, H.below, H.size⟩
theorem Rnd.add (H : Rnd w0 gw w v us s y x nv ns q pi h D k) (hk : k < ns.length) (hx : strAt ns k ∉ q) (hns : ns = pickTo (nearS y) us us.length) (hr : Rise ns) {w4 w5 : World} {x' : Value} {n : ByteArray} (hn : strAt ns k = n)
    (hm : w4.ownsMap Try.prog 9 idR (w0.heap.size + 1) (q.length + 1) (D.put (.string n.data.toList) (.held (.string y)))) (hg4 : w.grownBy w4 (some (w0.heap.size + 1)))
    (hq : QueueS (w0.heap.size + 2) w5 x' (q.drop (h + 1) ++ [n])) (hg5 : w4.grownBy w5 x.ownBlock) (hloc : x'.ownBlock = x.ownBlock ∨ ∃ g, x'.ownBlock = some g ∧ w4.heap.size ≤ g) :
    Rnd w0 gw w5 v us s y x' nv ns (q ++ [n]) (putAt pi q.length h) h (D.put (.string n.data.toList) (.held (.string y))) (k + 1) := by
  subst hn
  have hmem : strAt ns k ∈ ns := strAt_mem hk
  have hm2 : strAt ns k ∈ us ∧ nearS y (strAt ns k) = true := pickTo_memP.1 (by rw [← hns]; exact hmem)
  have hbl : ∀ j, j < w.heap.size → j ≠ w0.heap.size + 1 → x.ownBlock ≠ some j → w5.heap[j]? = w.heap[j]? := fun j h1 h2 h3 =>
    (hg5.block j (Nat.lt_of_lt_of_le h1 hg4.size) (fun e => h3 e.symm)).trans (hg4.block j h1 (fun e => h2 (by injection e)))
  have hxu := H.que.under
  have hgl := H.box.lt
  refine ⟨hk, by simp; have := H.hh; omega, by rw [strAt_left H.hh]; exact H.word, ?_, fun g e => ?_, ?_, ?_, ?_, ?_, ?_, ?_, H.size⟩
  · rw [List.drop_append_of_le_length (by have := H.hh; omega)]
    exact hq
  · rcases hloc with e2 | ⟨g2, e2, h2⟩
    · exact H.off g (by rw [← e2]; exact e)
    · rw [e2] at e
      injection e with e
      subst e
      refine ⟨by have := hg4.size; omega, fun e => ?_⟩
      have := (H.row.lt _ e).2
      have := hg4.size
      omega
  · exact H.part.add H.hh hk hx hm2.1 (by rw [H.word]; exact hm2.2) hr
  · have hp := H.pars.put (w' := w4) hx H.hh H.part.low H.word hm
    refine ⟨hp.map.kept hg5 (fun e => ?_), hp.size, hp.has, hp.here⟩
    have := hxu _ e.symm
    omega
  · exact (hbl _ H.lex.lt (by omega) (fun e => by have := hxu _ e; omega)).trans H.lex
  · have hoff := H.off
    have hrow := H.row
    have hrl := hrow.lt
    refine ⟨hrow.1, hrow.2.imp id ?_⟩
    rintro ⟨g, cap, cur, hv, hB, hg, r⟩
    have hg2 := hrl g (by rw [hv]; rfl)
    refine ⟨g, cap, cur, hv, hB, (hbl g hg2.2 (by have := H.size; omega) (fun e => ?_)).trans hg, r⟩
    exact (hoff g e).2 (by rw [hv]; rfl)
  · exact (hbl _ hgl (by have := H.size; omega) (fun e => (H.off gw e).1 rfl)).trans H.box
  · refine ⟨hg5.os.trans (hg4.os.trans H.below.os), hg5.tape.trans (hg4.tape.trans H.below.tape), hg5.output.trans (hg4.output.trans H.below.output), Nat.le_trans H.below.size (Nat.le_trans hg4.size hg5.size), fun i hi => ?_⟩
    refine (hbl i (Nat.lt_of_lt_of_le hi H.below.size) (by omega) (fun e => ?_)).trans (H.below.block i hi)
    have := hxu _ e
    omega
theorem Rnd.over (H : Rnd w0 gw w v us s y x nv ns q pi h D k) (hk : k = ns.length) (hns : ns = pickTo (nearS y) us us.length) : Srch w0 w v us s x q pi (h + 1) D := by
  subst hk
  have hp := H.part
  have hw := H.word
  subst hw
  subst hns
  exact ⟨H.hh, H.que, hp.over [], H.pars, H.lex, H.below, by have := H.box.lt; have := H.size; omega⟩
/-- The round begins. -/
theorem Srch.round {wr : World} {x0 : Value} (H : Srch w0 wr v us s x0 q pi h D) (hh : h < q.length) (hy : strAt q h = y) (hq : QueueS (w0.heap.size + 2) (wr.alloc (.cells #[.string y] 9)) x (q.drop (h + 1))) (hxb : x.ownBlock = x0.ownBlock)
    (hb : Below (wr.heap.size + 1) (wr.alloc (.cells #[.string y] 9)) w) (ho : OwnS (wr.heap.size + 1) w nv ns) : Rnd w0 wr.heap.size w v us s y x nv ns q pi h D 0 := by
  have hsz : (wr.alloc (.cells #[.string y] 9)).heap.size = wr.heap.size + 1 := by simp
  have hbw : Below wr.heap.size wr w := ((Below.refl wr.heap.size wr).alloc (Nat.le_refl _) _).trans (hb.mono (by omega))
  refine ⟨Nat.zero_le _, hh, hy, hq.kept fun g _ hg => hb.block g (by omega), fun g e => ?_, H.part.turn rfl ns, H.pars.below hbw, (hbw.block _ H.lex.lt).trans H.lex, ho, (hb.block _ (by omega)).trans (heap_alloc_new wr _), H.below.trans (hbw.mono (by have := H.size; omega)), H.size⟩
  rw [hxb] at e
  have h1 := H.que.under g e
  refine ⟨by omega, fun e2 => ?_⟩
  have := (ho.lt _ e2).1
  omega
end
set_option maxRecDepth 100000 in
set_option maxHeartbeats 2000000 in
theorem parentsFrom_any {v : Value} {us : List ByteArray} {s : ByteArray} (w : World) (hu : Strs w v us) (hok : okL us = true) (hs : s ∈ us) :
    Calls Try.prog 92 #[.agg #[v], .string s] w fun e w' => ∃ (b : Nat) (q : List ByteArray) (pi : Nat → Nat) (D : DataW Value), e = .returned (.map (some b)) ∧ w.heap.size ≤ b ∧ Pars w' b q pi D ∧ Found us s q pi ∧ q.Nodup ∧ Below w.heap.size w w' := by
  have hz := word_sizeP hok hs
  have hkey := keyP hz.1
  have hn := okL_size hok
  have hmm := @run_makeMap Try.prog
  have hown := World.ownsMap_made (H := Value) (w.alloc (.cells #[v] 26)) Try.prog 9 idR
  obtain ⟨w1, hrun1, hm1, hg1⟩ := hown.update (string_keyed Try.underlying9) Try.underlying75 (by unfold maxLen; omega) hkey (val := .string s) (d := .held (.string s)) (ps := []) rfl
  have hsz0 : (w.alloc (.cells #[v] 26)).heap.size = w.heap.size + 1 := by simp
  rw [hsz0] at hrun1 hm1 hg1
  have hsz1 : w.heap.size + 2 ≤ w1.heap.size := by have := hg1.size; simp at this; omega
  have hst : Srch w (w1.alloc (.cells #[.string s] 9)) v us s (.slice (some ⟨w1.heap.size, 0, none⟩) 1 1) [s] (fun _ => 0) 0 ((DataW.map []).put (.string s.data.toList) (.held (.string s))) :=
    ⟨by simp, by
      obtain ⟨g, o, c, cu, a1, a2, a3⟩ := QueueS.made w1 s
      exact ⟨g, o, c, cu, a1, by omega, a3⟩, Part.start hs [], (Pars.first hm1).below ((Below.refl _ _).alloc (Nat.le_refl _) _), by
      have h0 : Blk (w.alloc (.cells #[v] 26)) w.heap.size 26 #[v] := heap_alloc_new w _
      have h1 : Blk w1 w.heap.size 26 #[v] := (hg1.block _ (by simp; omega) (by simp)).trans ((heap_alloc_old _ _ h0.lt).trans h0)
      exact (heap_alloc_old _ _ h1.lt).trans h1, by
      refine Below.alloc ?_ (by omega) _
      exact (((Below.refl w.heap.size w).alloc (Nat.le_refl _) _).alloc (by simp) _).grown hg1 (by simp; omega) (fun j hj => by cases hj; omega), by simp; omega⟩
  have HS := ShE.mk hst
  have HU := ShE.mk hu
  have HOK := ShE.mk hok
  clear hst hown hm1 hg1 hu hok
  go_enter Try.func92, Try.ntmps92
  go_wp2
  clear hmm hrun1 hkey
  go_loopw [6] (fun x wr => ∃ q pi h D, Srch w wr v us s x q pi h D) (fun x wr => us.length - (mapSize wr (w.heap.size + 1) - lenV x))
  case atStart => exact ⟨_, _, _, _, HS.out⟩
  case round =>
    obtain ⟨q, pi, h, D, hr⟩ := hrel
    obtain ⟨g, off, cap, rfl, hc1, hc2, hc3, hc4, hc5, hc6⟩ := hr.que.form
    have hql := hr.part.few
    have hhq := hr.hq
    have hdl : (q.drop h).length = q.length - h := by simp
    rw [hdl] at hc1 hc5 hc6 ⊢
    have HR := ShE.mk hr
    have HC6 := ShE.mk hc6
    clear hr hc6
    by_cases hlt : h < q.length
    · have ck := hc5 (by omega)
      rw [dropS_at hlt] at ck
      obtain ⟨y, hy⟩ : ∃ y, strAt q h = y := ⟨_, rfl⟩
      rw [hy] at ck
      have hyu : y ∈ us := by rw [← hy]; exact HR.out.part.mem _ (strAt_mem hlt)
      have hyz := word_sizeP HOK.out hyu
      have hyk := ShE.mk hyz
      have HY := ShE.mk hy
      have hBa : Below wr.heap.size wr (wr.alloc (.cells #[.string y] 9)) := (Below.refl _ _).alloc (Nat.le_refl _) _
      have ca := (HR.out.lex.kept hBa HR.out.lex.lt).cells
      have hga : (wr.alloc (.cells #[.string y] 9)).heap[g]? = wr.heap[g]? := hBa.block g hc4
      have HX := ShE.mk (HC6.out _ hga (by omega))
      have hd1 : (List.drop 1 (List.drop h q)) = List.drop (h + 1) q := by rw [List.drop_drop]
      have hd2 : (List.drop (h + 1) q).length = q.length - h - 1 := by simp; omega
      rw [hd1, hd2] at HX
      have HT := ShE.mk (parentsFrom_tells (g := wr.heap.size) (s := y) (us := us) (wr.alloc (.cells #[.string y] 9)) (heap_alloc_new wr _) HOK.out hyz.1 hyz.2)
      have HUa := ShE.mk (HU.out.below ((HR.out.below.trans (hBa.mono HR.out.below.size))))
      clear hc5 hy hyz hBa hga hd1 hd2
      have hcc : cap = 1 ∨ ¬ cap = 1 := Classical.em _
      rcases hcc with hcap | hcap
      all_goals first | (subst hcap; rw [if_pos rfl] at HX; clear hc1 hc2) | (rw [if_neg hcap] at HX; clear hc1)
      all_goals
        go_wp2_with fail
        refine (wordsWith_any _ HUa.out hn parentsFrom_enters HT.out).mono ?_
        rintro e w3 ⟨nv, rfl, ho, hb3⟩
        have hsa : (wr.alloc (.cells #[.string y] 9)).heap.size = wr.heap.size + 1 := by simp
        rw [hsa] at ho hb3
        obtain ⟨ns, hns⟩ : ∃ ns, ns = pickTo (nearS y) us us.length := ⟨_, rfl⟩
        have ho2 : OwnS (wr.heap.size + 1) w3 nv ns := by rw [hns]; exact ho
        have HRD := ShE.mk (HR.out.round hlt HY.out HX.out rfl hb3 ho2)
        have HNS := ShE.mk hns
        have hnl : ns.length ≤ us.length := by rw [hns]; exact pickTo_len _ _ _
        have HRI := ShE.mk (show Rise ns by rw [hns]; exact pickTo_riseP (okL_rise HOK.out) _)
        obtain ⟨na, ncap, rfl, n1, n2, n3⟩ := own_form ho2
        have HN3 := ShE.mk n3
        clear ho ho2 hb3 hns n3 hsa ck ca HX HT
        go_wp2

        go_loopw [6, 30] (fun x i wr2 => ∃ (k : Nat) (q2 : List ByteArray) (pi2 : Nat → Nat) (D2 : DataW Value), i = .int .i64 k ∧ Rnd w wr.heap.size wr2 v us s y x (.slice na ns.length ncap) ns q2 pi2 h D2 k) (fun _ i _ => ns.length - (RowKit.intOf i).toNat)
        case atStart => exact ⟨0, _, _, _, rfl, HRD.out⟩
        case round =>
          obtain ⟨k, q2, pi2, D2, rfl, R⟩ := hrel
          have hkn := R.hk
          have hq2 := R.part.few
          by_cases hlk : k < ns.length
          · obtain ⟨gn, rfl, hgn1, hgn2⟩ := HN3.out (by omega)
            have ck := R.row.cellAt k (by omega)
            rw [strAt_map ns k hlk] at ck
            have hxu : strAt ns k ∈ us := (pickTo_memP.1 (by rw [← HNS.out]; exact strAt_mem hlk)).1
            have hkey := keyP (word_sizeP HOK.out hxu).1
            have hhas := R.pars.has (strAt ns k)
            have cb := R.box.cells
            have RR := ShE.mk R
            obtain ⟨n, hn0⟩ : ∃ n, strAt ns k = n := ⟨_, rfl⟩
            rw [hn0] at ck hxu hkey hhas
            have HN0 := ShE.mk hn0
            clear R hn0
            by_cases hin : n ∈ q2
            · have hht := hhas.2 hin
              clear hhas
              go_wp2_with (at_lookup; refine wpList_lookup_own_ok _ rfl _ _ 75 rfl 9 9 (string_keyed Try.underlying9) Try.underlying75 idR (zeroStrP _) (.held (.string ByteArray.empty)) [] rfl (w.heap.size + 1) q2.length D2 rfl RR.out.pars.map _ _ rfl hkey ?_; intro lv ps _; rw [hht])
              go_roundw
              case rel => exact ⟨k + 1, q2, pi2, D2, by go_num, RR.out.skip hlk (by rw [HN0.out]; exact hin)⟩
              case measure => simp [RowKit.intOf]; omega
            · have hht : Maps.has D2 (.string n.data.toList) = false := Bool.eq_false_iff.2 fun e => hin (hhas.1 e)
              clear hhas
              go_wp2_with (first
                | (at_lookup; refine wpList_lookup_own_ok _ rfl _ _ 75 rfl 9 9 (string_keyed Try.underlying9) Try.underlying75 idR (zeroStrP _) (.held (.string ByteArray.empty)) [] rfl (w.heap.size + 1) q2.length D2 rfl RR.out.pars.map _ _ rfl hkey ?_; intro lv ps _; rw [hht])
                | (at_mapUpdate; refine wpList_mapUpdate_own _ rfl _ _ _ 75 rfl 9 9 (string_keyed Try.underlying9) Try.underlying75 idR (w.heap.size + 1) q2.length D2 rfl RR.out.pars.map (by unfold maxLen; omega) _ _ _ rfl rfl hkey (.held (.string y)) [] rfl ?_; intro w4 hm4 hg4; have HM4 := ShE.mk hm4; have HG4 := ShE.mk hg4; have HQ4 := ShE.mk (RR.out.que.kept (w' := w4) fun g e hg => hg4.block g hg (fun e2 => by have := RR.out.que.under g e; injection e2 with e2; omega)); clear hm4 hg4)
                | (at_builtin; refine wpList_append_queue rfl _ _ rfl n rfl rfl HQ4.out (by simp; omega) (by have := RR.out.size; have := RR.out.box.lt; have := HG4.out.size; omega) ?_; intro x' w5 hq5 hg5 hloc; have HR5 := ShE.mk (RR.out.add hlk (by rw [HN0.out]; exact hin) HNS.out HRI.out HN0.out HM4.out HG4.out hq5 hg5 hloc); clear hq5 hg5 hloc))
              go_roundw
              case rel => exact ⟨k + 1, _, _, _, by go_num, HR5.out⟩
              case measure => simp [RowKit.intOf]; omega
          · obtain rfl : k = ns.length := by omega
            have HSR := ShE.mk (R.over rfl HNS.out)
            clear R
            go_wp2
            go_roundw
            case rel => exact ⟨_, _, _, _, HSR.out⟩
            case measure =>
              have e1 := HR.out.meas
              have e2 := HSR.out.meas
              rw [hdl] at e1
              omega
    · obtain rfl : h = q.length := by omega
      have HF := ShE.mk HR.out.part.found
      have hnd := HR.out.part.nodup
      go_wp2
      go_ret
      exact ⟨w.heap.size + 1, q, pi, D, rfl, Nat.le_succ _, HR.out.pars, HF.out, hnd, HR.out.below⟩
end Go.Proofs.Ytpjekfebpgjgnaa

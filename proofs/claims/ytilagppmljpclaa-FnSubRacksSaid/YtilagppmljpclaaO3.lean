/-
  The program's arithmetic on counts of tiles: what two have in common, what is left, what contains what.
-/
import Derived.Test.YtilagppmljpclaaQ8
import Derived.Test.YtilagppmljpclaaN2
import Derived.Deep.RegionHeld3
import Derived.Deep.MidRow
namespace Go.Proofs.Ytilagppmljpclaa
open Go.RowKit

/-- An array that a call hands back through a variable. -/
theorem ret_arr1 {fn : Func} {p : Tmp} {a : Act} {w : World} {g : Nat} {f : Nat → Int} {R : Ending → World → Prop} (hf : fn.results = #[.cell p 74])
    (hp : a.tmps.getD p undef = .pointer (some ⟨g, 0, none⟩)) (hb : Blk w g 74 (arrI f)) (hd : a.defers = []) (hR : R (.returned (.agg (arrI f))) w) :
    bodyPost Try.prog fn R .ret a w := by
  refine bodyPost_ret ?_ hd hR
  have hl := run_loadVar_row (P := Try.prog) w g 74 74 (arrI f) (0, 0) _ hb Try.underlying74 rfl (arr_info f)
  simp only [results, hf]
  simp at hp
  simp [hp, asAddr, hl]

/-- The first k counts reckoned anew. -/
def mixN (f h : Nat → Nat) (k : Nat) : Nat → Nat := fun j => if j < k then h j else f j
theorem mix_zero (f h : Nat → Nat) : mixN f h 0 = f := by funext j; simp [mixN]
theorem mix_all (f h : Nat → Nat) : arrN (mixN f h 27) = arrN h := arrI_congr fun k hk => by rw [mixN, if_pos hk]
theorem mix_at (f h : Nat → Nat) (k : Nat) : mixN f h k k = f k := by simp [mixN]
theorem mix_step (f h : Nat → Nat) (k : Nat) : (arrN (mixN f h k)).setIfInBounds k (.int .i64 (h k : Int)) = arrN (mixN f h (k + 1)) := by
  unfold arrN
  rw [arrI_set]
  refine arrI_congr fun j _ => ?_
  unfold mixN
  by_cases e : j = k
  · subst e; rw [if_pos rfl, if_pos (Nat.lt_succ_self _)]
  · rw [if_neg e]
    by_cases h1 : j < k
    · rw [if_pos h1, if_pos (by omega)]
    · rw [if_neg h1, if_neg (by omega)]
theorem made3Q (w : World) (t t' t'' : TypeId) (cs cs' cs'' : Array Value) : Blk (((w.alloc (.cells cs t)).alloc (.cells cs' t')).alloc (.cells cs'' t'')) (w.heap.size + 2) t'' cs'' := by
  have := Blk.made ((w.alloc (.cells cs t)).alloc (.cells cs' t')) t'' cs''
  simpa only [World.size_alloc] using this

set_option maxRecDepth 100000 in
set_option maxHeartbeats 4000000 in
theorem common_any (f g : Nat → Nat) (w : World) (hf : ∀ k, k < 27 → f k ≤ 1000) (hg : ∀ k, k < 27 → g k ≤ 1000) :
    Calls Try.prog 107 #[.agg (arrN f), .agg (arrN g)] w fun e w' => e = .returned (.agg (arrN fun k => min (f k) (g k))) ∧ Below w.heap.size w w' := by
  have HF := hid hf
  have HG := hid hg
  clear hf hg
  have b1 := hid (made2Q w 74 74 (arrN f) (arrN g))
  go_enter Try.func107, Try.ntmps107
  go_wp2_with (refine wpList_load_row rfl 74 _ rfl (w.heap.size + 1) (by rfl) 74 _ (0, 0) _ (b1.out.alloc _) Try.underlying74 rfl (arr_info _) ?_)
  go_loopw [8] (fun i wr => ∃ k : Nat, k ≤ 27 ∧ i = .int .i64 k ∧ Hid (Blk wr w.heap.size 74 (arrN (mixN f (fun j => min (f j) (g j)) k))) ∧ Hid (Blk wr (w.heap.size + 2) 74 (arrN fun _ => 0)) ∧ Below w.heap.size w wr) (fun i _ => 27 - (intOf i).toNat)
  case atStart => exact ⟨0, Nat.zero_le _, rfl, by rw [mix_zero]; exact ((Blk.made _ _ _).alloc _).alloc _, made3Q _ _ _ _ _ _ _, (((Below.refl _ _).alloc (Nat.le_refl _) _).alloc (by simp) _).alloc (by simp; omega) _⟩
  case round =>
    obtain ⟨k, hk, rfl, hc, hr, hb⟩ := hrel
    have hz := hb.size
    by_cases hlt : k < 27
    · have hix : ∀ w, (Instr.index 74 (.agg (arrN g)) (.int .i64 (k : Int))).run Try.prog w = .ok (.int .i64 (g k : Int)) w := fun w => index_arr (fun k => (g k : Int)) hlt w
      have hfk := HF.out k hlt
      have hgk := HG.out k hlt
      have hcell : wr.cell? ⟨w.heap.size, k, none⟩ = some (.int .i64 (f k : Int)) := by
        rw [hc.out.cells, ← mix_at f (fun j => min (f j) (g j)) k]; exact arrI_at _ hlt
      have hfr := hc.out.marks k
      have hk1 : (k : Int) < 27 := by omega
      have hk2 : (k : Int) + 1 ≤ 27 := by omega
      have hk0 : (0 : Int) ≤ (k : Int) := by omega
      have HS := hid (mix_step f (fun j => min (f j) (g j)) k)
      obtain ⟨x, hx⟩ : ∃ x, f k = x := ⟨_, rfl⟩
      obtain ⟨y, hy⟩ : ∃ y, g k = y := ⟨_, rfl⟩
      simp only [hx, hy] at HS
      rw [hy] at hix hgk
      rw [hx] at hcell hfk
      clear hx hy
      go_wp2
      go_roundw
      case rel =>
        refine ⟨k + 1, by omega, by go_num, ?_, hr.out.other (by simp) _, hb.setCell (by simp) _⟩
        have := hc.out.stored k (.int .i64 ((min x y : Nat) : Int))
        rw [HS.out] at this
        rw [Hid, show min (x : Int) (y : Int) = ((min x y : Nat) : Int) by omega]
        exact this
      case measure => simp [intOf]; omega
    · obtain rfl : k = 27 := by omega
      have HC : Hid (Blk wr w.heap.size 74 (arrN fun j => min (f j) (g j))) := by rw [Hid, ← mix_all f]; exact hc.out
      clear hc
      go_wp2_with (first
        | (refine wpList_load_row rfl 74 _ rfl w.heap.size (by rfl) 74 _ (0, 0) _ HC.out Try.underlying74 rfl (arr_info _) ?_)
        | (refine wpList_store_row rfl 74 _ _ rfl (w.heap.size + 2) (arrN fun j => min (f j) (g j)) (by rfl) (by rfl) 74 _ hr.out (arr_info _) (by simp only [arrN, arrI_size]) (arrI_one _) ?_))
      exact ret_arr1 rfl (by rfl) (hr.out.row _) rfl ⟨rfl, below_row hb (by omega) _⟩
set_option maxRecDepth 100000 in
set_option maxHeartbeats 4000000 in
theorem without_any (f g : Nat → Nat) (w : World) (hf : ∀ k, k < 27 → f k ≤ 1000) (hg : ∀ k, k < 27 → g k ≤ f k) :
    Calls Try.prog 52 #[.agg (arrN f), .agg (arrN g)] w fun e w' => e = .returned (.agg (arrN fun k => f k - g k)) ∧ Below w.heap.size w w' := by
  have HF := hid hf
  have HG := hid hg
  clear hf hg
  have b1 := hid (made2Q w 74 74 (arrN f) (arrN g))
  go_enter Try.func52, Try.ntmps52
  go_wp2_with (refine wpList_load_row rfl 74 _ rfl (w.heap.size + 1) (by rfl) 74 _ (0, 0) _ (b1.out.alloc _) Try.underlying74 rfl (arr_info _) ?_)
  go_loopw [8] (fun i wr => ∃ k : Nat, k ≤ 27 ∧ i = .int .i64 k ∧ Hid (Blk wr w.heap.size 74 (arrN (mixN f (fun j => f j - g j) k))) ∧ Hid (Blk wr (w.heap.size + 2) 74 (arrN fun _ => 0)) ∧ Below w.heap.size w wr) (fun i _ => 27 - (intOf i).toNat)
  case atStart => exact ⟨0, Nat.zero_le _, rfl, by rw [mix_zero]; exact ((Blk.made _ _ _).alloc _).alloc _, made3Q _ _ _ _ _ _ _, (((Below.refl _ _).alloc (Nat.le_refl _) _).alloc (by simp) _).alloc (by simp; omega) _⟩
  case round =>
    obtain ⟨k, hk, rfl, hc, hr, hb⟩ := hrel
    have hz := hb.size
    by_cases hlt : k < 27
    · have hix : ∀ w, (Instr.index 74 (.agg (arrN g)) (.int .i64 (k : Int))).run Try.prog w = .ok (.int .i64 (g k : Int)) w := fun w => index_arr (fun k => (g k : Int)) hlt w
      have hfk := HF.out k hlt
      have hgk := HG.out k hlt
      have hcell : wr.cell? ⟨w.heap.size, k, none⟩ = some (.int .i64 (f k : Int)) := by
        rw [hc.out.cells, ← mix_at f (fun j => f j - g j) k]; exact arrI_at _ hlt
      have hfr := hc.out.marks k
      have hk1 : (k : Int) < 27 := by omega
      have hk2 : (k : Int) + 1 ≤ 27 := by omega
      have hk0 : (0 : Int) ≤ (k : Int) := by omega
      have HS := hid (mix_step f (fun j => f j - g j) k)
      obtain ⟨x, hx⟩ : ∃ x, f k = x := ⟨_, rfl⟩
      obtain ⟨y, hy⟩ : ∃ y, g k = y := ⟨_, rfl⟩
      simp only [hx, hy] at HS
      rw [hy] at hix hgk
      rw [hx] at hcell hfk hgk
      clear hx hy
      go_wp2
      go_roundw
      case rel =>
        refine ⟨k + 1, by omega, by go_num, ?_, hr.out.other (by simp) _, hb.setCell (by simp) _⟩
        have := hc.out.stored k (.int .i64 ((x - y : Nat) : Int))
        rw [HS.out] at this
        rw [Hid, show (x : Int) - (y : Int) = ((x - y : Nat) : Int) by omega]
        exact this
      case measure => simp [intOf]; omega
    · obtain rfl : k = 27 := by omega
      have HC : Hid (Blk wr w.heap.size 74 (arrN fun j => f j - g j)) := by rw [Hid, ← mix_all f]; exact hc.out
      clear hc
      go_wp2_with (first
        | (refine wpList_load_row rfl 74 _ rfl w.heap.size (by rfl) 74 _ (0, 0) _ HC.out Try.underlying74 rfl (arr_info _) ?_)
        | (refine wpList_store_row rfl 74 _ _ rfl (w.heap.size + 2) (arrN fun j => f j - g j) (by rfl) (by rfl) 74 _ hr.out (arr_info _) (by simp only [arrN, arrI_size]) (arrI_one _) ?_))
      exact ret_arr1 rfl (by rfl) (hr.out.row _) rfl ⟨rfl, below_row hb (by omega) _⟩

/-- The counts of one are all at most those of the other. -/
def leN (g f : Nat → Nat) : Bool := (List.range 27).all fun k => decide (g k ≤ f k)
theorem leN_iff {g f : Nat → Nat} : leN g f = true ↔ ∀ k, k < 27 → g k ≤ f k := by simp [leN]
theorem sameArr_min (f g : Nat → Nat) : sameArr (fun k => ((min (f k) (g k) : Nat) : Int)) (fun k => (g k : Int)) = leN g f := by
  rw [Bool.eq_iff_iff, sameArr_iff, leN_iff]
  constructor
  · intro h k hk; have := h k hk; omega
  · intro h k hk; have := h k hk; omega

theorem common_list (f g : Nat → Nat) (Lf Lg : List Value) (w : World) (ef : Lf.toArray = arrN f) (eg : Lg.toArray = arrN g) (hf : ∀ k, k < 27 → f k ≤ 1000) (hg : ∀ k, k < 27 → g k ≤ 1000) :
    Calls Try.prog 107 #[.agg Lf.toArray, .agg Lg.toArray] w fun e w' => e = .returned (.agg (arrN fun k => min (f k) (g k))) ∧ Below w.heap.size w w' := by
  rw [ef, eg]
  exact common_any f g w hf hg
theorem range_blk {w : World} {g : Nat} {t : TypeId} {cs : Array Value} (h : Blk w g t cs) : w.rangeAt g 0 cs.toList := by
  intro j v hj
  rw [Nat.zero_add, h.cells j]
  simpa using hj
theorem range_below {w w' : World} {g : Nat} {L : List Value} (h : w.rangeAt g 0 L) (hg : g < w.heap.size) (hb : Below w.heap.size w w') : w'.rangeAt g 0 L := by
  intro j v hj
  exact (hb.cell (p := ⟨g, 0 + j, none⟩) hg).trans (h j v hj)

set_option maxRecDepth 100000 in
set_option maxHeartbeats 4000000 in
theorem contains_any (f g : Nat → Nat) (w : World) (hf : ∀ k, k < 27 → f k ≤ 1000) (hg : ∀ k, k < 27 → g k ≤ 1000) :
    Calls Try.prog 50 #[.agg (arrN f), .agg (arrN g)] w fun e w' => e = .returned (.bool (leN g f)) ∧ Below w.heap.size w w' := by
  have HF := hid hf
  have HG := hid hg
  have hu := Try.underlying74
  have b0 := range_blk ((Blk.made w 74 (arrN f)).alloc (.cells (arrN g) 74))
  have b1 := range_blk (made2Q w 74 74 (arrN f) (arrN g))
  have i0 := arr_info (fun k => (f k : Int))
  have i1 := arr_info (fun k => (g k : Int))
  have hq : ∀ w, (binOp .eql 74 (.agg (arrN fun k => min (f k) (g k))) (.agg (arrN g))).run Try.prog w = .ok (.bool (leN g f)) w := fun w => by
    rw [← sameArr_min f g]
    exact eql_arr _ _ w
  have n0 : (arrN f).size = (arrN f).toList.length := by simp
  have n1 : (arrN g).size = (arrN g).toList.length := by simp
  rw [show (fun k => (f k : Int)) = fun k => (f k : Int) from rfl, show arrI (fun k => (f k : Int)) = arrN f from rfl, n0] at i0
  rw [show arrI (fun k => (g k : Int)) = arrN g from rfl, n1] at i1
  obtain ⟨Af, hAf⟩ : ∃ A, arrN f = A := ⟨_, rfl⟩
  obtain ⟨Ag, hAg⟩ : ∃ A, arrN g = A := ⟨_, rfl⟩
  obtain ⟨Am, hAm⟩ : ∃ A, arrN (fun k => min (f k) (g k)) = A := ⟨_, rfl⟩
  rw [hAf] at b0 b1 i0 ⊢
  rw [hAg] at b0 b1 i1 hq ⊢
  rw [hAm] at hq
  obtain ⟨Lf, rfl⟩ : ∃ L : List Value, Af = L.toArray := ⟨Af.toList, by simp⟩
  obtain ⟨Lg, rfl⟩ : ∃ L : List Value, Ag = L.toArray := ⟨Ag.toList, by simp⟩
  have HAf := hid hAf.symm
  have HAg := hid hAg.symm
  have HAm := hid hAm
  have z0 : w.heap.size < ((w.alloc (.cells Lf.toArray 74)).alloc (.cells Lg.toArray 74)).drew.heap.size := by
    show w.heap.size < (World.alloc _ _).heap.size
    simp only [World.size_alloc]
    omega
  have z1 : w.heap.size + 1 < ((w.alloc (.cells Lf.toArray 74)).alloc (.cells Lg.toArray 74)).drew.heap.size := by
    show w.heap.size + 1 < (World.alloc _ _).heap.size
    simp only [World.size_alloc]
    omega
  clear hf hg n0 n1 hAf hAg hAm
  go_enter Try.func50, Try.ntmps50
  go_wp2
  refine wp_region_held_drew (S := fun w' => w'.rangeAt w.heap.size 0 Lf ∧ w'.rangeAt (w.heap.size + 1) 0 Lg) (by kernel_rfl) ⟨b0, b1⟩ (fun hHeld => ?_)
  refine wpAnyH_take (i := 0) (v := .agg Lf.toArray) rfl (by kernel_rfl) (by kernel_rfl) (by kernel_rfl) (fun _ _ _ h => h) (yieldsIf_load_mid (by rfl) _ _ rfl _ _ rfl Lf _ (fun w h => h.1) hu rfl i0) hHeld ?_
  refine wpAnyH_take (i := 1) (v := .agg Lg.toArray) rfl (by kernel_rfl) (by kernel_rfl) (by kernel_rfl) (fun _ _ _ h => h) (yieldsIf_load_mid (by rfl) _ _ rfl _ _ rfl Lg _ (fun w h => h.2) hu rfl i1) hHeld ?_
  refine wpAnyH_take (i := 3) (v := .agg Lg.toArray) rfl (by kernel_rfl) (by kernel_rfl) (by kernel_rfl) (fun _ _ _ h => h) (yieldsIf_load_mid (by rfl) _ _ rfl _ _ rfl Lg _ (fun w h => h.2) hu rfl i1) hHeld ?_
  refine wpAnyH_ready (rs := [2]) (by kernel_rfl) (by simp) ?_
  refine AllReadyH.cons rfl (fun K hK => ?_) AllReadyH.nil
  go_simp
  go_at_call 107
  refine (common_list f g Lf Lg _ HAf.out HAg.out HF.out HG.out).mono ?_
  rw [HAm.out]
  rintro e w1 ⟨rfl, hb1⟩
  go_wp2_with fail
  refine hK.out _ _ ⟨range_below hHeld.1 z0 hb1, range_below hHeld.2 z1 hb1⟩ (fun hHeld => ?_)
  clear hK K
  refine wpAnyH_take (i := 4) (v := .bool (leN g f)) rfl (by kernel_rfl) (by kernel_rfl) (by kernel_rfl) (fun _ _ _ h => h) (Or.inl ⟨by rfl, fun w _ => by unfold execOp; simp [Act.eval, hq, run_eqGuard_agg, Try.eqGuardType74]⟩) hHeld ?_
  refine wpAnyH_take (i := 5) (v := .bool (leN g f)) rfl (by kernel_rfl) (by kernel_rfl) (by kernel_rfl) (fun _ _ _ h => h) (Or.inl ⟨by rfl, fun w _ => rfl⟩) hHeld ?_
  refine wpAnyH_done (by kernel_rfl) ?_ _
  go_wp2
  go_ret
  exact ⟨rfl, (((Below.refl _ _).alloc (Nat.le_refl _) _).alloc (by simp) _).drew.trans (hb1.mono (by omega))⟩
end Go.Proofs.Ytilagppmljpclaa

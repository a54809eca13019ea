/-
  The program's arithmetic on counts of tiles: what two have in common, what is left, what contains what.
-/
import Derived.Test.YtmkdbahdhobdjaaDoorQ8
import Derived.Test.YtmkdbahdhobdjaaDoorN2
import Derived.Deep.RegionHeld3
import Derived.Deep.MidRow
namespace Go.Proofs.YtmkdbahdhobdjaaDoor
open Go.RowKit

/-- An array that a call hands back through a variable. -/
theorem ret_arr1 {fn : Func} {p : Tmp} {a : Act} {w : World} {g : Nat} {f : Nat → Int} {R : Ending → World → Prop} (hf : fn.results = #[.cell p 117])
    (hp : a.tmps.getD p undef = .pointer (some ⟨g, 0, none⟩)) (hb : Blk w g 117 (arrI f)) (hd : a.defers = []) (hR : R (.returned (.agg (arrI f))) w) :
    bodyPost Tryd.prog fn R .ret a w := by
  refine bodyPost_ret ?_ hd hR
  have hl := run_loadVar_row (P := Tryd.prog) w g 117 117 (arrI f) (0, 0) _ hb Tryd.underlying117 rfl (arr_info f)
  simp only [results, hf]
  simp at hp
  simp [hp, asAddr, hl]

/-- The first k counts reckoned anew. -/
def mixN (f h : Nat → Nat) (k : Nat) : Nat → Nat := fun j => if j < k then h j else f j
theorem mix_zero (f h : Nat → Nat) : mixN f h 0 = f := by funext j; simp [mixN]
theorem mix_all (f h : Nat → Nat) : arrN (mixN f h 27) = arrN h := arrI_congr fun k hk => by rw [mixN, if_pos hk]
theorem mix_at (f h : Nat → Nat) (k : Nat) : mixN f h k k = f k := by simp [mixN]
theorem mix_step (f h : Nat → Nat) (k : Nat) : (arrN (mixN f h k)).setIfInBounds k (.int .i64 (h k : Int)) = arrN (mixN f h (k + 1)) := by
  unfold arrN
  rw [arrI_set]
  refine arrI_congr fun j _ => ?_
  unfold mixN
  by_cases e : j = k
  · subst e; rw [if_pos rfl, if_pos (Nat.lt_succ_self _)]
  · rw [if_neg e]
    by_cases h1 : j < k
    · rw [if_pos h1, if_pos (by omega)]
    · rw [if_neg h1, if_neg (by omega)]
theorem made3Q (w : World) (t t' t'' : TypeId) (cs cs' cs'' : Array Value) : Blk (((w.alloc (.cells cs t)).alloc (.cells cs' t')).alloc (.cells cs'' t'')) (w.heap.size + 2) t'' cs'' := by
  have := Blk.made ((w.alloc (.cells cs t)).alloc (.cells cs' t')) t'' cs''
  simpa only [World.size_alloc] using this


/-- The counts of one are all at most those of the other. -/
def leN (g f : Nat → Nat) : Bool := (List.range 27).all fun k => decide (g k ≤ f k)
theorem leN_iff {g f : Nat → Nat} : leN g f = true ↔ ∀ k, k < 27 → g k ≤ f k := by simp [leN]
theorem sameArr_min (f g : Nat → Nat) : sameArr (fun k => ((min (f k) (g k) : Nat) : Int)) (fun k => (g k : Int)) = leN g f := by
  rw [Bool.eq_iff_iff, sameArr_iff, leN_iff]
  constructor
  · intro h k hk; have := h k hk; omega
  · intro h k hk; have := h k hk; omega

theorem range_blk {w : World} {g : Nat} {t : TypeId} {cs : Array Value} (h : Blk w g t cs) : w.rangeAt g 0 cs.toList := by
  intro j v hj
  rw [Nat.zero_add, h.cells j]
  simpa using hj
theorem range_below {w w' : World} {g : Nat} {L : List Value} (h : w.rangeAt g 0 L) (hg : g < w.heap.size) (hb : Below w.heap.size w w') : w'.rangeAt g 0 L := by
  intro j v hj
  exact (hb.cell (p := ⟨g, 0 + j, none⟩) hg).trans (h j v hj)

end Go.Proofs.YtmkdbahdhobdjaaDoor

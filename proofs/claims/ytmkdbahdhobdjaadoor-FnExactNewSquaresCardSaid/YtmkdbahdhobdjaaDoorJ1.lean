/-
  Worlds that part in some blocks alone.
-/
import Derived.Test.YtmkdbahdhobdjaaDoorK1
namespace Go.Proofs.YtmkdbahdhobdjaaDoor
open Go.RowKit

/-- Of what lay in w nothing has changed but the blocks of which S holds. -/
structure Apart (S : Nat → Prop) (w w' : World) : Prop where
  os : w'.os = w.os
  tape : w'.tape = w.tape
  output : w'.output = w.output
  size : w.heap.size ≤ w'.heap.size
  block : ∀ k, k < w.heap.size → ¬ S k → w'.heap[k]? = w.heap[k]?
theorem Apart.refl (S : Nat → Prop) (w : World) : Apart S w w := ⟨rfl, rfl, rfl, Nat.le_refl _, fun _ _ _ => rfl⟩
theorem Apart.trans {S T : Nat → Prop} {a b c : World} (h : Apart S a b) (k : Apart T b c) (hT : ∀ i, i < a.heap.size → T i → S i) : Apart S a c :=
  ⟨k.os.trans h.os, k.tape.trans h.tape, k.output.trans h.output, Nat.le_trans h.size k.size,
    fun i hi hs => (k.block i (Nat.lt_of_lt_of_le hi h.size) (fun ht => hs (hT i hi ht))).trans (h.block i hi hs)⟩
theorem Apart.mono {S T : Nat → Prop} {a b : World} (h : Apart S a b) (hS : ∀ i, i < a.heap.size → S i → T i) : Apart T a b :=
  ⟨h.os, h.tape, h.output, h.size, fun i hi ht => h.block i hi (fun hs => ht (hS i hi hs))⟩
theorem Apart.of_below {S : Nat → Prop} {w w' : World} (h : Below w.heap.size w w') : Apart S w w' := ⟨h.os, h.tape, h.output, h.size, fun i hi _ => h.block i hi⟩
theorem Apart.belowA {S : Nat → Prop} {a w w' : World} (h : Apart S a w) (hb : Below w.heap.size w w') : Apart S a w' := h.trans (Apart.of_below (S := fun _ => False) hb) (fun _ _ h => h.elim)
theorem Apart.drewN {S : Nat → Prop} {a w : World} (h : Apart S a w) (n : Nat) : Apart S a (w.drewN n) := ⟨h.os, h.tape, h.output, h.size, h.block⟩
theorem Apart.drew {S : Nat → Prop} {a w : World} (h : Apart S a w) : Apart S a w.drew := ⟨h.os, h.tape, h.output, h.size, h.block⟩
theorem Apart.alloc {S : Nat → Prop} {a w : World} (h : Apart S a w) (o : Obj) : Apart S a (w.alloc o) := h.belowA ((Below.refl _ _).alloc (Nat.le_refl _) o)
theorem Apart.setCell {S : Nat → Prop} {a w : World} (h : Apart S a w) {p : Addr} (hp : p.block < a.heap.size → S p.block) (u : Value) : Apart S a (w.setCell p u) :=
  ⟨h.os, h.tape, h.output, by simpa using h.size, fun i hi hs => (Below.heap_setCell w p u i (fun e => hs (by rw [e] at hi ⊢; exact hp hi))).trans (h.block i hi hs)⟩
theorem Apart.grown {S : Nat → Prop} {a w w' : World} {r : Option Nat} (h : Apart S a w) (hg : w.grownBy w' r) (hr : ∀ k, r = some k → k < a.heap.size → S k) : Apart S a w' :=
  ⟨hg.os.trans h.os, hg.tape.trans h.tape, hg.output.trans h.output, Nat.le_trans h.size hg.size,
    fun i hi hs => (hg.block i (Nat.lt_of_lt_of_le hi h.size) (fun e => hs (hr i e.symm hi))).trans (h.block i hi hs)⟩
theorem Apart.below {S : Nat → Prop} {w w' : World} {B : Nat} (h : Apart S w w') (hS : ∀ i, i < B → ¬ S i) (hB : B ≤ w.heap.size) : Below B w w' :=
  ⟨h.os, h.tape, h.output, h.size, fun i hi => h.block i (Nat.lt_of_lt_of_le hi hB) (hS i hi)⟩
theorem Blk.apart {w w' : World} {g : Nat} {t : TypeId} {cs : Array Value} {S : Nat → Prop} (h : Blk w g t cs) (hk : Apart S w w') (hg : ¬ S g) : Blk w' g t cs := (hk.block g h.lt hg).trans h
theorem own_apart {B n : Nat} {e : TypeId} {w w' : World} {v : Value} {xs : List Value} {S : Nat → Prop} (h : w.ownsRow B e 1 v n xs) (hk : Apart S w w') (hv : ∀ k, v.ownBlock = some k → ¬ S k) : w'.ownsRow B e 1 v n xs := by
  refine ⟨h.1, ?_⟩
  rcases h.2 with h | ⟨g', cap, cur, rfl, hg1, hg, r⟩
  · exact .inl h
  · exact .inr ⟨g', cap, cur, rfl, hg1, (hk.block g' (Array.getElem?_eq_some_iff.1 hg).1 (hv g' rfl)).trans hg, r⟩
end Go.Proofs.YtmkdbahdhobdjaaDoor

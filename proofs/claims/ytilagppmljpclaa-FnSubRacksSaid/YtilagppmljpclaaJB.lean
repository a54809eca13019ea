/-
  Sub-racks sorted: the program's comparison and the library's sort.
-/
import Derived.Test.YtilagppmljpclaaJ7
import Derived.Test.YtilagppmljpclaaC1
import Derived.Test.YtilagppmljpclaaShelfS
import Derived.Shelf.GgSortFunc.Whole
import Derived.Shelf.GgSortFunc.Tiny
import Derived.Lib.OwnBridge
import Derived.Sort.OwnSorted
import Derived.Deep.QuietTactic
import Derived.BigQuiet
namespace Go.Proofs.Ytilagppmljpclaa
open Go.RowKit Go.Lib Go.Sort

theorem ltS_swo : SWO ltS where
  irrefl := ltS_irr
  trans := fun _ _ _ h1 h2 => ltS_trans h1 h2
  ntrans := fun x y z h1 h2 => by
    cases h : ltS x z
    · rfl
    · exfalso
      by_cases e1 : ltS y x = true
      · by_cases e2 : ltS z y = true
        · have := ltS_trans (ltS_trans h e2) e1
          rw [ltS_irr] at this
          cases this
        · have := ltS_total h2 (by simpa using e2)
          subst this
          have := ltS_trans h e1
          rw [ltS_irr] at this
          cases this
      · have := ltS_total h1 (by simpa using e1)
        subst this
        rw [h] at h2
        cases h2
theorem upS_bytes (x y : ByteArray) : Op.bytesLess x.toList y.toList = upS x y := rfl
set_option maxHeartbeats 2000000 in
theorem less_subs (g cap r size : Nat) (W : World) (G : Nat → ByteArray) (hs : W.cell? ⟨r, 0, none⟩ = some (.slice (some ⟨g, 0, none⟩) size cap)) (hc : ∀ t, t < size → W.cell? ⟨g, 0 + t, none⟩ = some (.string (G t)))
    (i j : Nat) (hi : i < size) (hj : j < size) (_hsz : size ≤ 100000) :
    Calls Try.prog 49 #[.int .i64 i, .int .i64 j, .pointer (some ⟨r, 0, none⟩)] W fun e w' => e = .returned (.bool (ltS (G i) (G j))) ∧ ∃ q, w' = W.drewN q := by
  have ci := hc i hi
  have cj := hc j hj
  rw [Nat.zero_add] at ci cj
  obtain ⟨x, hx⟩ : ∃ x, G i = x := ⟨_, rfl⟩
  obtain ⟨y, hy⟩ : ∃ y, G j = y := ⟨_, rfl⟩
  rw [hx] at ci ⊢
  rw [hy] at cj ⊢
  have hi0 : (0 : Int) ≤ (i : Int) := by omega
  have hil : (i : Int) < (size : Int) := by omega
  have hj0 : (0 : Int) ≤ (j : Int) := by omega
  have hjl : (j : Int) < (size : Int) := by omega
  clear hc hx hy
  by_cases h1 : x.size < y.size
  · have h1i : (x.size : Int) < (y.size : Int) := by omega
    have HR := Shh.mk (show ltS x y = true from ltS_iff.2 (.inl h1))
    clear h1
    go_enter Try.func49, Try.ntmps49
    go_wp2
    go_quiet (fail)
    go_wp2
    go_ret
    exact ⟨by rw [HR.out]; rfl, _, rfl⟩
  · have h1i : ¬ (x.size : Int) < (y.size : Int) := by omega
    have HD := Shh.mk (decide_eq_false h1)
    by_cases h2 : x.size = y.size
    · have h2i : ((x.size : Int) == (y.size : Int)) = true := by rw [h2]; simp
      have HR := Shh.mk (show ltS x y = upS x y by unfold ltS; rw [decide_eq_false h1, decide_eq_true h2]; simp)
      obtain ⟨b, hb⟩ : ∃ b, upS x y = b := ⟨_, rfl⟩
      rw [hb] at HR
      have hcmp : Op.bytesLess x.toList y.toList = b := hb
      clear h1 h2 hb
      go_enter Try.func49, Try.ntmps49
      go_wp2
      go_quiet (fail)
      go_wp2
      go_ret
      exact ⟨by rw [HR.out]; exact ret_bool (by rw [HD.out]; simp), _, rfl⟩
    · have h2i : ((x.size : Int) == (y.size : Int)) = false := beq_eq_false_iff_ne.2 (by omega)
      have HR := Shh.mk (show ltS x y = false by unfold ltS; rw [decide_eq_false h1, decide_eq_false h2]; simp)
      clear h1 h2
      go_enter Try.func49, Try.ntmps49
      go_wp2
      go_quiet (fail)
      go_wp2
      go_ret
      exact ⟨by rw [HR.out]; exact ret_bool HD.out, _, rfl⟩

noncomputable def ssT : TypeInfo := (Try.prog.info? 25).get (by kernel_rfl)
noncomputable def ssE : TypeInfo := (Try.prog.info? 9).get (by kernel_rfl)
theorem ssK (n : Nat) (h2 : 2 ≤ n) : Lib.swapperK n ssE 24 = 4 := by
  have a : ssE.hasPointers = true := by kernel_rfl
  have b : ssE.bytes = 16 := by kernel_rfl
  have c : (n == 0) = false := by simp; omega
  have d : (n == 1) = false := by simp; omega
  simp [Lib.swapperK, a, b, c, d]
theorem ssK1 : Lib.swapperK 1 ssE 24 = 2 := by
  simp [Lib.swapperK]
theorem grownBy_put {α : Type} [Inhabited α] {enc : α → Value} {w : World} {g n : Nat} {os : Array Obj} (d : Array α) : w.grownBy (grow (putRow enc (Sort.ahead w n) g 0 d) os) (some g) := by
  refine ⟨rfl, rfl, rfl, by simp, fun k hk hne => ?_⟩
  rw [Sort.heap_grow_old _ _ (by simpa using hk)]
  have : g ≠ k := fun e => hne (by rw [e])
  simp [putRow, mapBlock, Sort.ahead, Array.getElem?_modify, this]

/-- A row sorted by this comparison. -/
theorem sort_subs {B r g cap : Nat} {w : World} {L : List ByteArray} (h : OwnS B w (.slice (some ⟨g, 0, none⟩) L.length cap) L) (hr : Blk w r 25 #[.slice (some ⟨g, 0, none⟩) L.length cap]) (hgr : r ≠ g) (h1 : 1 ≤ L.length) (hn : L.length ≤ 100000) :
    Calls Try.prog 48 #[.iface 25 (.slice (some ⟨g, 0, none⟩) L.length cap), .func (.func 49) #[] #[.pointer (some ⟨r, 0, none⟩)]] w fun e w' =>
      e = .returned (.tuple #[]) ∧ ∃ L', OwnS B w' (.slice (some ⟨g, 0, none⟩) L.length cap) L' ∧ L'.Perm L ∧ L'.Pairwise (fun x y => ltS y x = false) ∧ w.grownBy w' (some g) := by
  have hv : Value.slice (some ⟨g, 0, none⟩) L.length cap ≠ .slice none 0 0 := fun e => by cases e
  obtain ⟨g', cap', e0, hbg, hgl, hnc, hcm, hlen, hH⟩ := Lib.holds_of_ownsRow (enc := Value.string) h hv
  injection e0 with e1 _ e3
  injection e1 with e1
  injection e1 with e1
  subst e1 e3
  have hrl := hr.lt
  rcases Nat.lt_or_ge 1 L.length with h2 | h2
  · have h22 : 2 ≤ L.toArray.size := by rw [List.size_toArray]; exact h2
    have hless : LessReads Try.prog 49 #[.pointer (some ⟨r, 0, none⟩)] Value.string ltS g 0 L.toArray.size w := by
      intro m os dk hs i j hi hj
      have e : sortWorld Value.string w g 0 m dk os = putRow Value.string (grow (Sort.ahead w m) os) g 0 dk := by
        unfold sortWorld; rw [putRow_grow _ (Sort.ahead w m) _ g 0 _ hgl]
      have hHg : Holds Value.string (grow (Sort.ahead w m) os) g 0 L.toArray := holds_grow _ _ _ g 0 _ hgl (holds_ahead _ _ _ _ _ _ hH)
      refine less_subs g cap r L.toArray.size _ (fun t => dk[t]!) ?_ (fun t ht => ?_) i j hi hj (by simpa using hn)
      · rw [e, cell?_putRow_other _ _ g 0 dk _ (Or.inl hgr), cell?_grow _ _ _ (by show r < (Sort.ahead w m).heap.size; exact hrl)]
        have := hr.cells 0
        simpa using this
      · rw [e]; exact cell?_putRow _ _ g 0 L.toArray dk hHg hs t (by omega)
    have hS := Any.sort_Slice_sorted Try.laysGg6 25 9 ssT ssE (by kernel_rfl) (by kernel_rfl) (by kernel_rfl) (by kernel_rfl) 24 (fun _ => by kernel_rfl) (by kernel_rfl) (fun _ => by kernel_rfl) Value.string (fun _ => rfl) ltS ltS_swo 49 _
      (enters_of Try.func49 (by kernel_rfl) rfl) g 0 cap L.toArray h22 (by rw [List.size_toArray]; omega) 150 (by rw [ssK _ h22]; kernel_rfl) true
      (fun args W => run_callFunc_extern Try.func150 (by kernel_rfl) (by kernel_rfl) (by kernel_rfl) (e := Extern.ReflectliteSwapper.swap true) (by kernel_rfl) args W) _ hless hH hgl
    change Calls Try.prog 48 _ _ _ at hS
    rw [List.size_toArray] at hS
    refine hS.mono ?_
    rintro e w' ⟨rfl, d', n, os, hP, hSo, rfl⟩
    have hsz : d'.size = L.length := by have := hP.1; simpa using this
    have ho := Lib.ownsRow_putRow (enc := Value.string) (q := n) (k := L.length) (ys := d'.toList) (zs := L) h (by simpa using hsz) (Nat.le_refl _)
    have htk : d'.toList.take L.length = d'.toList := List.take_of_length_le (by simp [hsz])
    rw [htk] at ho
    have ho2 : OwnS B (putRow Value.string (Sort.ahead w n) g 0 d') (.slice (some ⟨g, 0, none⟩) L.length cap) d'.toList := by
      have e : d'.toList.length = L.length := by simpa using hsz
      unfold OwnS
      rw [e]
      simpa using ho
    refine ⟨rfl, d'.toList, OwnS.kept ho2 ⟨rfl, rfl, rfl, by simp, fun k hk => Sort.heap_grow_old _ _ hk⟩, ?_, ?_, grownBy_put d'⟩
    · have := hP.2.2
      have e1 : (d'.extract 0 L.length).toList = d'.toList := by rw [← hsz]; simp
      have e2 : (L.toArray.extract 0 L.length).toList = L := by simp
      rw [e1, e2] at this
      exact this
    · rw [List.pairwise_iff_getElem]
      intro i j hi hj hij
      simp only [Array.length_toList] at hi hj
      have := hSo i j (Nat.zero_le _) hij (by omega)
      rw [getElem!_pos d' j hj, getElem!_pos d' i hi] at this
      simpa using this
  · have h11 : L.length = 1 := by omega
    have hS := Any.sort_Slice_tiny Try.laysGg6 25 9 ssT ssE (by kernel_rfl) (by kernel_rfl) (by kernel_rfl) (by kernel_rfl) 24 (fun _ => by kernel_rfl) (some ⟨g, 0, none⟩) L.length cap (by omega) 148 (by rw [h11, ssK1]; kernel_rfl) (.func 49) #[] #[.pointer (some ⟨r, 0, none⟩)] w
    change Calls Try.prog 48 _ _ _ at hS
    refine hS.mono ?_
    rintro e w' ⟨rfl, os, rfl⟩
    have hb : Go.RowKit.Below w.heap.size w (grow w os) := ⟨rfl, rfl, rfl, by simp, fun k hk => Sort.heap_grow_old _ _ hk⟩
    refine ⟨rfl, L, OwnS.kept h hb, List.Perm.refl _, ?_, ⟨rfl, rfl, rfl, hb.size, fun k hk _ => hb.block k hk⟩⟩
    obtain ⟨x, rfl⟩ := List.length_eq_one_iff.1 h11
    simp
end Go.Proofs.Ytilagppmljpclaa

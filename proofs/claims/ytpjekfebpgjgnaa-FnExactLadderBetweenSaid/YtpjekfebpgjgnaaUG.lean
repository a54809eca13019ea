/-
  The words of a lexicon that are wanted: the program's wordsWith, for whatever function tells them.
-/
import Derived.Test.YtpjekfebpgjgnaaUE
import Derived.Test.YtpjekfebpgjgnaaLM
namespace Go.Proofs.Ytpjekfebpgjgnaa
open Go.RowKit Go.Lib

/-- What a function value of one captured variable says of strings. -/
def Tells (K : FuncId) (g : Nat) (w : World) (us : List ByteArray) (q : ByteArray → Bool) : Prop :=
  ∀ k, k < us.length → ∀ wr, Below w.heap.size w wr → Calls Try.prog K #[.string (strAt us k), .pointer (some ⟨g, 0, none⟩)] wr fun e w' => e = .returned (.bool (q (strAt us k))) ∧ Below wr.heap.size wr w'
set_option maxRecDepth 100000 in
set_option maxHeartbeats 2000000 in
theorem wordsWith_any {v : Value} {us : List ByteArray} {q : ByteArray → Bool} {K : FuncId} {g : Nat} (w : World) (hu : Strs w v us) (hn : us.length ≤ 200)
    (hK : ∀ args w, (callFunc K args).run Try.prog w = .ok (.enter K args) w) (hq : Tells K g w us q) :
    Calls Try.prog 66 #[.agg #[v], .func (.func K) #[] #[.pointer (some ⟨g, 0, none⟩)]] w fun e w' => ∃ v0, e = .returned v0 ∧ OwnS w.heap.size w' v0 (pickTo q us us.length) ∧ Below w.heap.size w w' := by
  have HLN := ShE.mk (pickTo_len q us)
  have HG := ShE.mk (LexAt.made hu)
  have HB := ShE.mk ((Below.refl w.heap.size w).alloc (Nat.le_refl _) (.cells #[v] 26))
  have c0 := HG.out.blk.cells
  obtain ⟨a, cap, rfl, -, -, hc⟩ := hu
  have HC := ShE.mk hc
  have HQ := ShE.mk hq
  clear hc hq
  go_enter Try.func66, Try.ntmps66
  go_wp2
  go_loopw [5, 7, 11] (fun x _ i wr => ∃ k : Nat, k ≤ us.length ∧ i = .int .i64 k ∧ OwnS w.heap.size wr x (pickTo q us k) ∧ Below w.heap.size w wr) (fun _ _ i _ => us.length - (intOf i).toNat)
  case atStart => exact ⟨0, Nat.zero_le _, rfl, OwnS.voidG _ _, HB.out⟩
  case round =>
    obtain ⟨k, hk, rfl, ho, hb⟩ := hrel
    have HO1 := ShE.mk ho
    have HBk := ShE.mk hb
    clear ho
    by_cases hlt : k < us.length
    · obtain ⟨b, off, rfl, hbl, hcc⟩ := HC.out (by omega)
      have ck := (hb.cell (p := ⟨b, off + k, none⟩) hbl).trans (hcc k hlt)
      have hS := fun h => pickTo_skip (q := q) (us := us) hlt h
      have hM := fun h => pickTo_more (q := q) (us := us) hlt h
      have HT := ShE.mk (HQ.out k hlt wr hb)
      obtain ⟨y, hy⟩ : ∃ y, strAt us k = y := ⟨_, rfl⟩
      rw [hy] at ck hS hM HT
      clear hcc hy hb
      cases hqy : q y
      · have HE := ShE.mk (hS hqy)
        rw [hqy] at HT
        clear hS hM hqy
        go_wp2_with fail
        refine HT.out.mono ?_
        rintro e w3 ⟨rfl, hb3⟩
        have HB3 := ShE.mk (HBk.out.trans (hb3.mono HBk.out.size))
        have HO3 := ShE.mk (show OwnS w.heap.size w3 _ (pickTo q us (k + 1)) by rw [HE.out]; exact OwnS.kept HO1.out hb3)
        clear hb3 c0 ck
        go_wp2
        go_roundw
        case rel => exact ⟨k + 1, by omega, by go_num, HO3.out, HB3.out⟩
        case measure => simp [intOf]; omega
      · have HE := ShE.mk (hM hqy)
        rw [hqy] at HT
        clear hS hM hqy
        go_wp2_with fail
        refine HT.out.mono ?_
        rintro e w3 ⟨rfl, hb3⟩
        have HB3 := ShE.mk (HBk.out.trans (hb3.mono HBk.out.size))
        have HO3 := ShE.mk (OwnS.kept HO1.out hb3)
        clear hb3 c0 ck
        go_wp2_with (at_builtin; refine wpList_append_strs rfl _ _ rfl rfl rfl (OwnS.kept HO3.out ((Below.refl _ _).alloc (Nat.le_refl _) _)) (Strs.made1 _ y) (by have := HLN.out k; simp; omega) (by have := HB3.out.size; simp; omega) ?_)
        intro v' w4 ho4 hg4
        have HB4 := ShE.mk ((HB3.out.alloc HB3.out.size (.cells #[.string y] 9)).grown hg4 (by have := HB3.out.size; simp; omega) (OwnS.block HO3.out))
        have HO4 := ShE.mk (show OwnS w.heap.size w4 v' (pickTo q us (k + 1)) by rw [HE.out]; exact ho4)
        clear ho4 hg4
        go_wp2
        go_roundw
        case rel => exact ⟨k + 1, by omega, by go_num, HO4.out, HB4.out⟩
        case measure => simp [intOf]; omega
    · obtain rfl : k = us.length := by omega
      go_wp2
      go_ret
      exact ⟨_, rfl, HO1.out, HBk.out⟩
end Go.Proofs.Ytpjekfebpgjgnaa

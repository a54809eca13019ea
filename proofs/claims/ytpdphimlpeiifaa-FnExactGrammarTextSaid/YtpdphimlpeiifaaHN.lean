/-
  The text of a grammar: the program's function.
-/
import Derived.Test.YtpdphimlpeiifaaHM
import Derived.Test.YtpdphimlpeiifaaHF
import Derived.Test.YtpdphimlpeiifaaHK
import Derived.Test.YtpdphimlpeiifaaQA
import Derived.Deep.RegionHeld3
namespace Go.Proofs.Ytpdphimlpeiifaa
open Go.RowKit

/-- What the call's draws read of the affix at hand. -/
def Five (c : Nat) (n x y z : ByteArray) (w : World) : Prop :=
  w.cell? ⟨c, 0, none⟩ = some (.string n) ∧ w.cell? ⟨c, 2, none⟩ = some (.string x) ∧ w.cell? ⟨c, 3, none⟩ = some (.string y) ∧ w.cell? ⟨c, 4, none⟩ = some (.string z)
theorem five_of {w : World} {c : Nat} {t : TypeId} {f : Bool} {n x y z : ByteArray} (p : Blk w c t #[.string n, .bool f, .string x, .string y, .string z]) : Five c n x y z w :=
  ⟨p.cells 0, p.cells 2, p.cells 3, p.cells 4⟩
theorem isB_far {B b : Nat} {l : List UInt8} {w : World} (h : IsB B b l w) : ∀ u, w.cell? ⟨b, 1, none⟩ = some u → ∀ k, u.ownBlock = some k → k < w.heap.size := by
  intro u hu k hk
  have one : ∀ p, Lib.BuilderAt 123 5 B b p (Lib.byteCells l) w → k < w.heap.size := by
    rintro p ⟨hB, v, hbk, hown, hne⟩
    have : w.cell? ⟨b, 1, none⟩ = some v := by rw [Lib.cell_of_heap hbk]; rfl
    rw [this] at hu
    cases hu
    exact (hown.lt k hk).2
  rcases h with h | h
  · exact one _ h
  · exact one _ h
theorem isB_lt {B b : Nat} {l : List UInt8} {w : World} (h : IsB B b l w) : b < w.heap.size := by
  rcases h with ⟨_, v, hbk, _⟩ | ⟨_, v, hbk, _⟩
  · exact (Array.getElem?_eq_some_iff.1 hbk).1
  · exact (Array.getElem?_eq_some_iff.1 hbk).1

/-- Writing to the builder while a copy made behind it lies by. -/
theorem write_on {B b : Nat} {l : List UInt8} {s : ByteArray} {t : TypeId} {cs : Array Value} (wr W : World) (o : Obj) (ho : o = .cells cs t (0, 0)) (hb : Below (wr.alloc o).heap.size (wr.alloc o) W) (h : IsB B b l wr) (hBw : B ≤ wr.heap.size) (hlen : l.length + s.size ≤ 1000000000) :
    Calls Try.prog 97 #[.pointer (some ⟨b, 0, none⟩), .string s] W fun e w' => e = .returned (.tuple #[.int .i64 s.size, .nilIface]) ∧ IsB B b (l ++ s.data.toList) w' ∧ Below B wr w' ∧ Blk w' wr.heap.size t cs := by
  subst ho
  have hlt := isB_lt h
  have hfar := isB_far h
  have hs0 : wr.heap.size < (wr.alloc (.cells cs t (0, 0))).heap.size := by simp
  have hsz := hb.size
  have hbr : Below wr.heap.size wr W := ((Below.refl _ _).alloc (Nat.le_refl _) _).trans (hb.mono (by omega))
  refine (writeString_off B b l s W (h.kept hbr) hlen (by omega)).mono ?_
  rintro e w' ⟨rfl, h1, h2, h3, h4⟩
  refine ⟨rfl, h1, (hbr.mono hBw).trans h2, ?_⟩
  show w'.heap[wr.heap.size]? = _
  rw [h4 wr.heap.size (by omega) (by omega) (fun u hu hk => by
    rw [hbr.cell (p := ⟨b, 1, none⟩) hlt] at hu
    exact absurd (hfar u hu _ hk) (by omega))]
  rw [hb.block wr.heap.size hs0]
  exact Blk.made wr t cs

theorem strs_made (W : World) (ss : List ByteArray) (hm : ss.length ≤ maxLen) : Strs (W.alloc (.cells (ss.map Value.string).toArray 9)) (.slice (some ⟨W.heap.size, 0, none⟩) ss.length ss.length) ss := by
  refine ⟨_, _, rfl, Nat.le_refl _, hm, fun _ => ⟨W.heap.size, 0, rfl, by simp, fun j hj => ?_⟩⟩
  have hp : Blk (W.alloc (.cells (ss.map Value.string).toArray 9)) W.heap.size 9 (ss.map Value.string).toArray := Blk.made _ _ _
  rw [Nat.zero_add, hp.cells j]
  have := strAt_map ss j hj
  simpa using this
set_option maxHeartbeats 400000 in
theorem affLine_on {x : Aff} {n s1 P1 P2 P3 : ByteArray} (hn : x.n = n) (h0 : txt (sideL x.f) = s1) (h1 : txt (partL x.w) = P1) (h2 : txt (partL x.s) = P2) (h3 : txt (partL x.a) = P3) (hw : affW x ≤ 1048576) (w0 W : World) (A : Nat) (hA : A = W.heap.size) (hb : Below w0.heap.size w0 W) :
    Calls Try.prog 98 #[.slice (some ⟨A, 0, none⟩) 6 6] (W.alloc (.cells #[.string ⟨#[97, 102, 102, 105, 120]⟩, .string n, .string s1, .string P1, .string P2, .string P3] 9)) fun e w' => e = .returned (.string (txt (affLine x))) ∧ Below w0.heap.size w0 w' := by
  subst hA
  obtain ⟨T, hT, hl, hz⟩ := aff_join hn h0 h1 h2 h3
  have hs := strs_made W [⟨#[97, 102, 102, 105, 120]⟩, n, s1, P1, P2, P3] (by unfold maxLen; simp)
  refine (lineOf_any _ hs (by simp) hT (by omega)).mono ?_
  rintro e w' ⟨rfl, hb'⟩
  rw [hl]
  have hba := hb.alloc hb.size (.cells (([⟨#[97, 102, 102, 105, 120]⟩, n, s1, P1, P2, P3] : List ByteArray).map Value.string).toArray 9)
  exact ⟨rfl, hba.trans (hb'.mono hba.size)⟩

set_option maxHeartbeats 400000 in
theorem affLine_onD {x : Aff} {n s1 P1 P2 P3 : ByteArray} (hn : x.n = n) (h0 : txt (sideL x.f) = s1) (h1 : txt (partL x.w) = P1) (h2 : txt (partL x.s) = P2) (h3 : txt (partL x.a) = P3) (hw : affW x ≤ 1048576) (w0 W : World) (A : Nat) (hA : A = W.heap.size) (hb : Below w0.heap.size w0 W) :
    Calls Try.prog 98 #[.slice (some ⟨A, 0, none⟩) 6 6] ((W.alloc (.cells #[.string ⟨#[97, 102, 102, 105, 120]⟩, .string n, .string s1, .string P1, .string P2, .string P3] 9)).drew) fun e w' => e = .returned (.string (txt (affLine x))) ∧ Below w0.heap.size w0 w' := by
  subst hA
  obtain ⟨T, hT, hl, hz⟩ := aff_join hn h0 h1 h2 h3
  have hs := strs_made W [⟨#[97, 102, 102, 105, 120]⟩, n, s1, P1, P2, P3] (by unfold maxLen; simp)
  refine (lineOf_any _ (hs.drewN 1) (by simp) hT (by omega)).mono ?_
  rintro e w' ⟨rfl, hb'⟩
  rw [hl]
  have hba := hb.alloc hb.size (.cells (([⟨#[97, 102, 102, 105, 120]⟩, n, s1, P1, P2, P3] : List ByteArray).map Value.string).toArray 9)
  exact ⟨rfl, hba.drew.trans (hb'.mono hba.size)⟩

theorem stmIs_on {w w' : World} {b o : Nat} {x : Stm} (h : StmIs w b o x) (hb : Below w.heap.size w w') (hl : b < w.heap.size) : StmIs w' b o x := by
  obtain ⟨h1, u, h2, h3⟩ := h
  exact ⟨(hb.cell (p := ⟨b, o, none⟩) hl).trans h1, u, (hb.cell (p := ⟨b, o + 1, none⟩) hl).trans h2, h3.below hb⟩
/-- The stem's parts, laid one behind the other. -/
theorem concat_on {n : ByteArray} {u : Value} {us : List ByteArray} (W1 : World) (A1 A2 : Nat) (h1 : A1 = W1.heap.size) (h2 : A2 = W1.heap.size + 1) (hu : Strs W1 u us) (hn : us.length ≤ 2000000) :
    Calls Try.prog 100 #[.slice (some ⟨A2, 0, none⟩) 2 2] ((W1.alloc (.cells #[.string ⟨#[115, 116, 101, 109]⟩, .string n] 9)).alloc (.cells #[.slice (some ⟨A1, 0, none⟩) 2 2, u] 51)) fun e w' => ∃ v, e = .returned v ∧ Strs w' v ([⟨#[115, 116, 101, 109]⟩, n] ++ us) ∧ Below W1.heap.size W1 w' := by
  subst h1 h2
  have hs := strs_made W1 [⟨#[115, 116, 101, 109]⟩, n] (by unfold maxLen; simp)
  have hb1 := (Below.refl W1.heap.size W1).alloc (Nat.le_refl _) (.cells (([⟨#[115, 116, 101, 109]⟩, n] : List ByteArray).map Value.string).toArray 9)
  have hp := Blk.made (W1.alloc (.cells (([⟨#[115, 116, 101, 109]⟩, n] : List ByteArray).map Value.string).toArray 9)) 51 #[.slice (some ⟨W1.heap.size, 0, none⟩) 2 2, u]
  rw [World.size_alloc] at hp
  have hb2 := hb1.alloc hb1.size (.cells #[.slice (some ⟨W1.heap.size, 0, none⟩) 2 2, u] 51)
  refine (concat_two _ (hp.cells 0) (hp.cells 1) hp.lt (hs.alloc _) (hu.below hb2) (by simp) (by simp) hn).mono ?_
  rintro e w' ⟨v, rfl, ho, hb⟩
  exact ⟨v, rfl, ho.strs, hb2.trans (hb.mono hb2.size)⟩

set_option maxRecDepth 100000 in
set_option maxHeartbeats 400000 in
theorem implGrammarText_any {va vs : Value} {xs : List Aff} {ss : List Stm} (W : World) (hg : Gram W va vs xs ss) (hx : ∀ x ∈ xs, AffFine x) (hs : ∀ x ∈ ss, StmFine x) (hsz : gramW xs ss ≤ 1048576) :
    Calls Try.prog 45 #[.agg #[va, vs]] W fun e w' => e = .returned (.string (txt (gText xs ss))) ∧ Below W.heap.size W w' := by
  have hxl := hg.affs.len
  have hsl := hg.stms.len
  have HG := Shh.mk hg
  have hb0 := (Below.refl W.heap.size W).alloc (Nat.le_refl _) (.cells #[va, vs] 46)
  have P0 := Shh.mk (Blk.made W 46 #[va, vs])
  obtain ⟨⟨aa, ac, rfl, hal, ham, hac⟩, ⟨sa, sc, rfl, hsl1, hsm, hsc⟩⟩ := hg
  have HCA := Shh.mk hac
  have HCS := Shh.mk hsc
  have HSMALL := Shh.mk (small_of hsz)
  have HBA := Shh.mk (fun k (hk : k ≤ xs.length) => affText_bound hsz hk)
  have HBS := Shh.mk (fun k (hk : k ≤ ss.length) => stmText_bound hsz hk)
  clear hac hsc
  obtain ⟨t, htt⟩ : ∃ t, okG xs ss = t := ⟨_, rfl⟩
  have HT := Shh.mk htt
  cases t
  · have HE := Shh.mk (gText_no htt)
    clear htt
    go_enter Try.func45, Try.ntmps45
    go_wp2_with fail
    refine (implValidGrammar_any _ (HG.out.alloc _) hx hs).mono ?_
    rw [HT.out]
    rintro e w1 ⟨rfl, hb1⟩
    go_wp2
    go_ret
    exact ⟨by rw [HE.out]; rfl, hb0.trans (hb1.mono hb0.size)⟩
  · have HE := Shh.mk (gText_yes htt)
    clear htt
    go_enter Try.func45, Try.ntmps45
    go_wp2_with fail
    refine (implValidGrammar_any _ (HG.out.alloc _) hx hs).mono ?_
    rw [HT.out]
    rintro e V ⟨rfl, hb1⟩
    have hgV : W.heap.size < V.heap.size := Nat.lt_of_lt_of_le P0.out.lt hb1.size
    have HBV := Shh.mk (hb0.trans (hb1.mono hb0.size))
    have PV := Shh.mk (P0.out.kept hb1 P0.out.lt)
    have cV := (PV.out.alloc (.cells #[.pointer none, .slice none 0 0] 123)).cells
    have HFR := Shh.mk (fresh_builder V)
    go_wp2
    clear cV
    go_loopw [5, 6, 15] (fun _ _ i wr => ∃ k : Nat, k ≤ xs.length ∧ i = .int .i64 k ∧ Shh (IsB V.heap.size V.heap.size (affText xs k) wr) ∧ Below V.heap.size V wr) (fun _ _ i _ => xs.length - (intOf i).toNat)
    case atStart => exact ⟨0, Nat.zero_le _, rfl, HFR, (Below.refl _ _).alloc (Nat.le_refl _) _⟩
    case round =>
      obtain ⟨k, hk, rfl, hB, hb⟩ := hrel
      have hbs := hb.size
      by_cases hlt : k < xs.length
      · obtain ⟨ba, oa, rfl, hba, hcc⟩ := HCA.out (by omega)
        have hBW := HBV.out.trans (hb.mono (Nat.le_of_lt hgV))
        have ha := AffAt.below (hcc k hlt) hBW hba
        have hw1 := HSMALL.out.aff _ (affG_mem hlt)
        have hT := HBA.out k (by omega)
        have HE1 : Shh (affText xs (k + 1) = affText xs k ++ affLine (affG xs k)) := ⟨rfl⟩
        have hll := affLine_len (affG xs k)
        obtain ⟨y, hy⟩ : ∃ y, affG xs k = y := ⟨_, rfl⟩
        rw [hy] at ha hw1 HE1 hll
        obtain ⟨n, fr, ww, st, ad⟩ := y
        obtain ⟨k0, k1, k2, k3, k4⟩ := ha
        simp only at k0 k1 k2 k3 k4
        obtain ⟨P1, hP1⟩ : ∃ P, txt (partL ww) = P := ⟨_, rfl⟩
        obtain ⟨P2, hP2⟩ : ∃ P, txt (partL st) = P := ⟨_, rfl⟩
        obtain ⟨P3, hP3⟩ : ∃ P, txt (partL ad) = P := ⟨_, rfl⟩
        obtain ⟨s1, hs1⟩ : ∃ s, txt (sideL fr) = s := ⟨_, rfl⟩
        have HP1 := Shh.mk hP1
        have HP2 := Shh.mk hP2
        have HP3 := Shh.mk hP3
        obtain ⟨o, ho⟩ : ∃ o, o = Obj.cells #[.string n, .bool fr, .string ww, .string st, .string ad] 25 (0, 0) := ⟨_, rfl⟩
        have HLINE := Shh.mk (fun W1 A hA hb => affLine_on (x := ⟨n, fr, ww, st, ad⟩) rfl hs1 hP1 hP2 hP3 hw1 (wr.alloc o) W1 A hA hb)
        have HLINED := Shh.mk (fun W1 A hA hb => affLine_onD (x := ⟨n, fr, ww, st, ad⟩) rfl hs1 hP1 hP2 hP3 hw1 (wr.alloc o) W1 A hA hb)
        have HBLK : Shh (∀ w', Below (wr.alloc o).heap.size (wr.alloc o) w' → Five wr.heap.size n ww st ad w') := ⟨fun w' hb' => by
          have hp : Blk (wr.alloc o) wr.heap.size 25 #[.string n, .bool fr, .string ww, .string st, .string ad] := by rw [ho]; exact Blk.made _ _ _
          exact five_of (hp.kept hb' hp.lt)⟩
        have HWR : Shh (∀ W1, Below (wr.alloc o).heap.size (wr.alloc o) W1 → Calls Try.prog 97 #[.pointer (some ⟨V.heap.size, 0, none⟩), .string (txt (affLine ⟨n, fr, ww, st, ad⟩))] W1 fun e w' => (∃ u, e = .returned u) ∧ Shh (IsB V.heap.size V.heap.size (affText xs (k + 1)) w') ∧ Below V.heap.size V w' ∧ Five wr.heap.size n ww st ad w') := ⟨fun W1 hb1 => by
          refine (write_on wr W1 o ho hb1 hB.out hbs (by rw [txt_size]; omega)).mono ?_
          rintro e w' ⟨rfl, h1, h2, h3⟩
          refine ⟨⟨_, rfl⟩, ⟨?_⟩, hb.trans h2, five_of h3⟩
          rw [HE1.out]
          rw [txt_list] at h1
          exact h1⟩
        subst ho
        clear hcc hy hP1 hP2 hP3 hT hw1 HE1
        cases fr
        · obtain rfl : ⟨#[98, 97, 99, 107]⟩ = s1 := hs1
          go_wp2
          go_region_held3 (fun w' => w'.cell? ⟨wr.heap.size, 0, none⟩ = some (.string n) ∧ w'.cell? ⟨wr.heap.size, 2, none⟩ = some (.string ww) ∧ w'.cell? ⟨wr.heap.size, 3, none⟩ = some (.string st) ∧ w'.cell? ⟨wr.heap.size, 4, none⟩ = some (.string ad))
            (first | assumption | exact HBLK.out _ (by first | assumption | exact Below.refl _ _ | exact (Below.refl _ _).drew | exact (Below.refl _ _).alloc (Nat.le_refl _) _ | exact ((Below.refl _ _).alloc (Nat.le_refl _) _).drew))
            (first
              | (go_at_call 99; (first | with_reducible refine (ptext_is HP1.out _).mono ?_ | with_reducible refine (ptext_is HP2.out _).mono ?_ | with_reducible refine (ptext_is HP3.out _).mono ?_); rintro e w2 ⟨rfl, rfl⟩)
              | (go_at_call 98; (first | with_reducible refine (HLINE.out _ _ (by first | rfl | simp | (simp [World.drew])) (by first | assumption | exact Below.refl _ _ | exact (Below.refl _ _).drew)).mono ?_ | with_reducible refine (HLINED.out _ _ (by first | rfl | simp | (simp [World.drew])) (by first | assumption | exact Below.refl _ _ | exact (Below.refl _ _).drew)).mono ?_); rintro e w3 ⟨rfl, hb3⟩)
              | (go_at_call 97; refine (HWR.out _ (by assumption)).mono ?_; rintro e w4 ⟨⟨u, rfl⟩, hB4, hb4, hf4⟩))
          all_goals
            go_wp2
            go_roundw
            case rel => exact ⟨k + 1, by omega, by go_num, hB4, hb4⟩
            case measure => simp [intOf]; omega
        · obtain rfl : ⟨#[102, 114, 111, 110, 116]⟩ = s1 := hs1
          go_wp2
          go_region_held3 (fun w' => w'.cell? ⟨wr.heap.size, 0, none⟩ = some (.string n) ∧ w'.cell? ⟨wr.heap.size, 2, none⟩ = some (.string ww) ∧ w'.cell? ⟨wr.heap.size, 3, none⟩ = some (.string st) ∧ w'.cell? ⟨wr.heap.size, 4, none⟩ = some (.string ad))
            (first | assumption | exact HBLK.out _ (by first | assumption | exact Below.refl _ _ | exact (Below.refl _ _).drew | exact (Below.refl _ _).alloc (Nat.le_refl _) _ | exact ((Below.refl _ _).alloc (Nat.le_refl _) _).drew))
            (first
              | (go_at_call 99; (first | with_reducible refine (ptext_is HP1.out _).mono ?_ | with_reducible refine (ptext_is HP2.out _).mono ?_ | with_reducible refine (ptext_is HP3.out _).mono ?_); rintro e w2 ⟨rfl, rfl⟩)
              | (go_at_call 98; (first | with_reducible refine (HLINE.out _ _ (by first | rfl | simp | (simp [World.drew])) (by first | assumption | exact Below.refl _ _ | exact (Below.refl _ _).drew)).mono ?_ | with_reducible refine (HLINED.out _ _ (by first | rfl | simp | (simp [World.drew])) (by first | assumption | exact Below.refl _ _ | exact (Below.refl _ _).drew)).mono ?_); rintro e w3 ⟨rfl, hb3⟩)
              | (go_at_call 97; refine (HWR.out _ (by assumption)).mono ?_; rintro e w4 ⟨⟨u, rfl⟩, hB4, hb4, hf4⟩))
          all_goals
            go_wp2
            go_roundw
            case rel => exact ⟨k + 1, by omega, by go_num, hB4, hb4⟩
            case measure => simp [intOf]; omega
      · obtain rfl : k = xs.length := by omega
        have PW := Shh.mk (PV.out.kept hb hgV)
        have cW := PW.out.cells
        obtain ⟨A, hA⟩ : ∃ A, affText xs xs.length = A := ⟨_, rfl⟩
        have hAl := HBA.out xs.length (Nat.le_refl _)
        rw [hA] at hAl hB
        have HG0 : Shh (gramL xs ss = A ++ stmText ss ss.length) := ⟨by unfold gramL; rw [hA]⟩
        clear HCA hA HBA
        go_wp2
        clear cW
        go_loopw [8, 40] (fun _ i w' => ∃ k : Nat, k ≤ ss.length ∧ i = .int .i64 k ∧ Shh (IsB V.heap.size V.heap.size (A ++ stmText ss k) w') ∧ Below V.heap.size V w') (fun _ i _ => ss.length - (intOf i).toNat)
        case atStart => exact ⟨0, Nat.zero_le _, rfl, ⟨by simpa [stmText] using hB.out⟩, hb⟩
        case round =>
          clear hB hb hbs PW
          obtain ⟨k, hk, rfl, hB, hb⟩ := hrel
          have hbs := hb.size
          by_cases hltk : k < ss.length
          · obtain ⟨bs, os, rfl, hbsl, hcc⟩ := HCS.out (by omega)
            have hBW := HBV.out.trans (hb.mono (Nat.le_of_lt hgV))
            have ha := stmIs_on (hcc k hltk) hBW hbsl
            have hw1 := HSMALL.out.word _ (stmG_mem hltk)
            have hu1 := HSMALL.out.use _ (stmG_mem hltk)
            have hT := HBS.out k (by omega)
            have hT1 := HBS.out (k + 1) (by omega)
            have hE1 : stmText ss (k + 1) = stmText ss k ++ stmLine (stmG ss k) := rfl
            rw [hE1, List.length_append] at hT1
            have HE1 := Shh.mk hE1
            have hll := stmLine_len (stmG ss k)
            obtain ⟨y, hy⟩ : ∃ y, stmG ss k = y := ⟨_, rfl⟩
            rw [hy] at ha hw1 HE1 hll hu1 hT1
            obtain ⟨T, hTT, hTL, hTz⟩ := stm_join y
            have hul := HSMALL.out.ulen _ (stmG_mem hltk)
            rw [hy] at hul
            obtain ⟨n, us⟩ := y
            obtain ⟨k0, u, k1, hu⟩ := ha
            simp only at k0 k1 hu hul hTT
            have HU := Shh.mk hu
            obtain ⟨ua, uc, rfl, -⟩ := hu
            obtain ⟨o, ho⟩ : ∃ o, o = Obj.cells #[.string n, .slice ua us.length uc] 97 (0, 0) := ⟨_, rfl⟩
            have HCON := Shh.mk (fun A1 A2 h1 h2 => concat_on (n := n) (wr.alloc o) A1 A2 h1 h2 (HU.out.alloc o) (by omega))
            have HLINE : Shh (∀ v W2, Strs W2 v ([⟨#[115, 116, 101, 109]⟩, n] ++ us) → Below (wr.alloc o).heap.size (wr.alloc o) W2 → Calls Try.prog 98 #[v] W2 fun e w' => e = .returned (.string (txt (stmLine ⟨n, us⟩))) ∧ Below (wr.alloc o).heap.size (wr.alloc o) w') := ⟨fun v W2 hv hb2 => by
              refine (lineOf_any W2 hv (by simp) hTT (by omega)).mono ?_
              rintro e w' ⟨rfl, hb'⟩
              rw [hTL]
              exact ⟨rfl, hb2.trans (hb'.mono hb2.size)⟩⟩
            have HWR : Shh (∀ W1, Below (wr.alloc o).heap.size (wr.alloc o) W1 → Calls Try.prog 97 #[.pointer (some ⟨V.heap.size, 0, none⟩), .string (txt (stmLine ⟨n, us⟩))] W1 fun e w' => (∃ u, e = .returned u) ∧ Shh (IsB V.heap.size V.heap.size (A ++ stmText ss (k + 1)) w') ∧ Below V.heap.size V w') := ⟨fun W1 hb1 => by
              refine (write_on wr W1 o ho hb1 hB.out hbs (by rw [txt_size, List.length_append]; omega)).mono ?_
              rintro e w' ⟨rfl, h1, h2, h3⟩
              refine ⟨⟨_, rfl⟩, ⟨?_⟩, hb.trans h2⟩
              rw [HE1.out, ← List.append_assoc]
              rw [txt_list] at h1
              exact h1⟩
            subst ho
            clear hcc hy hT hT1 hw1 hu1 HE1 hTT hTL hE1
            go_wp2_with fail
            refine (HCON.out _ _ (by first | rfl | simp) (by first | rfl | simp)).mono ?_
            rintro e w2 ⟨v2, rfl, hs2, hb2⟩
            go_wp2_with fail
            refine (HLINE.out _ _ hs2 hb2).mono ?_
            rintro e w3 ⟨rfl, hb3⟩
            go_wp2_with fail
            refine (HWR.out _ hb3).mono ?_
            rintro e w4 ⟨⟨u4, rfl⟩, hB4, hb4⟩
            go_wp2
            go_roundw
            case rel => exact ⟨k + 1, by omega, by go_num, hB4, hb4⟩
            case measure => simp [intOf]; omega
          · obtain rfl : k = ss.length := by omega
            have hz : (gramL xs ss).length ≤ 1000000000 := by
              have := HBS.out ss.length (Nat.le_refl _)
              rw [HG0.out, List.length_append]
              omega
            rw [← HG0.out] at hB
            have HST := Shh.mk (Try.Builder_String_any V.heap.size V.heap.size (gramL xs ss) _ hB.out hbs)
            go_wp2_with fail
            refine HST.out.mono ?_
            rintro e w5 ⟨rfl, hb5⟩
            go_wp2
            go_ret
            exact ⟨by rw [HE.out]; rfl, HBV.out.trans ((hb.trans hb5).mono (Nat.le_of_lt hgV))⟩
end Go.Proofs.Ytpdphimlpeiifaa

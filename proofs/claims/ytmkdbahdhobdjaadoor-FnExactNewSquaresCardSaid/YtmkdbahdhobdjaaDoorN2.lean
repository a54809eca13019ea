/-
  Plain facts on walking along two piles place by place, and on sorting by laying bytes to their places; no program in sight.
-/
import Derived.Test.YtmkdbahdhobdjaaDoorN1
namespace Go.Proofs.YtmkdbahdhobdjaaDoor
open Go.RowKit

/-- A fact put wholly out of the walk's sight: a structure, which no unfolding opens. -/
structure Shh (p : Prop) : Prop where
  out : p

theorem drop_at (s : ByteArray) {k : Nat} (h : k < s.size) : s.data.toList.drop k = s[k]'h :: s.data.toList.drop (k + 1) := by
  rw [List.drop_eq_getElem_cons (by simpa using h)]
  rfl
theorem drop_end (s : ByteArray) {k : Nat} (h : s.size ≤ k) : s.data.toList.drop k = [] := List.drop_eq_nil_of_le (by simpa using h)
theorem len_list (s : ByteArray) : s.data.toList.length = s.size := by simp

/-! ### Taking -/
/-- What was walked along so far: the places i and k, and what was kept. -/
def TK (a b : ByteArray) (i k : Nat) (O : List UInt8) : Prop :=
  takeL a.data.toList b.data.toList = (O ++ (takeL (a.data.toList.drop i) (b.data.toList.drop k)).1, (takeL (a.data.toList.drop i) (b.data.toList.drop k)).2)
theorem tk_start (a b : ByteArray) : TK a b 0 0 [] := by simp [TK]
theorem tk_hit {a b : ByteArray} {i k : Nat} {O : List UInt8} (h : TK a b i k O) (hi : i < a.size) (hk : k < b.size) (e : b[k]'hk = a[i]'hi) : TK a b (i + 1) (k + 1) O := by
  unfold TK at h ⊢
  rw [drop_at a hi, drop_at b hk, takeL, if_pos e] at h
  exact h
theorem tk_miss {a b : ByteArray} {i k : Nat} {O : List UInt8} (h : TK a b i k O) (hi : i < a.size) (e : ∀ hk : k < b.size, b[k]'hk ≠ a[i]'hi) : TK a b (i + 1) k (O ++ [a[i]'hi]) := by
  unfold TK at h ⊢
  rcases Nat.lt_or_ge k b.size with hk | hk
  · rw [drop_at a hi, drop_at b hk, takeL, if_neg (e hk), ← drop_at b hk] at h
    simpa using h
  · rw [drop_at a hi, drop_end b hk, takeL] at h
    rw [drop_end b hk]
    simpa using h
theorem tk_end {a b : ByteArray} {k : Nat} {O : List UInt8} (h : TK a b a.size k O) : takeL a.data.toList b.data.toList = (O, b.data.toList.drop k) := by
  unfold TK at h
  rw [drop_end a (Nat.le_refl _), takeL, List.append_nil] at h
  exact h
theorem drop_empty (b : ByteArray) {k : Nat} (h : k ≤ b.size) : (b.data.toList.drop k).isEmpty = ((k : Int) == (b.size : Int)) := by
  rw [Bool.eq_iff_iff, List.isEmpty_iff, List.drop_eq_nil_iff, len_list, beq_iff_eq]
  omega
theorem ne_of_nat {x y : UInt8} (h : ¬ (x.toNat : Int) = (y.toNat : Int)) : x ≠ y := fun e => h (by rw [e])
theorem eq_of_nat {x y : UInt8} (h : (x.toNat : Int) = (y.toNat : Int)) : x = y := UInt8.toNat_inj.1 (by omega)

/-! ### What both have -/
def BK (a b : ByteArray) (i k : Nat) (O : List UInt8) : Prop :=
  bothL a.data.toList b.data.toList = O ++ bothL (a.data.toList.drop i) (b.data.toList.drop k)
theorem bk_start (a b : ByteArray) : BK a b 0 0 [] := by simp [BK]
theorem bk_less {a b : ByteArray} {i k : Nat} {O : List UInt8} (h : BK a b i k O) (hi : i < a.size) (hk : k < b.size) (e : (a[i]'hi).toNat < (b[k]'hk).toNat) : BK a b (i + 1) k O := by
  unfold BK at h ⊢
  rw [drop_at a hi, drop_at b hk, bothL, if_pos (UInt8.lt_iff_toNat_lt.2 e), ← drop_at b hk] at h
  exact h
theorem bk_more {a b : ByteArray} {i k : Nat} {O : List UInt8} (h : BK a b i k O) (hi : i < a.size) (hk : k < b.size) (e : (b[k]'hk).toNat < (a[i]'hi).toNat) : BK a b i (k + 1) O := by
  unfold BK at h ⊢
  rw [drop_at a hi, drop_at b hk, bothL, if_neg (by rw [UInt8.lt_iff_toNat_lt]; omega), if_pos (UInt8.lt_iff_toNat_lt.2 e), ← drop_at a hi] at h
  exact h
theorem bk_same {a b : ByteArray} {i k : Nat} {O : List UInt8} (h : BK a b i k O) (hi : i < a.size) (hk : k < b.size) (e1 : ¬ (a[i]'hi).toNat < (b[k]'hk).toNat) (e2 : ¬ (b[k]'hk).toNat < (a[i]'hi).toNat) : BK a b (i + 1) (k + 1) (O ++ [a[i]'hi]) := by
  unfold BK at h ⊢
  rw [drop_at a hi, drop_at b hk, bothL, if_neg (by rw [UInt8.lt_iff_toNat_lt]; exact e1), if_neg (by rw [UInt8.lt_iff_toNat_lt]; exact e2)] at h
  rw [h, List.append_assoc]
  rfl
theorem bk_end {a b : ByteArray} {i k : Nat} {O : List UInt8} (h : BK a b i k O) (e : a.size ≤ i ∨ b.size ≤ k) : bothL a.data.toList b.data.toList = O := by
  unfold BK at h
  rcases e with e | e
  · rw [drop_end a e, bothL, List.append_nil] at h; exact h
  · rw [drop_end b e, bothL_nil, List.append_nil] at h; exact h

/-! ### Sorting -/
/-- What was sorted so far. -/
def SRT (s : ByteArray) (i : Nat) (O : List UInt8) : Prop := Asc O ∧ O.Perm (s.data.toList.take i)
theorem srt_start (s : ByteArray) : SRT s 0 [] := ⟨asc_nil, by simp⟩
theorem srt_len {s : ByteArray} {i : Nat} {O : List UInt8} (h : SRT s i O) (hi : i ≤ s.size) : O.length = i := by
  rw [h.2.length_eq, List.length_take, len_list]
  omega
/-- A byte is on its way down to its place: the row is the list with some byte at a place, and all behind it is not less. -/
def WAY (O : List UInt8) (k : Nat) (c : UInt8) (R : List UInt8) : Prop := k ≤ O.length ∧ (∃ x, R = hole O k x) ∧ ∀ y ∈ O.drop k, c ≤ y
theorem way_start (O : List UInt8) (c : UInt8) : WAY O O.length c (O ++ [c]) := ⟨Nat.le_refl _, ⟨c, (hole_last O c).symm⟩, fun y hy => by simp at hy⟩
theorem way_len {O R : List UInt8} {k : Nat} {c : UInt8} (h : WAY O k c R) : R.length = O.length + 1 := by
  obtain ⟨h1, ⟨x, rfl⟩, _⟩ := h
  exact hole_len O k x h1
theorem way_prev {O R : List UInt8} {k : Nat} {c : UInt8} (h : WAY O (k + 1) c R) : R[k]? = O[k]? := by
  obtain ⟨h1, ⟨x, rfl⟩, _⟩ := h
  exact hole_prev O k x h1
theorem way_step {O R : List UInt8} {k : Nat} {c z : UInt8} (h : WAY O (k + 1) c R) (hz : R[k]? = some z) (hc : c.toNat < z.toNat) : WAY O k c (R.set (k + 1) z) := by
  rw [way_prev h] at hz
  obtain ⟨h1, ⟨x, rfl⟩, h3⟩ := h
  refine ⟨by omega, ⟨z, ?_⟩, drop_ge hz (UInt8.le_iff_toNat_le.2 (by omega)) h3⟩
  rw [hole_set _ _ _ _ h1, hole_step O k z hz]
theorem way_end {O R : List UInt8} {k : Nat} {c : UInt8} (ho : Asc O) (h : WAY O k c R) (hk : k = 0 ∨ ∃ j z, k = j + 1 ∧ R[j]? = some z ∧ ¬ c.toNat < z.toNat) : Asc (R.set k c) ∧ (R.set k c).Perm (O ++ [c]) := by
  have hp : k ≠ 0 → ∃ j z, k = j + 1 ∧ O[j]? = some z ∧ ¬ c.toNat < z.toNat := fun h0 => by
    rcases hk with hk | ⟨j, z, rfl, hz, hc⟩
    · exact absurd hk h0
    · exact ⟨j, z, rfl, by rw [← way_prev h]; exact hz, hc⟩
  obtain ⟨h1, ⟨x, rfl⟩, h3⟩ := h
  rw [hole_set _ _ _ _ h1]
  refine ⟨hole_asc ho ?_ h3, hole_perm O k c⟩
  rcases Nat.eq_zero_or_pos k with h0 | h0
  · subst h0; simp
  · obtain ⟨j, z, rfl, hz, hc⟩ := hp (by omega)
    exact take_le ho hz (UInt8.le_iff_toNat_le.2 (by omega))
theorem srt_step {s : ByteArray} {i k : Nat} {O R : List UInt8} (hi : i < s.size) (h : SRT s i O) (hw : WAY O k (s[i]'hi) R) (hk : k = 0 ∨ ∃ j z, k = j + 1 ∧ R[j]? = some z ∧ ¬ (s[i]'hi).toNat < z.toNat) : SRT s (i + 1) (R.set k (s[i]'hi)) := by
  obtain ⟨h1, h2⟩ := way_end h.1 hw hk
  refine ⟨h1, h2.trans ?_⟩
  rw [take_grows s i hi]
  exact h.2.append_right _
theorem tiles_perm {a b : List UInt8} (h : a.Perm b) (hb : allTiles b = true) : allTiles a = true := by
  unfold allTiles at hb ⊢
  rw [List.all_eq_true] at hb ⊢
  exact fun x hx => hb x (h.mem_iff.1 hx)
theorem cnt_perm {a b : List UInt8} (h : a.Perm b) (k : Nat) : cnt a k = cnt b k := h.count_eq _
/-- The bytes of a text of tiles in order. -/
def sortL (l : List UInt8) : List UInt8 := pileN (cnt l) 27
theorem srt_end {s : ByteArray} {O : List UInt8} (ht : allTiles s.data.toList = true) (h : SRT s s.size O) : O = sortL s.data.toList := by
  have hp := h.2
  rw [take_all] at hp
  exact pile_unique (tiles_perm hp ht) h.1 (fun k _ => cnt_perm hp k)
theorem sortL_len {l : List UInt8} (h : allTiles l = true) : (sortL l).length = l.length := (pile_perm h).length_eq
theorem sortL_tiles (l : List UInt8) : allTiles (sortL l) = true := pileN_tiles _ (Nat.le_refl _)
theorem sortL_asc (l : List UInt8) : Asc (sortL l) := pileN_asc _ (Nat.le_refl _)
theorem tiles_cat {a b : List UInt8} : allTiles (a ++ b) = (allTiles a && allTiles b) := by simp [allTiles]

/-! ### Texts and codes -/
/-- Bytes as a text. -/
def txt (l : List UInt8) : ByteArray := ⟨l.toArray⟩
theorem txt_list (l : List UInt8) : (txt l).data.toList = l := by simp [txt]
theorem txt_size (l : List UInt8) : (txt l).size = l.length := by simp [txt, ByteArray.size]
theorem txt_of (s : ByteArray) : txt s.data.toList = s := by
  apply Go.WideShapes.bytes_inj
  simp [txt]
theorem txt_cat (a b : ByteArray) : a ++ b = txt (a.data.toList ++ b.data.toList) := by
  apply Go.WideShapes.bytes_inj
  simp [txt]
/-- A text and a code. -/
def ret2 (p : List UInt8 × Int) : Value := .tuple #[.string (txt p.1), .int .i64 p.2]
theorem ret2_is {p : List UInt8 × Int} {l : List UInt8} {c : Int} (h : p = (l, c)) : Ending.returned (.tuple #[.string (txt l), .int .i64 c]) = .returned (ret2 p) := by rw [h]; rfl
theorem ret2_nil {p : List UInt8 × Int} {c : Int} (h : p = ([], c)) : Ending.returned (.tuple #[.string ⟨#[]⟩, .int .i64 c]) = .returned (ret2 p) := by rw [h]; rfl
theorem cntB (l : List UInt8) (h : l.length ≤ 1000) : ∀ k, k < 27 → cnt l k ≤ 1000 := fun k _ => Nat.le_trans (cnt_le l k) h

end Go.Proofs.YtmkdbahdhobdjaaDoor

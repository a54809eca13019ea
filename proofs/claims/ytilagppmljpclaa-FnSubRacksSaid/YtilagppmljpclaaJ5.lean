/-
  All ways to place a word with tiles: the function that places one letter more.
-/
import Derived.Test.YtilagppmljpclaaJ4
import Derived.Test.YtilagppmljpclaaQ2
import Derived.Deep.RegionHeld3
namespace Go.Proofs.Ytilagppmljpclaa
open Go.RowKit

theorem extended_on {B : Nat} {v : Value} {l : List UInt8} (c : UInt8) (a w : World) (hb : Below a.heap.size a w) (h : OwnB B a v l) (hl : l.length ≤ 1000) :
    Calls Try.prog 47 #[v, .int .u8 (c.toNat : Int)] w fun e w' => ∃ v', e = .returned v' ∧ OwnB a.heap.size w' v' (l ++ [c]) ∧ Below a.heap.size a w' :=
  (extended_any c w (h.kept hb) hl).mono fun _ _ ⟨v', h1, h2, h3⟩ => ⟨v', h1, own_lower h2 hb.size, hb.trans (h3.mono hb.size)⟩
theorem Held.new {c : Vars} {B : Nat} {w w' : World} {y v : Value} {l : List UInt8} (h : OwnB w.heap.size w' v l) (hB : B ≤ w.heap.size) (hy : ∀ k, y.ownBlock = some k → k < w.heap.size) (hc : ∀ k, c.has k → k < w.heap.size) : Held c B w' y v l :=
  ⟨own_lower h hB, fun k hk => ⟨fun e => by have := (World.ownsRow.lt h k hk).1; have := hc k e; omega, fun e => by have := (World.ownsRow.lt h k hk).1; have := hy k e; omega⟩⟩
theorem Sit.lts {B : Nat} {c : Vars} {word : ByteArray} {w : World} {y : Value} {ys : List ByteArray} {F : Nat → Nat} (h : Sit B c word w y ys F) : ∀ k, c.has k → k < w.heap.size := by
  rintro k (rfl | rfl | rfl | rfl)
  · exact h.word.lt
  · exact h.ways.lt
  · exact h.left.lt
  · exact h.place.lt
theorem Sit.base {B : Nat} {c : Vars} {word : ByteArray} {w : World} {y : Value} {ys : List ByteArray} {F : Nat → Nat} (h : Sit B c word w y ys F) (hc : c.Apart B) : B ≤ w.heap.size := by
  have := h.word.lt
  have := hc.b1
  omega
theorem OwnS.blockJ2 {B : Nat} {w : World} {v : Value} {ss : List ByteArray} (h : OwnS B w v ss) : ∀ k, v.ownBlock = some k → k < w.heap.size := fun k hk => (World.ownsRow.lt h k hk).2
theorem notS {c : Vars} {y : Value} {k : Nat} (h1 : ¬ c.has k) (h2 : y.ownBlock ≠ some k) : ¬ (k = c.ways ∨ k = c.left ∨ y.ownBlock = some k) := by
  rintro (h | h | h)
  · exact h1 (.inr (.inl h))
  · exact h1 (.inr (.inr (.inl h)))
  · exact h2 h
/-- What the function that places is asked for. -/
def PlaceDoes (B : Nat) (c : Vars) (word : ByteArray) (pl l : List UInt8) : Prop :=
  ∀ (F : Nat → Nat) (w : World) (y : Value) (ys : List ByteArray) (v : Value), Sit B c word w y ys F → Held c B w y v pl → (∀ k, F k ≤ 1000) → ys.length + 2 ^ l.length ≤ 100000 →
    Calls Try.prog 61 #[v, .pointer (some ⟨c.word, 0, none⟩), .pointer (some ⟨c.ways, 0, none⟩), .pointer (some ⟨c.left, 0, none⟩), .pointer (some ⟨c.place, 0, none⟩)] w fun e w' => e = .returned (.tuple #[]) ∧ ∃ y', Placed B c word w w' y ys F (outW pl F l) y'

set_option maxRecDepth 100000 in
set_option maxHeartbeats 1000000 in
theorem inner_any {B : Nat} {c : Vars} {word : ByteArray} (hc : c.Apart B) {pl l : List UInt8} {x : UInt8} (hrec : PlaceDoes B c word (pl ++ [x]) l) (F : Nat → Nat) (K : Nat) (hK : K < 27) (w : World) (y : Value) (ys : List ByteArray) (v : Value) (cb : Nat)
    (hs : Sit B c word w y ys F) (hv : Held c B w y v pl) (hpl : pl.length ≤ 100) (hF : ∀ k, F k ≤ 1000) (hys : ys.length + 2 ^ l.length ≤ 100000) (hcb : Blk w cb 22 #[v]) (hcb2 : ¬ c.has cb) (hcb3 : y.ownBlock ≠ some cb) :
    Calls Try.prog 62 #[.int .i64 (K : Int), .int .u8 (x.toNat : Int), .pointer (some ⟨c.left, 0, none⟩), .pointer (some ⟨c.place, 0, none⟩), .pointer (some ⟨cb, 0, none⟩)] w
      fun e w' => e = .returned (.tuple #[]) ∧ ∃ y', Placed B c word w w' y ys F (outK pl F K x l) y' := by
  have hc0 : w.cell? ⟨c.left, K, none⟩ = some (.int .i64 (F K : Int)) := by rw [hs.left.cells, arrN_at F hK]
  have hfr := hs.left.marks K
  have hFK := hF K
  have hk0 : (0 : Int) ≤ (K : Int) := by omega
  have hk27 : (K : Int) < 27 := by omega
  have HC := Shh.mk hc
  have HS := Shh.mk hs
  have HV := Shh.mk hv
  have HR := Shh.mk hrec
  have HF := Shh.mk hF
  have HYS := Shh.mk hys
  have HX := Shh.mk hcb
  have HX2 := Shh.mk hcb2
  have HX3 := Shh.mk hcb3
  by_cases hz : F K = 0
  · have hzz : ¬ (0 : Int) < (F K : Int) := by omega
    have HO := Shh.mk (show outK pl F K x l = [] by unfold outK; rw [if_pos hz])
    obtain ⟨n, hn⟩ : ∃ n, F K = n := ⟨_, rfl⟩
    rw [hn] at hc0 hzz
    clear hz hs hv hrec hc hF hys hcb hcb2 hcb3 hn hFK
    go_enter Try.func62, Try.ntmps62
    go_wp2
    go_end0
    have HP := (⟨by rw [HO.out, List.append_nil]; exact HS.out, Go.Proofs.Ytilagppmljpclaa.Apart.refl _ _, fun k hk => .inl hk⟩ : Placed B c word w w y ys F (outK pl F K x l) y)
    first | exact ⟨rfl, y, HP⟩ | exact ⟨y, HP⟩
  · have hzz : (0 : Int) < (F K : Int) := by omega
    have HO := Shh.mk (show outK pl F K x l = outW (pl ++ [x]) (decK F K) l by unfold outK; rw [if_neg hz])
    have HS1 := Shh.mk (hs.count hc K _ (arrN_dec hz))
    have HINC := Shh.mk (arrN_inc hz)
    obtain ⟨n, hn⟩ : ∃ n, F K = n := ⟨_, rfl⟩
    rw [hn] at hc0 hzz HS1 HINC hFK
    have hdec : decK F K K = n - 1 := by unfold decK; rw [if_pos rfl, hn]
    have HFD := Shh.mk (show ∀ k, decK F K k ≤ 1000 from fun k => by unfold decK; have := hF k; split <;> omega)
    obtain ⟨G, hG⟩ : ∃ G, decK F K = G := ⟨_, rfl⟩
    rw [hG] at HS1 HINC HO HFD hdec
    have hA1 := Shh.mk ((Go.Proofs.Ytilagppmljpclaa.Apart.refl (fun k => k = c.ways ∨ k = c.left ∨ y.ownBlock = some k) w).setCell (p := ⟨c.left, K, none⟩) (fun _ => .inr (.inl rfl)) (.int .i64 ((n : Int) - 1)))
    clear hz hs hv hrec hc hF hys hcb hcb2 hcb3 hn hG
    go_enter Try.func62, Try.ntmps62
    go_wp2_with fail
    obtain ⟨W1, hW1⟩ : ∃ x, w.setCell ⟨c.left, K, none⟩ (.int .i64 ((n : Int) - 1)) = x := ⟨_, rfl⟩
    rw [hW1] at HS1 hA1 ⊢
    have HB0 := Shh.mk (show B ≤ W1.heap.size from HS1.out.base HC.out)
    have HSZ := Shh.mk (show W1.heap.size = w.heap.size by rw [← hW1]; simp)
    have HX1 := Shh.mk (show Blk W1 cb 22 #[v] by rw [← hW1]; exact HX.out.other (fun e => HX2.out (by rw [e]; exact .inr (.inr (.inl rfl)))) _)
    have HV1 := Shh.mk (show OwnB B W1 v pl from own_apart HV.out.own (S := fun k => k = c.left) (by rw [← hW1]; exact (Go.Proofs.Ytilagppmljpclaa.Apart.refl (fun k => k = c.left) w).setCell (p := ⟨c.left, K, none⟩) (fun _ => rfl) _) (fun k hk e => (HV.out.off k hk).1 (by rw [e]; exact .inr (.inr (.inl rfl)))))
    have HK := Shh.mk (fun w' (hb : Below W1.heap.size W1 w') => (⟨(HS1.out.place.kept hb HS1.out.place.lt).cells 0, (HX1.out.kept hb HX1.out.lt).cells 0⟩ : w'.cell? ⟨c.place, 0, none⟩ = some (.func (.func 61) #[] c.ptrs) ∧ w'.cell? ⟨cb, 0, none⟩ = some v))
    clear hW1
    unfold Vars.ptrs at HK
    go_region_held3 (fun w' => w'.cell? ⟨c.place, 0, none⟩ = some (.func (.func 61) #[] #[.pointer (some ⟨c.word, 0, none⟩), .pointer (some ⟨c.ways, 0, none⟩), .pointer (some ⟨c.left, 0, none⟩), .pointer (some ⟨c.place, 0, none⟩)]) ∧ w'.cell? ⟨cb, 0, none⟩ = some v)
      (first | exact HK.out _ (by first | assumption | exact (Below.refl _ _).drew) | exact HK3.out)
      (first
        | (go_at_call 47; with_reducible refine (extended_on x W1 _ (by first | assumption | exact (Below.refl _ _).drew) HV1.out (by omega)).mono ?_; rintro e w2 ⟨v2, rfl, ho2, hb2⟩)
        | (go_at_call 61; refine (HR.out G _ y ys v2 (HS1.out.below hb2) (Held.new ho2 HB0.out (OwnS.blockJ2 HS1.out.own) HS1.out.lts) HFD.out HYS.out).mono ?_; rintro e w3 ⟨rfl, y', hp⟩; have HK3 := Shh.mk (⟨hp.sit.place.cells 0, ((HX1.out.kept hb2 HX1.out.lt).apart hp.apart (notS HX2.out HX3.out)).cells 0⟩ : w3.cell? ⟨c.place, 0, none⟩ = some (.func (.func 61) #[] c.ptrs) ∧ w3.cell? ⟨cb, 0, none⟩ = some v)))
    have HP := Shh.mk hp
    have hA2 := Shh.mk (show Go.Proofs.Ytilagppmljpclaa.Apart (fun k => k = c.ways ∨ k = c.left ∨ y.ownBlock = some k) w w3 from (hA1.out.belowA hb2).trans hp.apart (fun _ _ h => h))
    have hc1 : w3.cell? ⟨c.left, K, none⟩ = some (.int .i64 ((n - 1 : Nat) : Int)) := by rw [hp.sit.left.cells, arrN_at G hK, hdec]
    have hfr1 := hp.sit.left.marks K
    have hn1 : 1 ≤ n := by omega
    obtain ⟨m, hm⟩ : ∃ m, n - 1 = m := ⟨_, rfl⟩
    rw [hm] at hc1 HINC
    have hmm : m ≤ 1000 := by omega
    clear hp hm hdec
    go_wp2
    go_end0
    have HP2 : Placed B c word w (w3.setCell ⟨c.left, K, none⟩ (.int .i64 ((m : Int) + 1))) y ys F (outK pl F K x l) y' :=
      ⟨by rw [HO.out]; exact HP.out.sit.count HC.out K _ HINC.out, hA2.out.setCell (p := ⟨c.left, K, none⟩) (fun _ => .inr (.inl rfl)) _, fun k hk => (HP.out.near k hk).imp id fun h => by have := hb2.size; have := HSZ.out; omega⟩
    first | exact ⟨rfl, y', HP2⟩ | exact ⟨y', HP2⟩

theorem convB {B : Nat} {v : Value} {l : List UInt8} {W : World} (h : OwnB B W v l) : (convert 22 9 v).run Try.prog W = .ok (.string (txt l)) W := conv_rowQ h
/-- Where the letter that is to be placed stands. -/
theorem at_next {word : ByteArray} {c : UInt8} {l : List UInt8} {n : Nat} (h : word.data.toList.drop n = c :: l) : ∃ hn : n < word.size, word[n]'hn = c := by
  have hn : n < word.size := by
    rcases Nat.lt_or_ge n word.size with h1 | h1
    · exact h1
    · rw [List.drop_of_length_le (by rw [len_list]; exact h1)] at h; cases h
  refine ⟨hn, ?_⟩
  rw [drop_at word hn] at h
  injection h
theorem drop_next {word : ByteArray} {c : UInt8} {l : List UInt8} {n : Nat} (h : word.data.toList.drop n = c :: l) : word.data.toList.drop (n + 1) = l := by
  rw [← List.drop_drop, h]
  rfl
theorem drop_done {word : ByteArray} {n : Nat} (h : word.data.toList.drop n = []) (hn : n ≤ word.size) : n = word.size := by
  have := congrArg List.length h
  rw [List.length_drop, len_list] at this
  simp at this
  omega
set_option maxRecDepth 100000 in
set_option maxHeartbeats 2000000 in
theorem place_any {B : Nat} {c : Vars} {word : ByteArray} (hc : c.Apart B) (hw : word.size ≤ 12) : ∀ (l : List UInt8), (∀ x ∈ l, smallB (x.toNat : Int) = true) → ∀ (pl : List UInt8), word.data.toList.drop pl.length = l → pl.length ≤ word.size → PlaceDoes B c word pl l := by
  intro l
  induction l with
  | nil =>
    intro _ pl hd hpl F w y ys v hs hv hF hys
    have hn := drop_done hd hpl
    have hnb : ((pl.length : Int) == (word.size : Int)) = true := by rw [hn]; simp
    have hcv := convB (OwnB.kept hv.own ((Below.refl _ _).alloc (Nat.le_refl _) (.cells #[v] 22)))
    have hwc := ((hs.word.alloc (.cells #[v] 22)).cells) 0
    have hyc := ((hs.ways.alloc (.cells #[v] 22)).cells) 0
    obtain ⟨a, cap, rfl, h1, h2, -⟩ := own_form hv.own
    have HC := Shh.mk hc
    obtain ⟨ya, yc, rfl, y1, y2, -⟩ := own_form hs.own
    have HA0 := Shh.mk ((Go.Proofs.Ytilagppmljpclaa.Apart.refl (fun k => k = c.ways ∨ k = c.left ∨ (Value.slice ya ys.length yc).ownBlock = some k) w).alloc (.cells #[.slice a pl.length cap] 22))
    have HS1 := Shh.mk (hs.below ((Below.refl _ _).alloc (Nat.le_refl _) (.cells #[.slice a pl.length cap] 22)))
    have HB0 := Shh.mk (hs.base hc)
    have hyl : ys.length ≤ 100000 := by simp at hys; omega
    have hout := outW_nil pl F
    have HOT := Shh.mk hout
    clear hd hs hv hc hys hn hout
    go_enter Try.func61, Try.ntmps61
    go_wp2_with (at_builtin; refine wpList_appendH rfl _ _ rfl _ ys (txt pl) rfl rfl (by simp) HS1.out.own (by omega) (by have := HB0.out; simp; omega) ?_; intro g5 c5 w5 ho5 hk5 hl5; have HP := Shh.mk (HS1.out.push HC.out ho5 hk5 hl5); have HK := Shh.mk hk5; have HL := Shh.mk hl5; have hy5 := ((HS1.out.ways.apart hk5 (HS1.out.far (.inr (.inl rfl)))).cells) 0; have hf5 := (HS1.out.ways.apart hk5 (HS1.out.far (.inr (.inl rfl)))).marks 0; clear ho5 hk5 hl5)
    first | go_end0 | refine bodyPost_ret (results_none rfl _ _ _) rfl ?_
    have HP2 : Placed B c word w (w5.setCell ⟨c.ways, 0, none⟩ (.slice (some ⟨g5, 0, none⟩) (ys.length + 1) c5)) (.slice ya ys.length yc) ys F (outW pl F []) (.slice (some ⟨g5, 0, none⟩) (ys.length + 1) c5) :=
      ⟨by rw [HOT.out]; exact HP.out, (HA0.out.trans HK.out (fun _ _ h => .inr (.inr h))).setCell (p := ⟨c.ways, 0, none⟩) (fun _ => .inl rfl) _, fun k hk => by
        simp [Value.ownBlock] at hk
        subst hk
        exact HL.out.imp id fun h => by simp at h; omega⟩
    first | exact ⟨rfl, _, HP2⟩ | exact ⟨_, HP2⟩
  | cons x l ih =>
    intro hsm pl hd hpl F w y ys v hs hv hF hys
    obtain ⟨hlt, hat⟩ := at_next hd
    have hcs := hsm x List.mem_cons_self
    have hkk := small_kind hcs
    have hcap := cap_nat hcs
    have hcb := smallB_iff.1 hcs
    have hnb : ((pl.length : Int) == (word.size : Int)) = false := beq_eq_false_iff_ne.2 (by omega)
    have hn0 : (0 : Int) ≤ (pl.length : Int) := by omega
    have hnl : (pl.length : Int) < (word.size : Int) := by omega
    have hw1 : IntKind.u8.wrap ((x.toNat : Int) - 97) = (x.toNat : Int) - 97 := by rw [IntKind.wrap_u8]; omega
    have hw2 : IntKind.u8.wrap ((x.toNat : Int) - 97 + 65) = ((capU x).toNat : Int) := by rw [IntKind.wrap_u8]; omega
    have hdn := drop_next hd
    have hsl : ∀ z ∈ l, smallB (z.toNat : Int) = true := fun z hz => hsm z (List.mem_cons_of_mem _ hz)
    have HI1 := Shh.mk (ih hsl (pl ++ [capU x]) (by rw [List.length_append]; exact hdn) (by rw [List.length_append]; simp; omega))
    have HI2 := Shh.mk (ih hsl (pl ++ [x]) (by rw [List.length_append]; exact hdn) (by rw [List.length_append]; simp; omega))
    have HOT := Shh.mk (outW_cons pl F x l)
    have hl1 := outK_len pl F 0 (capU x) l
    have hp : 2 ^ (x :: l).length = 2 ^ l.length + 2 ^ l.length := by rw [List.length_cons, Nat.pow_succ]; omega
    have HYS1 := Shh.mk (show ys.length + 2 ^ l.length ≤ 100000 by omega)
    have HYS2 := Shh.mk (show (ys ++ outK pl F 0 (capU x) l).length + 2 ^ l.length ≤ 100000 by rw [List.length_append]; omega)
    have HK3 := hid hkk.2.2
    have HKL := Shh.mk hkk.2.1
    obtain ⟨K, hK⟩ : ∃ K, kindN x = K := ⟨_, rfl⟩
    rw [hK] at HK3 HKL HOT
    obtain ⟨C, hC⟩ : ∃ C, capU x = C := ⟨_, rfl⟩
    rw [hC] at HI1 HOT HYS2 hw2
    have hpl12 : pl.length ≤ 100 := by omega
    have b1 := (Below.refl w.heap.size w).alloc (Nat.le_refl _) (.cells #[v] 22)
    have HS1 := Shh.mk (hs.below b1)
    have HV1 := Shh.mk (show Held c B (w.alloc (.cells #[v] 22)) y v pl from ⟨OwnB.kept hv.own b1, hv.off⟩)
    have HX1 := Shh.mk (Blk.made w 22 #[v])
    have HX2 := Shh.mk (show ¬ c.has w.heap.size from fun h => by have := hs.lts _ h; omega)
    have HX3 := Shh.mk (show y.ownBlock ≠ some w.heap.size from fun h => by have := OwnS.blockJ2 hs.own _ h; omega)
    have HA1 := Shh.mk ((Go.Proofs.Ytilagppmljpclaa.Apart.refl (fun k => k = c.ways ∨ k = c.left ∨ y.ownBlock = some k) w).alloc (.cells #[v] 22))
    have HYB := Shh.mk (OwnS.blockJ2 hs.own)
    have HC := Shh.mk hc
    have HF := Shh.mk hF
    have hwc := (HS1.out.word.cells) 0
    obtain ⟨a, cap, rfl, h1, h2, -⟩ := own_form hv.own
    clear hs hv hc hF hys hp hl1 hC hK hkk hcap hcb hcs hsm ih hd hdn hsl b1
    go_enter Try.func61, Try.ntmps61
    go_wp2_with fail
    refine (inner_any HC.out HI1.out F 0 (by omega) _ y ys _ w.heap.size HS1.out HV1.out hpl12 HF.out HYS1.out HX1.out HX2.out HX3.out).mono ?_
    rintro e w2 ⟨rfl, y2, hp2⟩
    have HP2 := Shh.mk hp2
    have HV2 := Shh.mk (show Held c B w2 y2 (.slice a pl.length cap) pl from ⟨own_apart HV1.out.own hp2.apart (fun k hk => notS (HV1.out.off k hk).1 (HV1.out.off k hk).2), fun k hk => ⟨(HV1.out.off k hk).1, fun e => (hp2.near k e).elim (HV1.out.off k hk).2 (fun h => by have := (World.ownsRow.lt HV1.out.own k hk).2; omega)⟩⟩)
    have HX4 := Shh.mk (HX1.out.apart hp2.apart (notS HX2.out HX3.out))
    have HX5 := Shh.mk (show y2.ownBlock ≠ some w.heap.size from fun e => (hp2.near _ e).elim HX3.out (fun h => by simp at h; omega))
    have HA2 := Shh.mk (HA1.out.trans hp2.apart (fun _ _ h => h))
    have HY2 := Shh.mk (show ∀ k, y2.ownBlock = some k → y.ownBlock = some k ∨ w.heap.size ≤ k from fun k hk => (hp2.near k hk).imp id fun h => by simp at h; omega)
    clear hp2 hwc
    go_wp2_with (go_at_call 63; refine (kindOf_tile HK3.out _).mono ?_; rintro e w' ⟨rfl, rfl⟩)
    refine (inner_any HC.out HI2.out F K HKL.out _ y2 _ _ w.heap.size HP2.out.sit HV2.out hpl12 HF.out HYS2.out HX4.out HX2.out HX5.out).mono ?_
    rintro e w3 ⟨rfl, y3, hp3⟩
    have HP3 : Shh (Placed B c word w w3 y ys F (outW pl F (x :: l)) y3) :=
      ⟨⟨by rw [HOT.out, ← List.append_assoc]; exact hp3.sit, HA2.out.trans hp3.apart (fun i hi h => by
          rcases h with h | h | h
          · exact .inl h
          · exact .inr (.inl h)
          · exact .inr (.inr ((HY2.out i h).elim id (fun h2 => by omega)))), fun k hk => (hp3.near k hk).elim (fun h => HY2.out k h) (fun h => .inr (by have := HA2.out.size; omega))⟩⟩
    clear hp3
    go_wp2
    first | go_end0 | refine bodyPost_ret (results_none rfl _ _ _) rfl ?_
    first | exact ⟨rfl, y3, HP3.out⟩ | exact ⟨y3, HP3.out⟩
end Go.Proofs.Ytilagppmljpclaa

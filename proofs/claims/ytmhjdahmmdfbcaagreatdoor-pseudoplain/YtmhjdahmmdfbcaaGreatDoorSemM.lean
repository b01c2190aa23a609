/-
  The order of versions: a total preorder.
-/
import Derived.Test.YtmhjdahmmdfbcaaGreatDoorSemE
namespace Go.Proofs.YtmhjdahmmdfbcaaGreatDoor
theorem u8_lt (x y : UInt8) : x < y ↔ x.toNat < y.toNat := UInt8.lt_iff_toNat_lt
theorem cmp_cons (x y : UInt8) (a b : List UInt8) : Lib.compareBytes (x :: a) (y :: b) = if x.toNat < y.toNat then -1 else if y.toNat < x.toNat then 1 else Lib.compareBytes a b := by
  rw [Lib.compareBytes]; simp only [u8_lt]
theorem cmp_anti (a : List UInt8) : ∀ b, Lib.compareBytes a b = - Lib.compareBytes b a := by
  induction a with
  | nil => intro b; cases b <;> simp [Lib.compareBytes]
  | cons x a ih =>
    intro b
    cases b with
    | nil => simp [Lib.compareBytes]
    | cons y b =>
      rw [cmp_cons, cmp_cons, ih b]
      by_cases h1 : x.toNat < y.toNat
      · rw [if_pos h1, if_neg (by omega), if_pos h1]
      · by_cases h2 : y.toNat < x.toNat
        · rw [if_neg h1, if_pos h2, if_pos h2]; rfl
        · rw [if_neg h1, if_neg h2, if_neg h2, if_neg h1]
theorem cmp_zero (a : List UInt8) : ∀ b, Lib.compareBytes a b = 0 ↔ a = b := by
  induction a with
  | nil => intro b; cases b <;> simp [Lib.compareBytes]
  | cons x a ih =>
    intro b
    cases b with
    | nil => simp [Lib.compareBytes]
    | cons y b =>
      rw [cmp_cons]
      by_cases h1 : x.toNat < y.toNat
      · rw [if_pos h1]
        constructor
        · intro h; cases h
        · intro h; simp at h; rw [h.1] at h1; omega
      · by_cases h2 : y.toNat < x.toNat
        · rw [if_neg h1, if_pos h2]
          constructor
          · intro h; cases h
          · intro h; simp at h; rw [h.1] at h2; omega
        · rw [if_neg h1, if_neg h2, ih b]
          have : x = y := by rw [← UInt8.toNat_inj]; omega
          simp [this]
theorem cmp_le_trans (a : List UInt8) : ∀ b c, Lib.compareBytes a b ≤ 0 → Lib.compareBytes b c ≤ 0 → Lib.compareBytes a c ≤ 0 := by
  induction a with
  | nil => intro b c _ _; cases c <;> simp [Lib.compareBytes]
  | cons x a ih =>
    intro b c h1 h2
    cases b with
    | nil => simp [Lib.compareBytes] at h1
    | cons y b =>
      cases c with
      | nil => simp [Lib.compareBytes] at h2
      | cons z c =>
        rw [cmp_cons] at h1 h2 ⊢
        by_cases hxy : x.toNat < y.toNat
        · by_cases hyz : z.toNat < y.toNat
          · rw [if_neg (by omega), if_pos hyz] at h2; simp at h2
          · rw [if_pos (by omega)]; decide
        · rw [if_neg hxy] at h1
          by_cases hyx : y.toNat < x.toNat
          · rw [if_pos hyx] at h1; simp at h1
          · rw [if_neg hyx] at h1
            by_cases hyz : y.toNat < z.toNat
            · rw [if_pos (by omega)]; decide
            · rw [if_neg hyz] at h2
              by_cases hzy : z.toNat < y.toNat
              · rw [if_pos hzy] at h2; simp at h2
              · rw [if_neg hzy] at h2
                rw [if_neg (by omega), if_neg (by omega)]
                exact ih b c h1 h2
theorem cb_rng (a : List UInt8) : ∀ b, Lib.compareBytes a b = -1 ∨ Lib.compareBytes a b = 0 ∨ Lib.compareBytes a b = 1 := by
  induction a with
  | nil => intro b; cases b <;> simp [Lib.compareBytes]
  | cons x a ih =>
    intro b
    cases b with
    | nil => simp [Lib.compareBytes]
    | cons y b =>
      rw [cmp_cons]
      split
      · exact .inl rfl
      · split
        · exact .inr (.inr rfl)
        · exact ih b
/-- a total preorder, told by -1, 0, 1 -/
structure Ord3 {α : Type} (c : α → α → Int) : Prop where
  rng : ∀ a b, c a b = -1 ∨ c a b = 0 ∨ c a b = 1
  anti : ∀ a b, c b a = - c a b
  trans : ∀ a b d, c a b ≤ 0 → c b d ≤ 0 → c a d ≤ 0
theorem Ord3.same {α : Type} {c : α → α → Int} (h : Ord3 c) (a : α) : c a a = 0 := by have := h.anti a a; omega
theorem Ord3.pull {α β : Type} {c : α → α → Int} (h : Ord3 c) (f : β → α) : Ord3 fun a b => c (f a) (f b) := ⟨fun _ _ => h.rng _ _, fun _ _ => h.anti _ _, fun _ _ _ => h.trans _ _ _⟩
theorem Ord3.lex {α : Type} {c1 c2 : α → α → Int} (h1 : Ord3 c1) (h2 : Ord3 c2) : Ord3 fun a b => if c1 a b = 0 then c2 a b else c1 a b := by
  refine ⟨fun a b => ?_, fun a b => ?_, fun a b d => ?_⟩
  · have := h1.rng a b; have := h2.rng a b
    show (if c1 a b = 0 then c2 a b else c1 a b) = -1 ∨ _
    split <;> assumption
  · have := h1.anti a b; have := h2.anti a b
    show (if c1 b a = 0 then c2 b a else c1 b a) = - (if c1 a b = 0 then c2 a b else c1 a b)
    split <;> split <;> omega
  · show (if c1 a b = 0 then c2 a b else c1 a b) ≤ 0 → (if c1 b d = 0 then c2 b d else c1 b d) ≤ 0 → (if c1 a d = 0 then c2 a d else c1 a d) ≤ 0
    have t1 := h1.trans a b d; have t2 := h1.trans d a b; have t3 := h1.trans b d a
    have a1 := h1.anti a b; have a2 := h1.anti b d; have a3 := h1.anti a d
    have t4 := h2.trans a b d
    split <;> split <;> split <;> intro g1 g2 <;> omega
theorem ord_int : Ord3 cmpI := by
  refine ⟨fun a b => ?_, fun a b => ?_, fun a b d => ?_⟩ <;> unfold cmpI
  · split
    · exact .inl rfl
    · split
      · exact .inr (.inr rfl)
      · exact .inr (.inl rfl)
  · (repeat' split) <;> omega
  · (repeat' split) <;> intro g1 g2 <;> omega
theorem ord_bytes : Ord3 fun a b : ByteArray => Lib.compareBytes a.data.toList b.data.toList :=
  ⟨fun _ _ => cb_rng _ _, fun _ _ => cmp_anti _ _, fun _ _ _ => cmp_le_trans _ _ _⟩
theorem orL_two (x y : Int) : orL [x, y] = if x = 0 then y else x := by
  simp only [orL]
  split
  · split
    · omega
    · rfl
  · rfl
theorem ord_num : Ord3 numC := by
  have h := (ord_int.pull fun a : ByteArray => (a.size : Int)).lex ord_bytes
  have e : numC = fun a b : ByteArray => if cmpI (a.size : Int) (b.size : Int) = 0 then Lib.compareBytes a.data.toList b.data.toList else cmpI (a.size : Int) (b.size : Int) := by
    funext a b
    exact orL_two _ _
  rw [e]
  exact h
theorem ord_word : Ord3 wordCmp := by
  refine ⟨fun a b => ?_, fun a b => ?_, fun a b d => ?_⟩ <;> unfold wordCmp
  · have := ord_num.rng a b; have := ord_bytes.rng a b
    cases digL a.data.toList <;> cases digL b.data.toList <;> simp <;> assumption
  · have h1 := ord_num.anti a b; have h2 := ord_bytes.anti a b
    cases digL a.data.toList <;> cases digL b.data.toList <;> simp <;> assumption
  · have h1 := ord_num.trans a b d; have h2 := ord_bytes.trans a b d
    cases digL a.data.toList <;> cases digL b.data.toList <;> cases digL d.data.toList <;> simp <;> assumption
theorem lexC_rng (l : List ByteArray) : ∀ m, lexC l m = -1 ∨ lexC l m = 0 ∨ lexC l m = 1 := by
  induction l with
  | nil => intro m; cases m <;> simp [lexC]
  | cons a l ih =>
    intro m
    cases m with
    | nil => simp [lexC]
    | cons b m =>
      show (if wordCmp a b = 0 then lexC l m else wordCmp a b) = -1 ∨ (if wordCmp a b = 0 then lexC l m else wordCmp a b) = 0 ∨ (if wordCmp a b = 0 then lexC l m else wordCmp a b) = 1
      split
      · exact ih m
      · exact ord_word.rng a b
theorem lexC_anti (l : List ByteArray) : ∀ m, lexC m l = - lexC l m := by
  induction l with
  | nil => intro m; cases m <;> simp [lexC]
  | cons a l ih =>
    intro m
    cases m with
    | nil => simp [lexC]
    | cons b m =>
      show (if wordCmp b a = 0 then lexC m l else wordCmp b a) = - (if wordCmp a b = 0 then lexC l m else wordCmp a b)
      have h1 := ord_word.anti a b
      have h2 := ih m
      split <;> split <;> omega
theorem lexC_trans (l : List ByteArray) : ∀ m n, lexC l m ≤ 0 → lexC m n ≤ 0 → lexC l n ≤ 0 := by
  induction l with
  | nil => intro m n _ _; cases n <;> simp [lexC]
  | cons a l ih =>
    intro m n g1 g2
    cases m with
    | nil => simp [lexC] at g1
    | cons b m =>
      cases n with
      | nil => simp [lexC] at g2
      | cons d n =>
        revert g1 g2
        show (if wordCmp a b = 0 then lexC l m else wordCmp a b) ≤ 0 → (if wordCmp b d = 0 then lexC m n else wordCmp b d) ≤ 0 → (if wordCmp a d = 0 then lexC l n else wordCmp a d) ≤ 0
        have t1 := ord_word.trans a b d; have t2 := ord_word.trans d a b; have t3 := ord_word.trans b d a
        have a1 := ord_word.anti a b; have a2 := ord_word.anti b d; have a3 := ord_word.anti a d
        have t4 := ih m n
        split <;> split <;> split <;> intro g1 g2 <;> omega
theorem ord_lex : Ord3 lexC := ⟨lexC_rng, lexC_anti, lexC_trans⟩
theorem preC_eq (a b : ByteArray) : preC a b = if a.data.toList.isEmpty then (if b.data.toList.isEmpty then 0 else 1) else if b.data.toList.isEmpty then -1 else lexC (partsB a) (partsB b) := by
  unfold preC
  by_cases h : a = b
  · rw [if_pos h, h]
    split
    · rfl
    · rw [ord_lex.same]
  · rw [if_neg h]
    cases h1 : a.data.toList.isEmpty with
    | false => simp
    | true =>
      cases h2 : b.data.toList.isEmpty with
      | false => simp
      | true =>
        refine absurd (bytes_ext ?_) h
        rw [List.isEmpty_iff] at h1 h2
        rw [h1, h2]
theorem ord_pre : Ord3 preC := by
  refine ⟨fun a b => ?_, fun a b => ?_, fun a b d => ?_⟩
  · have := lexC_rng (partsB a) (partsB b)
    rw [preC_eq]
    cases a.data.toList.isEmpty <;> cases b.data.toList.isEmpty <;> simp <;> assumption
  · have := lexC_anti (partsB a) (partsB b)
    rw [preC_eq, preC_eq]
    cases a.data.toList.isEmpty <;> cases b.data.toList.isEmpty <;> simp <;> assumption
  · have := lexC_trans (partsB a) (partsB b) (partsB d)
    rw [preC_eq, preC_eq, preC_eq]
    cases a.data.toList.isEmpty <;> cases b.data.toList.isEmpty <;> cases d.data.toList.isEmpty <;> simp <;> assumption
end Go.Proofs.YtmhjdahmmdfbcaaGreatDoor

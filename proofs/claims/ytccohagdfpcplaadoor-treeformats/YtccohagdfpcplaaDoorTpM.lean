/-
  What Parse says, as a function; what was written is read back.
-/
import Derived.Test.YtccohagdfpcplaaDoorTpA
import Derived.Test.YtccohagdfpcplaaDoorTreI
namespace Go.Proofs.YtccohagdfpcplaaDoor
open Go.RowKit

theorem splitC_app {c : UInt8} {q : List UInt8} : ∀ {p : List UInt8}, c ∉ p → splitC c (p ++ c :: q) = some (p, q)
  | [], _ => by simp [splitC]
  | b :: p, h => by
    have h1 : b ≠ c := fun e => h (by simp [e])
    have h2 : c ∉ p := fun e => h (by simp [e])
    rw [List.cons_append]
    unfold splitC
    rw [if_neg h1, splitC_app h2]; rfl
theorem first_shape (l : List UInt8) : (∃ h r d nm m, splitC 0 l = some (h, r) ∧ 20 ≤ r.length ∧ splitC 32 h = some (d, nm) ∧ modeR d = some m ∧ firstR l = (0, (m, ⟨nm.toArray⟩, ⟨(hexL (r.take 20)).toArray⟩), r.drop 20)) ∨ (((firstR l).1 = 6 ∨ (firstR l).1 = 3) ∧ firstR l = ((firstR l).1, noE, [])) := by
  unfold firstR
  cases h1 : splitC 0 l with
  | none => exact Or.inr ⟨Or.inl rfl, rfl⟩
  | some x =>
    obtain ⟨h, r⟩ := x
    simp only
    by_cases hr : r.length < 20
    · rw [if_pos hr]; exact Or.inr ⟨Or.inl rfl, rfl⟩
    · rw [if_neg hr]
      cases h2 : splitC 32 h with
      | none => exact Or.inr ⟨Or.inr rfl, rfl⟩
      | some y =>
        obtain ⟨d, nm⟩ := y
        simp only
        cases hm : modeR d with
        | none => exact Or.inr ⟨Or.inr rfl, rfl⟩
        | some m => exact Or.inl ⟨h, r, d, nm, m, rfl, by omega, h2, hm, rfl⟩
theorem modeR_eq {d : List UInt8} {m : Int} (h : modeR d = some m) : m ∈ modesL ∧ octZ m = d := by
  unfold modeR at h
  exact ⟨List.mem_of_find?_eq_some h, by simpa using List.find?_some h⟩
theorem modeR_self {m : Int} (h : m ∈ modesL) : modeR (octZ m) = some m := by
  cases hm : modeR (octZ m) with
  | none =>
    have := modeR_of m
    rw [hm, decide_eq_true h] at this
    cases this
  | some x =>
    have := (modeR_eq hm).2
    rw [octZ_inj this]
theorem first_form {l : List UInt8} (h : (firstR l).1 = 0) : l = entL (firstR l).2.1 ++ (firstR l).2.2 := by
  rcases first_shape l with ⟨hd, r, d, nm, m, h1, h2, h3, h4, h5⟩ | ⟨h1 | h1, _⟩
  · rw [h5]
    obtain ⟨-, e1, -⟩ := split_some h1
    obtain ⟨-, e2, -⟩ := split_some h3
    have e3 := (modeR_eq h4).2
    unfold entL
    simp only [unhex_hex, e3]
    rw [e1, e2]
    simp
  · rw [h] at h1; cases h1
  · rw [h] at h1; cases h1
theorem first_less {l : List UInt8} (h : (firstR l).1 = 0) : (firstR l).2.2.length < l.length := by
  rcases first_shape l with ⟨hd, r, d, nm, m, h1, h2, h3, h4, h5⟩ | ⟨h1 | h1, _⟩
  · rw [h5]
    obtain ⟨-, e1, -⟩ := split_some h1
    have : l.length = hd.length + r.length + 1 := by rw [e1]; simp; omega
    show (r.drop 20).length < l.length
    rw [List.length_drop]
    omega
  · rw [h] at h1; cases h1
  · rw [h] at h1; cases h1
theorem dig_hexV {a : UInt8} (h : isDig a = true) : digN (hexV a) = a := by
  have key : ∀ n : Fin 256, isDig (UInt8.ofNat n.val) = true → digN (hexV (UInt8.ofNat n.val)) = UInt8.ofNat n.val := by decide +kernel
  have := key ⟨a.toNat, UInt8.toNat_lt a⟩
  simp only [UInt8.ofNat_toNat] at this
  exact this h
theorem hex_unhex : ∀ (n : Nat) (l : List UInt8), l.length = 2 * n → l.all isDig = true → hexL (unhexL l) = l
  | 0, l, h, _ => by
    have : l = [] := List.length_eq_zero_iff.1 (by omega)
    subst this; rfl
  | n + 1, [], h, _ => by simp at h
  | n + 1, [_], h, _ => by simp at h; omega
  | n + 1, a :: b :: l, h, hd => by
    simp only [List.all_cons, Bool.and_eq_true] at hd
    rw [unhexL_cons]
    have ha := hexV_lt a
    have hb := hexV_lt b
    have e : (UInt8.ofNat (hexV a * 16 + hexV b)).toNat = hexV a * 16 + hexV b := by rw [UInt8.toNat_ofNat']; omega
    show hex2 (UInt8.ofNat (hexV a * 16 + hexV b)) ++ hexL (unhexL l) = _
    rw [hex_unhex n l (by simp at h; omega) hd.2.2]
    unfold hex2
    rw [e, show (hexV a * 16 + hexV b) / 16 = hexV a by omega, show (hexV a * 16 + hexV b) % 16 = hexV b by omega, dig_hexV hd.1, dig_hexV hd.2.1]
    rfl
theorem right_parts {e : EntB} (h : rightB e.1 e.2.1.data.toList e.2.2.data.toList = true) : e.1 ∈ modesL ∧ nameB e.2.1.data.toList = true ∧ e.2.2.data.toList.length = 40 ∧ e.2.2.data.toList.all isDig = true := by
  unfold rightB at h
  simp only [Bool.and_eq_true, decide_eq_true_eq] at h
  have h2 := h.2
  unfold idB at h2
  simp only [Bool.and_eq_true, decide_eq_true_eq] at h2
  exact ⟨h.1.1, h.1.2, h2.2, h2.1⟩
theorem octZ_dig {m : Int} (h : m ∈ modesL) : ∀ c ∈ octZ m, 48 ≤ c.toNat ∧ c.toNat ≤ 55 := by
  have h0 : ¬ m < 0 := by
    simp only [modesL, List.mem_cons, List.not_mem_nil, or_false] at h
    omega
  unfold octZ
  rw [if_neg h0]
  exact octN_dig _
theorem first_ent {e : EntB} (h : rightB e.1 e.2.1.data.toList e.2.2.data.toList = true) (r : List UInt8) : firstR (entL e ++ r) = (0, e, r) := by
  obtain ⟨hm, hn, hl, hd⟩ := right_parts h
  have hnz : (0 : UInt8) ∉ e.2.1.data.toList := by
    unfold nameB at hn
    exact (of_decide_eq_true hn).2.2.2.1
  have hoz : (0 : UInt8) ∉ octZ e.1 := fun hc => by have := (octZ_dig hm 0 hc).1; simp at this
  have hob : (32 : UInt8) ∉ octZ e.1 := fun hc => by have := (octZ_dig hm 32 hc).1; simp at this
  have e1 : entL e ++ r = (octZ e.1 ++ 32 :: e.2.1.data.toList) ++ 0 :: (unhexL e.2.2.data.toList ++ r) := by
    unfold entL; simp
  have h1 : splitC 0 (entL e ++ r) = some (octZ e.1 ++ 32 :: e.2.1.data.toList, unhexL e.2.2.data.toList ++ r) := by
    rw [e1]
    refine splitC_app ?_
    intro hc
    rcases List.mem_append.1 hc with hc | hc
    · exact hoz hc
    · rcases List.mem_cons.1 hc with hc | hc
      · cases hc
      · exact hnz hc
  have hul : (unhexL e.2.2.data.toList).length = 20 := by rw [unhexL_len, hl]
  have h3 : splitC 32 (octZ e.1 ++ 32 :: e.2.1.data.toList) = some (octZ e.1, e.2.1.data.toList) := splitC_app hob
  unfold firstR
  rw [h1]
  simp only
  rw [if_neg (by rw [List.length_append]; omega), h3]
  simp only
  rw [modeR_self hm]
  simp only
  rw [List.take_append_of_le_length (by omega), List.take_of_length_le (by omega), hex_unhex 20 _ hl hd, List.drop_append_of_le_length (by omega), List.drop_of_length_le (by omega), List.nil_append]
/-- what Parse says of what is left and of what was read -/
def parseF (l : List UInt8) (acc : List EntB) : Int × List EntB :=
  if l = [] then (checkV acc, if checkV acc = 0 then acc else [])
  else if _h : (firstR l).1 = 0 then
    if acc.length = 500 then (2, []) else parseF (firstR l).2.2 (acc ++ [(firstR l).2.1])
  else ((firstR l).1, [])
termination_by l.length
decreasing_by exact first_less _h
theorem parse_nil (acc : List EntB) : parseF [] acc = (checkV acc, if checkV acc = 0 then acc else []) := by
  rw [parseF, if_pos rfl]
theorem parse_bad {l : List UInt8} {acc : List EntB} (hl : l ≠ []) (h : (firstR l).1 ≠ 0) : parseF l acc = ((firstR l).1, []) := by
  rw [parseF, if_neg hl, dif_neg h]
theorem parse_full {l : List UInt8} {acc : List EntB} (hl : l ≠ []) (h : (firstR l).1 = 0) (h5 : acc.length = 500) : parseF l acc = (2, []) := by
  rw [parseF, if_neg hl, dif_pos h, if_pos h5]
theorem parse_more {l : List UInt8} {acc : List EntB} (hl : l ≠ []) (h : (firstR l).1 = 0) (h5 : acc.length ≠ 500) : parseF l acc = parseF (firstR l).2.2 (acc ++ [(firstR l).2.1]) := by
  rw [parseF, if_neg hl, dif_pos h, if_neg h5]
theorem form_app (a b : List EntB) : formL (a ++ b) = formL a ++ formL b := by unfold formL; rw [List.flatMap_append]
theorem parse_form : ∀ (n : Nat) (l : List UInt8) (acc : List EntB), l.length ≤ n → (parseF l acc).1 = 0 → formL (parseF l acc).2 = formL acc ++ l ∧ checkV (parseF l acc).2 = 0 := by
  intro n
  induction n with
  | zero =>
    intro l acc hl h
    have : l = [] := List.length_eq_zero_iff.1 (by omega)
    subst this
    rw [parse_nil] at h ⊢
    simp only at h
    simp only [h, if_true, List.append_nil, and_self]
  | succ n ih =>
    intro l acc hl h
    by_cases h0 : l = []
    · subst h0
      rw [parse_nil] at h ⊢
      simp only at h
      simp only [h, if_true, List.append_nil, and_self]
    · by_cases h1 : (firstR l).1 = 0
      · by_cases h5 : acc.length = 500
        · rw [parse_full h0 h1 h5] at h; cases h
        · rw [parse_more h0 h1 h5] at h ⊢
          have hlt := first_less h1
          obtain ⟨e1, e2⟩ := ih _ _ (by omega) h
          refine ⟨?_, e2⟩
          rw [e1, form_app, List.append_assoc]
          congr 1
          have := first_form h1
          rw [show formL [(firstR l).2.1] = entL (firstR l).2.1 by simp [formL]]
          exact this.symm
      · rw [parse_bad h0 h1] at h; exact absurd h h1
theorem ent_ne {e : EntB} {r : List UInt8} : entL e ++ r ≠ [] := by unfold entL; simp
theorem parse_back : ∀ (es acc : List EntB), (∀ e ∈ es, rightB e.1 e.2.1.data.toList e.2.2.data.toList = true) → acc.length ≤ 500 →
    parseF (formL es) acc = if 500 < acc.length + es.length then (2, []) else (checkV (acc ++ es), if checkV (acc ++ es) = 0 then acc ++ es else []) := by
  intro es
  induction es with
  | nil =>
    intro acc _ ha
    rw [if_neg (by simp; omega)]
    show parseF [] acc = _
    rw [parse_nil, List.append_nil]
  | cons e es ih =>
    intro acc hr ha
    have hf := first_ent (hr e (by simp)) (formL es)
    have hc : formL (e :: es) = entL e ++ formL es := by simp [formL]
    rw [hc]
    have h1 : (firstR (entL e ++ formL es)).1 = 0 := by rw [hf]
    by_cases h5 : acc.length = 500
    · rw [parse_full ent_ne h1 h5, if_pos (by simp; omega)]
    · rw [parse_more ent_ne h1 h5, hf]
      simp only
      rw [ih _ (fun x hx => hr x (by simp [hx])) (by simp; omega)]
      simp only [List.length_append, List.length_cons, List.length_nil, List.append_assoc, List.singleton_append]
      rw [show acc.length + (0 + 1) + es.length = acc.length + (es.length + 1) by omega]
theorem parse_cases (l : List UInt8) : ∀ (n : Nat), l.length ≤ n → ∀ acc, (parseF l acc).1 ≠ 0 → (parseF l acc).2 = [] := by
  intro n
  induction n generalizing l with
  | zero =>
    intro hl acc h
    have : l = [] := List.length_eq_zero_iff.1 (by omega)
    subst this
    rw [parse_nil] at h ⊢
    simp only at h
    simp only [h, if_false]
  | succ n ih =>
    intro hl acc h
    by_cases h0 : l = []
    · subst h0
      rw [parse_nil] at h ⊢
      simp only at h
      simp only [h, if_false]
    · by_cases h1 : (firstR l).1 = 0
      · by_cases h5 : acc.length = 500
        · rw [parse_full h0 h1 h5]
        · rw [parse_more h0 h1 h5] at h ⊢
          have hlt := first_less h1
          exact ih _ (by omega) _ h
      · rw [parse_bad h0 h1]
/-- entries that first makes keep to the bounds -/
theorem first_ok {l : List UInt8} (hl : l.length ≤ 140737488355328) : OkE (firstR l).2.1 := by
  rcases first_shape l with ⟨hd, r, d, nm, m, h1, h2, h3, h4, h5⟩ | ⟨_, h5⟩
  · rw [h5]
    have hm := (modeR_eq h4).1
    obtain ⟨-, e1, -⟩ := split_some h1
    obtain ⟨-, e2, -⟩ := split_some h3
    have hln : nm.length ≤ l.length := by rw [e1, e2]; simp; omega
    have hx : (hexL (r.take 20)).length ≤ 40 := by rw [hexL_len, List.length_take]; omega
    refine ⟨?_, ?_, ?_, ?_⟩
    · simp only [modesL, List.mem_cons, List.not_mem_nil, or_false] at hm; show -9223372036854775808 ≤ m; omega
    · simp only [modesL, List.mem_cons, List.not_mem_nil, or_false] at hm; show m ≤ 9223372036854775807; omega
    · show nm.toArray.size ≤ _; rw [List.size_toArray]; omega
    · show (hexL (r.take 20)).toArray.size ≤ _; rw [List.size_toArray]; omega
  · rw [h5]
    show OkE noE
    refine ⟨by decide, by decide, by decide, by decide⟩
end Go.Proofs.YtccohagdfpcplaaDoor

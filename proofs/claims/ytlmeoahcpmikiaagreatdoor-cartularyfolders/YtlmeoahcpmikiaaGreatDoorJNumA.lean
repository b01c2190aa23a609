/-
  Taken over from another program: ShelfB.
  Decimals: the number of a text of digits, and back.
  Taken over from another program: NumA.
-/
import Derived.Shelf.Strings.Search3
import Derived.Shelf.Strings.Count
import Derived.Shelf.Small.Strs
import Derived.Shelf.Strings.Prefix
import Derived.Shelf.Strings.SplitCore
import Derived.Test.YtlmeoahcpmikiaaGreatDoorProg
import Derived.Lib.ItoaNum
import Derived.Test.YtlmeoahcpmikiaaGreatDoorChecked
import Derived.WalkKit
import Derived.WalkSpells
import Derived.WalkLawsBesides
import Derived.Laws.IdiomStrings
namespace Go.Proofs.YtlmeoahcpmikiaaGreatDoor
open Go.Shelf
def Tryz.lays143_ren : Go.Shelf.Ren := ⟨fun | 143 => 155 | 219 => 208 | 217 => 154 | 225 => 243 | 224 => 244 | 267 => 245 | 266 => 209 | 314 => 274 | n => n, fun | 9 => 9 | 3 => 3 | 4 => 4 | 5 => 5 | 46 => 132 | 146 => 262 | 51 => 148 | n => n, fun | 1 => 1 | n => n⟩
theorem Tryz.lays143 : Go.Proofs.Lays.n143 Tryz.prog Tryz.lays143_ren := {
  mixed := by kernel_rfl
  f143 := Tryz.func155.trans (congrArg some (by kernel_rfl))
  f217 := Tryz.func154.trans (congrArg some (by kernel_rfl))
  f219 := Tryz.func208.trans (congrArg some (by kernel_rfl))
  f224 := Tryz.func244.trans (congrArg some (by kernel_rfl))
  f225 := Tryz.func243.trans (congrArg some (by kernel_rfl))
  f266 := Tryz.func209.trans (congrArg some (by kernel_rfl))
  f267 := Tryz.func245.trans (congrArg some (by kernel_rfl))
  f314 := Tryz.func274.trans (congrArg some (by kernel_rfl))
  t3 := Tryz.underlying3
  a3 := Tryz.isAgg3
  z3 := Tryz.sizeOf3
  v3 := Tryz.zeroValue3
  t4 := Tryz.underlying4
  a4 := Tryz.isAgg4
  z4 := Tryz.sizeOf4
  v4 := Tryz.zeroValue4
  t5 := Tryz.underlying5
  a5 := Tryz.isAgg5
  z5 := Tryz.sizeOf5
  v5 := Tryz.zeroValue5
  t9 := Tryz.underlying9
  a9 := Tryz.isAgg9
  z9 := Tryz.sizeOf9
  v9 := Tryz.zeroValue9
  t46 := Tryz.underlying132
  a46 := Tryz.isAgg132
  z46 := Tryz.sizeOf132
  v46 := Tryz.zeroValue132
  t51 := Tryz.underlying148
  a51 := Tryz.isAgg148
  z51 := Tryz.sizeOf148
  v51 := Tryz.zeroValue148
  t146 := Tryz.underlying262
  a146 := Tryz.isAgg262
  z146 := Tryz.sizeOf262
  v146 := Tryz.zeroValue262
  g1 := by kernel_rfl }
open Go.RowKit Go.Lib in
theorem Tryz.strings_Index_one (s : ByteArray) (c : UInt8) (w : World) :
    Calls Tryz.prog 155 #[.string s, .string ⟨#[c]⟩] w fun e w' => e = .returned (.int .i64 (Lib.indexByte s.data.toList c)) ∧ w' = w := Any.strings_Index_one Tryz.lays143 s c w
def Tryz.lays138_ren : Go.Shelf.Ren := ⟨fun | 138 => 211 | 195 => 246 | 218 => 247 | 143 => 155 | 219 => 208 | 217 => 154 | 225 => 243 | 224 => 244 | 267 => 245 | 266 => 209 | 314 => 274 | n => n, fun | 9 => 9 | 3 => 3 | 4 => 4 | 5 => 5 | 0 => 0 | 46 => 132 | 146 => 262 | 51 => 148 | n => n, fun | 1 => 1 | n => n⟩
theorem Tryz.lays138 : Go.Proofs.Lays.n138 Tryz.prog Tryz.lays138_ren := {
  mixed := by kernel_rfl
  f138 := Tryz.func211.trans (congrArg some (by kernel_rfl))
  f143 := Tryz.func155.trans (congrArg some (by kernel_rfl))
  f195 := Tryz.func246.trans (congrArg some (by kernel_rfl))
  f217 := Tryz.func154.trans (congrArg some (by kernel_rfl))
  f218 := Tryz.func247.trans (congrArg some (by kernel_rfl))
  f219 := Tryz.func208.trans (congrArg some (by kernel_rfl))
  f224 := Tryz.func244.trans (congrArg some (by kernel_rfl))
  f225 := Tryz.func243.trans (congrArg some (by kernel_rfl))
  f266 := Tryz.func209.trans (congrArg some (by kernel_rfl))
  f267 := Tryz.func245.trans (congrArg some (by kernel_rfl))
  f314 := Tryz.func274.trans (congrArg some (by kernel_rfl))
  t0 := Tryz.underlying0
  a0 := Tryz.isAgg0
  z0 := Tryz.sizeOf0
  v0 := Tryz.zeroValue0
  t3 := Tryz.underlying3
  a3 := Tryz.isAgg3
  z3 := Tryz.sizeOf3
  v3 := Tryz.zeroValue3
  t4 := Tryz.underlying4
  a4 := Tryz.isAgg4
  z4 := Tryz.sizeOf4
  v4 := Tryz.zeroValue4
  t5 := Tryz.underlying5
  a5 := Tryz.isAgg5
  z5 := Tryz.sizeOf5
  v5 := Tryz.zeroValue5
  t9 := Tryz.underlying9
  a9 := Tryz.isAgg9
  z9 := Tryz.sizeOf9
  v9 := Tryz.zeroValue9
  t46 := Tryz.underlying132
  a46 := Tryz.isAgg132
  z46 := Tryz.sizeOf132
  v46 := Tryz.zeroValue132
  t51 := Tryz.underlying148
  a51 := Tryz.isAgg148
  z51 := Tryz.sizeOf148
  v51 := Tryz.zeroValue148
  t146 := Tryz.underlying262
  a146 := Tryz.isAgg262
  z146 := Tryz.sizeOf262
  v146 := Tryz.zeroValue262
  g1 := by kernel_rfl }
open Go.RowKit Go.Lib in
theorem Tryz.strings_Count_one (s : ByteArray) (c : UInt8) (w : World) :
    Calls Tryz.prog 211 #[.string s, .string ⟨#[c]⟩] w fun e w' => e = .returned (.int .i64 (Lib.countByte s.data.toList c)) ∧ w' = w := Any.strings_Count_one Tryz.lays138 s c w
def Tryz.lays106_ren : Go.Shelf.Ren := ⟨fun | 106 => 42 | 213 => 87 | 265 => 136 | n => n, fun | 9 => 9 | 3 => 3 | n => n, fun | n => n⟩
theorem Tryz.lays106 : Go.Proofs.Lays.n106 Tryz.prog Tryz.lays106_ren := {
  mixed := by kernel_rfl
  f106 := Tryz.func42.trans (congrArg some (by kernel_rfl))
  f213 := Tryz.func87.trans (congrArg some (by kernel_rfl))
  f265 := Tryz.func136.trans (congrArg some (by kernel_rfl))
  t3 := Tryz.underlying3
  a3 := Tryz.isAgg3
  z3 := Tryz.sizeOf3
  v3 := Tryz.zeroValue3
  t9 := Tryz.underlying9
  a9 := Tryz.isAgg9
  z9 := Tryz.sizeOf9
  v9 := Tryz.zeroValue9 }
open Go.RowKit in
theorem Tryz.strings_Compare (a b : ByteArray) (w : World) :
    Calls Tryz.prog 42 #[.string a, .string b] w fun e w' => e = .returned (.int .i64 (Lib.compareBytes a.data.toList b.data.toList)) ∧ w' = w := Any.strings_Compare Tryz.lays106 a b w
def Tryz.lays99_ren : Go.Shelf.Ren := ⟨fun | 99 => 56 | 206 => 104 | n => n, fun | 9 => 9 | 4 => 4 | 3 => 3 | n => n, fun | n => n⟩
theorem Tryz.lays99 : Go.Proofs.Lays.n99 Tryz.prog Tryz.lays99_ren := {
  mixed := by kernel_rfl
  f99 := Tryz.func56.trans (congrArg some (by kernel_rfl))
  f206 := Tryz.func104.trans (congrArg some (by kernel_rfl))
  t3 := Tryz.underlying3
  a3 := Tryz.isAgg3
  z3 := Tryz.sizeOf3
  v3 := Tryz.zeroValue3
  t4 := Tryz.underlying4
  a4 := Tryz.isAgg4
  z4 := Tryz.sizeOf4
  v4 := Tryz.zeroValue4
  t9 := Tryz.underlying9
  a9 := Tryz.isAgg9
  z9 := Tryz.sizeOf9
  v9 := Tryz.zeroValue9 }
open Go.RowKit Go.Lib in
theorem Tryz.strings_HasPrefix (s p : ByteArray) (w : World) :
    Calls Tryz.prog 56 #[.string s, .string p] w fun e w' => e = .returned (.bool (Lib.hasPrefix s.data.toList p.data.toList)) ∧ w' = w := Any.strings_HasPrefix Tryz.lays99 s p w
def Tryz.lays221_ren : Go.Shelf.Ren := ⟨fun | 221 => 156 | 268 => 210 | 138 => 211 | 143 => 155 | 195 => 246 | 197 => 214 | 218 => 247 | 219 => 208 | 260 => 252 | 217 => 154 | 225 => 243 | 224 => 244 | 267 => 245 | 266 => 209 | 314 => 274 | n => n, fun | 9 => 9 | 3 => 3 | 31 => 51 | 4 => 4 | 0 => 0 | 105 => 282 | 21 => 21 | 5 => 5 | 46 => 132 | 119 => 351 | 139 => 354 | 138 => 353 | 146 => 262 | 51 => 148 | n => n, fun | 1 => 1 | 3 => 7 | 4 => 8 | n => n⟩
theorem Tryz.lays221 : Go.Proofs.Lays.n221 Tryz.prog Tryz.lays221_ren := {
  mixed := by kernel_rfl
  f138 := Tryz.func211.trans (congrArg some (by kernel_rfl))
  f143 := Tryz.func155.trans (congrArg some (by kernel_rfl))
  f195 := Tryz.func246.trans (congrArg some (by kernel_rfl))
  f197 := Tryz.func214.trans (congrArg some (by kernel_rfl))
  f217 := Tryz.func154.trans (congrArg some (by kernel_rfl))
  f218 := Tryz.func247.trans (congrArg some (by kernel_rfl))
  f219 := Tryz.func208.trans (congrArg some (by kernel_rfl))
  f221 := Tryz.func156.trans (congrArg some (by kernel_rfl))
  f224 := Tryz.func244.trans (congrArg some (by kernel_rfl))
  f225 := Tryz.func243.trans (congrArg some (by kernel_rfl))
  f260 := Tryz.func252.trans (congrArg some (by kernel_rfl))
  f266 := Tryz.func209.trans (congrArg some (by kernel_rfl))
  f267 := Tryz.func245.trans (congrArg some (by kernel_rfl))
  f268 := Tryz.func210.trans (congrArg some (by kernel_rfl))
  f314 := Tryz.func274.trans (congrArg some (by kernel_rfl))
  t0 := Tryz.underlying0
  a0 := Tryz.isAgg0
  z0 := Tryz.sizeOf0
  v0 := Tryz.zeroValue0
  t3 := Tryz.underlying3
  a3 := Tryz.isAgg3
  z3 := Tryz.sizeOf3
  v3 := Tryz.zeroValue3
  t4 := Tryz.underlying4
  a4 := Tryz.isAgg4
  z4 := Tryz.sizeOf4
  v4 := Tryz.zeroValue4
  t5 := Tryz.underlying5
  a5 := Tryz.isAgg5
  z5 := Tryz.sizeOf5
  v5 := Tryz.zeroValue5
  t9 := Tryz.underlying9
  a9 := Tryz.isAgg9
  z9 := Tryz.sizeOf9
  v9 := Tryz.zeroValue9
  t21 := Tryz.underlying21
  a21 := Tryz.isAgg21
  z21 := Tryz.sizeOf21
  v21 := Tryz.zeroValue21
  t31 := Tryz.underlying51
  a31 := Tryz.isAgg51
  z31 := Tryz.sizeOf51
  v31 := Tryz.zeroValue51
  t46 := Tryz.underlying132
  a46 := Tryz.isAgg132
  z46 := Tryz.sizeOf132
  v46 := Tryz.zeroValue132
  t51 := Tryz.underlying148
  a51 := Tryz.isAgg148
  z51 := Tryz.sizeOf148
  v51 := Tryz.zeroValue148
  t105 := Tryz.underlying282
  a105 := Tryz.isAgg282
  z105 := Tryz.sizeOf282
  v105 := Tryz.zeroValue282
  t119 := Tryz.underlying351
  a119 := Tryz.isAgg351
  z119 := Tryz.sizeOf351
  t138 := Tryz.underlying353
  a138 := Tryz.isAgg353
  z138 := Tryz.sizeOf353
  v138 := Tryz.zeroValue353
  t139 := Tryz.underlying354
  a139 := Tryz.isAgg354
  z139 := Tryz.sizeOf354
  v139 := Tryz.zeroValue354
  t146 := Tryz.underlying262
  a146 := Tryz.isAgg262
  z146 := Tryz.sizeOf262
  v146 := Tryz.zeroValue262
  g1 := by kernel_rfl
  g3 := by kernel_rfl
  g4 := by kernel_rfl }
end Go.Proofs.YtlmeoahcpmikiaaGreatDoor
namespace Go.Proofs.YtlmeoahcpmikiaaGreatDoor
theorem snocInd {α : Type} {motive : List α → Prop} (nil : motive []) (append_singleton : ∀ l a, motive l → motive (l ++ [a])) : ∀ l, motive l := by
  intro l
  have : ∀ k : List α, motive k.reverse := by
    intro k
    induction k with
    | nil => exact nil
    | cons a k ih => rw [List.reverse_cons]; exact append_singleton _ _ ih
  have h := this l.reverse
  rwa [List.reverse_reverse] at h
def isDig (c : UInt8) : Prop := 48 ≤ c.toNat ∧ c.toNat ≤ 57
instance (c : UInt8) : Decidable (isDig c) := by unfold isDig; infer_instance
def stepN (n : Nat) (c : UInt8) : Nat := 10 * n + (c.toNat - 48)
def valL (l : List UInt8) : Nat := l.foldl stepN 0
theorem valL_snoc (l : List UInt8) (c : UInt8) : valL (l ++ [c]) = 10 * valL l + (c.toNat - 48) := by simp [valL, List.foldl_append, stepN]
theorem dig_byte (d : Nat) (h : d < 10) : (UInt8.ofNat (48 + d)).toNat = 48 + d := by
  rw [UInt8.toNat_ofNat']; omega
theorem dd_small {u : Nat} (h : u < 10) : Lib.decDigits u = [UInt8.ofNat (48 + u)] := Lib.decDigits_one h
theorem dd_big {u : Nat} (h : 10 ≤ u) : Lib.decDigits u = Lib.decDigits (u / 10) ++ [UInt8.ofNat (48 + u % 10)] := by
  rw [Lib.decDigits, dif_neg (by omega)]
theorem dd_val (u : Nat) : valL (Lib.decDigits u) = u := by
  induction u using Nat.strongRecOn with
  | ind u ih =>
    by_cases h : u < 10
    · rw [dd_small h]
      show 10 * 0 + ((UInt8.ofNat (48 + u)).toNat - 48) = u
      rw [dig_byte u h]; omega
    · rw [dd_big (by omega), valL_snoc, ih (u / 10) (by omega), dig_byte (u % 10) (Nat.mod_lt _ (by decide))]; omega
theorem dd_digs (u : Nat) : ∀ c ∈ Lib.decDigits u, isDig c := by
  induction u using Nat.strongRecOn with
  | ind u ih =>
    by_cases h : u < 10
    · rw [dd_small h]
      intro c hc
      rw [List.mem_singleton] at hc
      subst hc
      unfold isDig; rw [dig_byte u h]; omega
    · rw [dd_big (by omega)]
      intro c hc
      rcases List.mem_append.1 hc with hc | hc
      · exact ih _ (by omega) c hc
      · rw [List.mem_singleton] at hc
        subst hc
        have := Nat.mod_lt u (show 0 < 10 by decide)
        unfold isDig; rw [dig_byte _ this]; omega
theorem dd_ne (u : Nat) : Lib.decDigits u ≠ [] := by
  intro h
  have := Lib.decDigits_length u
  have h1 := Lib.nDigits_pos u
  rw [h] at this; simp at this; omega
/-- no nought ahead of a number from 1 on -/
theorem dd_head (u : Nat) (h : 1 ≤ u) : ∃ c r, Lib.decDigits u = c :: r ∧ c ≠ 48 := by
  induction u using Nat.strongRecOn with
  | ind u ih =>
    by_cases h1 : u < 10
    · refine ⟨_, [], dd_small h1, fun hc => ?_⟩
      have := congrArg UInt8.toNat hc
      rw [dig_byte u h1] at this
      simp at this; omega
    · obtain ⟨c, r, he, hc⟩ := ih (u / 10) (by omega) (by omega)
      exact ⟨c, r ++ [_], by rw [dd_big (by omega), he]; rfl, hc⟩
theorem dd_len9 (u : Nat) : (Lib.decDigits u).length ≤ 9 ↔ u ≤ 999999999 := by
  rw [Lib.decDigits_length]
  constructor
  · intro h
    have h1 := Lib.lt_pow_nDigits u
    have h2 : 10 ^ Lib.nDigits u ≤ 10 ^ 9 := Nat.pow_le_pow_right (by decide) h
    have : (10 : Nat) ^ 9 = 1000000000 := by decide
    omega
  · intro h
    refine Classical.byContradiction fun hn => ?_
    have h1 : ∀ v, v < 1000000000 → Lib.nDigits v ≤ 9 := by
      intro v hv
      have key : ∀ k u, u < 10 ^ k → 1 ≤ k → Lib.nDigits u ≤ k := by
        intro k
        induction k with
        | zero => intro u _ h; omega
        | succ k ih =>
          intro u hu _
          by_cases h : u < 10
          · rw [Lib.nDigits_small h]; omega
          · rw [Lib.nDigits_big h]
            have h10 : u / 10 < 10 ^ k := by
              rw [Nat.pow_succ] at hu; omega
            have hk : 1 ≤ k := by
              rcases Nat.eq_zero_or_pos k with rfl | h0
              · simp at hu; omega
              · exact h0
            have := ih (u / 10) h10 hk
            omega
      exact key 9 v (by have : (10 : Nat) ^ 9 = 1000000000 := by decide
                        omega) (by decide)
    exact hn (h1 u (by omega))
/-- a text that is a decimal -/
structure NumOk (l : List UInt8) : Prop where
  ne : l ≠ []
  len : l.length ≤ 9
  head : ∀ r, l = 48 :: r → r = []
  digs : ∀ c ∈ l, isDig c
theorem num_lt (l : List UInt8) (h : ∀ c ∈ l, isDig c) : valL l < 10 ^ l.length := by
  induction l using snocInd with
  | nil => decide
  | append_singleton l d ih =>
    have h1 := ih fun c hc => h c (by simp [hc])
    have h2 := h d (by simp)
    rw [valL_snoc, List.length_append, List.length_singleton, Nat.pow_succ]
    unfold isDig at h2; omega
theorem num_le (l : List UInt8) (h : NumOk l) : valL l ≤ 999999999 := by
  have h1 := num_lt l h.digs
  have h2 : 10 ^ l.length ≤ 10 ^ 9 := Nat.pow_le_pow_right (by decide) h.len
  have : (10 : Nat) ^ 9 = 1000000000 := by decide
  omega
theorem dd_ok (u : Nat) (h : u ≤ 999999999) : NumOk (Lib.decDigits u) := by
  refine ⟨dd_ne u, (dd_len9 u).2 h, fun r hr => ?_, dd_digs u⟩
  by_cases h0 : u = 0
  · subst h0
    rw [dd_small (by decide)] at hr
    simp at hr; exact hr
  · obtain ⟨c, q, he, hc⟩ := dd_head u (by omega)
    rw [he] at hr
    simp at hr; exact absurd hr.1 hc
theorem itoa_ok (n : Int) : NumOk (Lib.itoa n) ↔ 0 ≤ n ∧ n ≤ 999999999 := by
  unfold Lib.itoa
  by_cases h : n < 0
  · rw [if_pos h]
    constructor
    · intro hk
      exact absurd (hk.digs 45 (by simp)) (by decide)
    · intro; omega
  · rw [if_neg h]
    constructor
    · intro hk
      have := (dd_len9 n.toNat).1 hk.len
      omega
    · intro hk
      exact dd_ok _ (by omega)
theorem itoa_val (n : Int) (h : 0 ≤ n) : valL (Lib.itoa n) = n.toNat := by
  unfold Lib.itoa
  rw [if_neg (by omega), dd_val]
end Go.Proofs.YtlmeoahcpmikiaaGreatDoor
namespace Go.Proofs.YtlmeoahcpmikiaaGreatDoor
open Go.RowKit
open Classical in
noncomputable def numT (l : List UInt8) : Bool := decide (NumOk l)
open Classical in
noncomputable def numV (l : List UInt8) : Nat := if NumOk l then valL l else 0
theorem numT_yes {l : List UInt8} (h : NumOk l) : numT l = true := by unfold numT; simp [h]
theorem numT_no {l : List UInt8} (h : ¬ NumOk l) : numT l = false := by unfold numT; simp [h]
theorem numV_yes {l : List UInt8} (h : NumOk l) : numV l = valL l := by unfold numV; rw [if_pos h]
theorem numV_no {l : List UInt8} (h : ¬ NumOk l) : numV l = 0 := by unfold numV; rw [if_neg h]
theorem sl_len (s : ByteArray) : s.data.toList.length = s.size := by simp
theorem take_one (s : ByteArray) (k : Nat) (h : k < s.size) : s.data.toList.take (k + 1) = s.data.toList.take k ++ [s[k]] := by
  rw [List.take_succ_eq_append_getElem (by simpa using h)]; rfl
theorem s_head (s : ByteArray) (h : 0 < s.size) : ∃ r, s.data.toList = s[0] :: r := by
  cases hl : s.data.toList with
  | nil => have := sl_len s; rw [hl] at this; simp at this; omega
  | cons a r =>
    refine ⟨r, ?_⟩
    have : s[0] = s.data.toList[0]'(by rw [sl_len]; omega) := rfl
    rw [this]; simp [hl]
theorem num_loop_yes (s : ByteArray) (h1 : 1 ≤ s.size) (h9 : s.size ≤ 9) (h0 : s[0] = 48 → s.size = 1) (hd : ∀ c ∈ s.data.toList, isDig c) : NumOk s.data.toList := by
  obtain ⟨r, hr⟩ := s_head s (by omega)
  refine ⟨by rw [hr]; simp, by rw [sl_len]; omega, fun q hq => ?_, hd⟩
  rw [hr] at hq
  simp only [List.cons.injEq] at hq
  have h2 := h0 hq.1
  have h3 := sl_len s
  rw [hr] at h3
  simp only [List.length_cons] at h3
  rw [← hq.2]
  exact List.eq_nil_of_length_eq_zero (by omega)
theorem num_not_digit (s : ByteArray) (k : Nat) (h : k < s.size) (hd : ¬ isDig s[k]) : ¬ NumOk s.data.toList := fun hn =>
  hd (hn.digs _ (by rw [show s[k] = s.data.toList[k]'(by rw [sl_len]; omega) from rfl]; exact List.getElem_mem _))
theorem hidMO {p : Prop} (h : p) : Hid p := h
def DigsTo (s : ByteArray) (k : Nat) : Prop := ∀ c ∈ s.data.toList.take k, isDig c
theorem digsTo_zero (s : ByteArray) : DigsTo s 0 := by intro c hc; simp at hc
theorem digsTo_val (s : ByteArray) (k : Nat) (h : DigsTo s k) (h9 : k ≤ 9) : valL (s.data.toList.take k) < 1000000000 := by
  have h1 := num_lt _ h
  have h2 : (s.data.toList.take k).length ≤ 9 := by rw [List.length_take]; omega
  have h3 : 10 ^ (s.data.toList.take k).length ≤ 10 ^ 9 := Nat.pow_le_pow_right (by decide) h2
  have : (10 : Nat) ^ 9 = 1000000000 := by decide
  omega
theorem digsTo_next (s : ByteArray) (k : Nat) (h : k < s.size) (hd : DigsTo s k) (hk : isDig s[k]) : DigsTo s (k + 1) := by
  intro c hc
  rw [take_one s k h] at hc
  rcases List.mem_append.1 hc with hc | hc
  · exact hd c hc
  · rw [List.mem_singleton] at hc; rw [hc]; exact hk
theorem val_next (s : ByteArray) (k : Nat) (h : k < s.size) : valL (s.data.toList.take (k + 1)) = 10 * valL (s.data.toList.take k) + (s[k].toNat - 48) := by
  rw [take_one s k h, valL_snoc]
set_option maxHeartbeats 1600000 in
theorem number_any (s : ByteArray) (w : World) :
    Calls Tryz.prog 236 #[.string s] w fun e w' => e = .returned (.tuple #[.int .i64 (numV s.data.toList : Nat), .bool (numT s.data.toList)]) ∧ w' = w := by
  have hl := sl_len s
  by_cases hE : s.size = 0
  · have e0 : s.toList = [] := by rw [ByteArray.toList_eq]; exact List.eq_nil_of_length_eq_zero (by omega)
    have hn : ¬ NumOk s.data.toList := fun h => h.ne (by rw [← ByteArray.toList_eq]; exact e0)
    rw [numV_no hn, numT_no hn]
    clear hn hl
    go_enter Tryz.func236, Tryz.ntmps236
    go_wp2
    go_ret2
    exact ⟨rfl, rfl⟩
  have e1 : ¬ s.toList = [] := by
    rw [ByteArray.toList_eq]; intro h; rw [h] at hl; simp at hl; omega
  have e2 : s.toList.isEmpty = false := by cases h : s.toList <;> simp_all
  by_cases h9 : 9 < s.size
  · have hn : ¬ NumOk s.data.toList := fun h => by have := h.len; omega
    rw [numV_no hn, numT_no hn]
    have g9 : (9 : Int) < (s.size : Int) := by omega
    clear hn hl
    go_enter Tryz.func236, Tryz.ntmps236
    go_wp2
    go_ret2
    exact ⟨rfl, rfl⟩
  have hp : 0 < s.size := by omega
  have g9 : ¬ (9 : Int) < (s.size : Int) := by omega
  by_cases h0 : s[0] = 48
  · have c0 : (s[0].toNat : Int) = 48 := by rw [h0]; rfl
    by_cases hone : s.size = 1
    · have hyes : (s.toList == [48]) = true := by
        rw [ByteArray.toList_eq]
        obtain ⟨r, hr⟩ := s_head s (by omega)
        have h3 := hl
        rw [hr] at h3
        simp only [List.length_cons] at h3
        have hr0 : r = [] := List.eq_nil_of_length_eq_zero (by omega)
        rw [hr, hr0, h0]; rfl
      have HZ : Hid (s[0] = 48 → s.size = 1) := fun _ => hone
      clear hl h0 hone
      go_enter Tryz.func236, Tryz.ntmps236
      go_wp2
      go_loopw [4, 5, 24] (fun v _ i wr => ∃ (k : Nat), k ≤ s.size ∧ i = .int .i64 k ∧ v = .int .i64 (valL (s.data.toList.take k) : Nat) ∧ DigsTo s k ∧ wr = w) (fun _ _ i _ => s.size - (intOf i).toNat)
      case atStart => exact ⟨0, Nat.zero_le _, rfl, rfl, digsTo_zero s, rfl⟩
      case round =>
        obtain ⟨k, hk, rfl, rfl, hd, rfl⟩ := hrel
        have HD := hidMO hd
        clear hd
        by_cases hlt : k < s.size
        · have kk : (k : Int) < (s.size : Int) := by omega
          have hv := digsTo_val s k HD.out (by omega)
          obtain ⟨c, hcc⟩ : ∃ c, c = s[k].toNat := ⟨_, rfl⟩
          have r0 : (s[k].toNat : Int) = (c : Int) := by omega
          by_cases hdig : isDig s[k]
          · have HN := hidMO (digsTo_next s k hlt HD.out hdig)
            have HV := hidMO (val_next s k hlt)
            have hb : 48 ≤ s[k].toNat ∧ s[k].toNat ≤ 57 := hdig
            rw [← hcc] at HV hb
            obtain ⟨hb1, hb2⟩ := hb
            generalize valL (s.data.toList.take k) = v at *
            clear hcc hdig HD
            have q1 : decide ((c : Int) < 48) = false := by simp; omega
            have q2 : decide ((57 : Int) < (c : Int)) = false := by simp; omega
            go_wp2
            go_roundw
            case rel => exact ⟨k + 1, by omega, by go_num, by rw [HV.out]; go_num, HN.out, trivial⟩
            case measure => (show s.size - ((k : Int) + 1).toNat < s.size - ((k : Int)).toNat); omega
          · have hn := num_not_digit s k hlt hdig
            have HA := hidMO (numV_no hn)
            have HB := hidMO (numT_no hn)
            have hb : ¬ (48 ≤ s[k].toNat ∧ s[k].toNat ≤ 57) := hdig
            rw [← hcc] at hb
            generalize valL (s.data.toList.take k) = v at *
            clear hcc hdig HD hn
            by_cases hc : c < 48
            · have q1 : decide ((c : Int) < 48) = true := by simp; omega
              go_wp2
              go_ret2
              exact ⟨by rw [HA.out, HB.out]; rfl, rfl⟩
            · have q1 : decide ((c : Int) < 48) = false := by simp; omega
              have q2 : decide ((57 : Int) < (c : Int)) = true := by simp; omega
              go_wp2
              go_ret2
              exact ⟨by rw [HA.out, HB.out]; rfl, rfl⟩
        · obtain rfl : k = s.size := by omega
          have hd : ∀ c ∈ s.data.toList, isDig c := by
            have := HD.out
            unfold DigsTo at this
            rwa [List.take_of_length_le (by rw [sl_len]; omega)] at this
          have hn := num_loop_yes s (by omega) (by omega) HZ.out hd
          have HA := hidMO (numV_yes hn)
          have HB := hidMO (numT_yes hn)
          have hv := digsTo_val s s.size HD.out (by omega)
          rw [List.take_of_length_le (by rw [sl_len]; omega)] at hv ⊢
          clear hn hd HD
          generalize valL s.data.toList = v at *
          go_wp2
          go_ret2
          exact ⟨by rw [HA.out, HB.out]; rfl, rfl⟩
    · obtain ⟨r, hr⟩ := s_head s (by omega)
      have hn : ¬ NumOk s.data.toList := fun h => by
        have h3 := h.head r (by rw [hr, h0])
        rw [hr, h3] at hl
        simp at hl; omega
      rw [numV_no hn, numT_no hn]
      have hno : (s.toList == [48]) = false := by
        rw [ByteArray.toList_eq]
        refine Bool.eq_false_iff.2 fun h => ?_
        have h4 := congrArg List.length (eq_of_beq h)
        rw [hl] at h4; simp at h4; omega
      clear hn hl hr
      go_enter Tryz.func236, Tryz.ntmps236
      go_wp2
      go_ret2
      exact ⟨rfl, rfl⟩
  · have c0 : ((s[0].toNat : Int) == 48) = false := by
      refine beq_false_of_ne fun h => h0 ?_
      rw [← UInt8.toNat_inj]
      show s[0].toNat = 48
      omega
    have c1 : (s[0].toNat : Int) ≠ 48 := by simpa using c0
    have HZ : Hid (s[0] = 48 → s.size = 1) := fun h => absurd h h0
    clear hl h0
    go_enter Tryz.func236, Tryz.ntmps236
    go_wp2
    go_loopw [4, 5, 24] (fun v _ i wr => ∃ (k : Nat), k ≤ s.size ∧ i = .int .i64 k ∧ v = .int .i64 (valL (s.data.toList.take k) : Nat) ∧ DigsTo s k ∧ wr = w) (fun _ _ i _ => s.size - (intOf i).toNat)
    case atStart => exact ⟨0, Nat.zero_le _, rfl, rfl, digsTo_zero s, rfl⟩
    case round =>
      obtain ⟨k, hk, rfl, rfl, hd, rfl⟩ := hrel
      have HD := hidMO hd
      clear hd
      by_cases hlt : k < s.size
      · have kk : (k : Int) < (s.size : Int) := by omega
        have hv := digsTo_val s k HD.out (by omega)
        obtain ⟨c, hcc⟩ : ∃ c, c = s[k].toNat := ⟨_, rfl⟩
        have r0 : (s[k].toNat : Int) = (c : Int) := by omega
        by_cases hdig : isDig s[k]
        · have HN := hidMO (digsTo_next s k hlt HD.out hdig)
          have HV := hidMO (val_next s k hlt)
          have hb : 48 ≤ s[k].toNat ∧ s[k].toNat ≤ 57 := hdig
          rw [← hcc] at HV hb
          obtain ⟨hb1, hb2⟩ := hb
          generalize valL (s.data.toList.take k) = v at *
          clear hcc hdig HD
          have q1 : decide ((c : Int) < 48) = false := by simp; omega
          have q2 : decide ((57 : Int) < (c : Int)) = false := by simp; omega
          go_wp2
          go_roundw
          case rel => exact ⟨k + 1, by omega, by go_num, by rw [HV.out]; go_num, HN.out, trivial⟩
          case measure => (show s.size - ((k : Int) + 1).toNat < s.size - ((k : Int)).toNat); omega
        · have hn := num_not_digit s k hlt hdig
          have HA := hidMO (numV_no hn)
          have HB := hidMO (numT_no hn)
          have hb : ¬ (48 ≤ s[k].toNat ∧ s[k].toNat ≤ 57) := hdig
          rw [← hcc] at hb
          generalize valL (s.data.toList.take k) = v at *
          clear hcc hdig HD hn
          by_cases hc : c < 48
          · have q1 : decide ((c : Int) < 48) = true := by simp; omega
            go_wp2
            go_ret2
            exact ⟨by rw [HA.out, HB.out]; rfl, rfl⟩
          · have q1 : decide ((c : Int) < 48) = false := by simp; omega
            have q2 : decide ((57 : Int) < (c : Int)) = true := by simp; omega
            go_wp2
            go_ret2
            exact ⟨by rw [HA.out, HB.out]; rfl, rfl⟩
      · obtain rfl : k = s.size := by omega
        have hd : ∀ c ∈ s.data.toList, isDig c := by
          have := HD.out
          unfold DigsTo at this
          rwa [List.take_of_length_le (by rw [sl_len]; omega)] at this
        have hn := num_loop_yes s (by omega) (by omega) HZ.out hd
        have HA := hidMO (numV_yes hn)
        have HB := hidMO (numT_yes hn)
        have hv := digsTo_val s s.size HD.out (by omega)
        rw [List.take_of_length_le (by rw [sl_len]; omega)] at hv ⊢
        clear hn hd HD
        generalize valL s.data.toList = v at *
        go_wp2
        go_ret2
        exact ⟨by rw [HA.out, HB.out]; rfl, rfl⟩
end Go.Proofs.YtlmeoahcpmikiaaGreatDoor

/-
  Contracts of the library at this program, laid without a walk: Index and Count at one byte, Compare, HasPrefix, the closure of genSplit.
  Decimals: the number of a text of digits, and back.
  Number and its document's twin.
  A path cut at its slashes; Clean.
  Files in the heap; how many bytes they have.
  Files compared by their paths; looked for by halving.
-/
import Derived.Shelf.Strings.Search3
import Derived.Shelf.Strings.Count
import Derived.Shelf.Small.Strs
import Derived.Shelf.Strings.Prefix
import Derived.Shelf.Strings.SplitCore
import Derived.Test.YtddoemeellbhaaaGreatDoorProg
import Derived.Lib.ItoaNum
import Derived.Test.YtddoemeellbhaaaGreatDoorChecked
import Derived.WalkKit
import Derived.WalkSpells
import Derived.WalkLawsBesides
import Derived.Laws.IdiomStrings
import Derived.Lib.SplitLaws
import Derived.Deep.QuietTactic
import Derived.BigQuiet
namespace Go.Proofs
open Go.Shelf
def Tryz.lays143_ren : Go.Shelf.Ren := ⟨fun | 143 => 144 | 219 => 183 | 217 => 221 | 225 => 222 | 224 => 223 | 267 => 224 | 266 => 247 | 314 => 248 | n => n, fun | 9 => 9 | 3 => 3 | 4 => 4 | 5 => 5 | 46 => 96 | 146 => 222 | 51 => 79 | n => n, fun | 1 => 0 | n => n⟩
theorem Tryz.lays143 : Go.Proofs.Lays.n143 Tryz.prog Tryz.lays143_ren := {
  mixed := by kernel_rfl
  f143 := Tryz.func144.trans (congrArg some (by kernel_rfl))
  f217 := Tryz.func221.trans (congrArg some (by kernel_rfl))
  f219 := Tryz.func183.trans (congrArg some (by kernel_rfl))
  f224 := Tryz.func223.trans (congrArg some (by kernel_rfl))
  f225 := Tryz.func222.trans (congrArg some (by kernel_rfl))
  f266 := Tryz.func247.trans (congrArg some (by kernel_rfl))
  f267 := Tryz.func224.trans (congrArg some (by kernel_rfl))
  f314 := Tryz.func248.trans (congrArg some (by kernel_rfl))
  t3 := Tryz.underlying3
  a3 := Tryz.isAgg3
  z3 := Tryz.sizeOf3
  v3 := Tryz.zeroValue3
  t4 := Tryz.underlying4
  a4 := Tryz.isAgg4
  z4 := Tryz.sizeOf4
  v4 := Tryz.zeroValue4
  t5 := Tryz.underlying5
  a5 := Tryz.isAgg5
  z5 := Tryz.sizeOf5
  v5 := Tryz.zeroValue5
  t9 := Tryz.underlying9
  a9 := Tryz.isAgg9
  z9 := Tryz.sizeOf9
  v9 := Tryz.zeroValue9
  t46 := Tryz.underlying96
  a46 := Tryz.isAgg96
  z46 := Tryz.sizeOf96
  v46 := Tryz.zeroValue96
  t51 := Tryz.underlying79
  a51 := Tryz.isAgg79
  z51 := Tryz.sizeOf79
  v51 := Tryz.zeroValue79
  t146 := Tryz.underlying222
  a146 := Tryz.isAgg222
  z146 := Tryz.sizeOf222
  v146 := Tryz.zeroValue222
  g1 := by kernel_rfl }
open Go.RowKit Go.Lib in
theorem Tryz.strings_Index_one (s : ByteArray) (c : UInt8) (w : World) :
    Calls Tryz.prog 144 #[.string s, .string ⟨#[c]⟩] w fun e w' => e = .returned (.int .i64 (Lib.indexByte s.data.toList c)) ∧ w' = w := Any.strings_Index_one Tryz.lays143 s c w
def Tryz.lays138_ren : Go.Shelf.Ren := ⟨fun | 138 => 142 | 195 => 184 | 218 => 185 | 143 => 144 | 219 => 183 | 217 => 221 | 225 => 222 | 224 => 223 | 267 => 224 | 266 => 247 | 314 => 248 | n => n, fun | 9 => 9 | 3 => 3 | 4 => 4 | 5 => 5 | 0 => 0 | 46 => 96 | 146 => 222 | 51 => 79 | n => n, fun | 1 => 0 | n => n⟩
theorem Tryz.lays138 : Go.Proofs.Lays.n138 Tryz.prog Tryz.lays138_ren := {
  mixed := by kernel_rfl
  f138 := Tryz.func142.trans (congrArg some (by kernel_rfl))
  f143 := Tryz.func144.trans (congrArg some (by kernel_rfl))
  f195 := Tryz.func184.trans (congrArg some (by kernel_rfl))
  f217 := Tryz.func221.trans (congrArg some (by kernel_rfl))
  f218 := Tryz.func185.trans (congrArg some (by kernel_rfl))
  f219 := Tryz.func183.trans (congrArg some (by kernel_rfl))
  f224 := Tryz.func223.trans (congrArg some (by kernel_rfl))
  f225 := Tryz.func222.trans (congrArg some (by kernel_rfl))
  f266 := Tryz.func247.trans (congrArg some (by kernel_rfl))
  f267 := Tryz.func224.trans (congrArg some (by kernel_rfl))
  f314 := Tryz.func248.trans (congrArg some (by kernel_rfl))
  t0 := Tryz.underlying0
  a0 := Tryz.isAgg0
  z0 := Tryz.sizeOf0
  v0 := Tryz.zeroValue0
  t3 := Tryz.underlying3
  a3 := Tryz.isAgg3
  z3 := Tryz.sizeOf3
  v3 := Tryz.zeroValue3
  t4 := Tryz.underlying4
  a4 := Tryz.isAgg4
  z4 := Tryz.sizeOf4
  v4 := Tryz.zeroValue4
  t5 := Tryz.underlying5
  a5 := Tryz.isAgg5
  z5 := Tryz.sizeOf5
  v5 := Tryz.zeroValue5
  t9 := Tryz.underlying9
  a9 := Tryz.isAgg9
  z9 := Tryz.sizeOf9
  v9 := Tryz.zeroValue9
  t46 := Tryz.underlying96
  a46 := Tryz.isAgg96
  z46 := Tryz.sizeOf96
  v46 := Tryz.zeroValue96
  t51 := Tryz.underlying79
  a51 := Tryz.isAgg79
  z51 := Tryz.sizeOf79
  v51 := Tryz.zeroValue79
  t146 := Tryz.underlying222
  a146 := Tryz.isAgg222
  z146 := Tryz.sizeOf222
  v146 := Tryz.zeroValue222
  g1 := by kernel_rfl }
open Go.RowKit Go.Lib in
theorem Tryz.strings_Count_one (s : ByteArray) (c : UInt8) (w : World) :
    Calls Tryz.prog 142 #[.string s, .string ⟨#[c]⟩] w fun e w' => e = .returned (.int .i64 (Lib.countByte s.data.toList c)) ∧ w' = w := Any.strings_Count_one Tryz.lays138 s c w
def Tryz.lays106_ren : Go.Shelf.Ren := ⟨fun | 106 => 38 | 213 => 77 | 265 => 132 | n => n, fun | 9 => 9 | 3 => 3 | n => n, fun | n => n⟩
theorem Tryz.lays106 : Go.Proofs.Lays.n106 Tryz.prog Tryz.lays106_ren := {
  mixed := by kernel_rfl
  f106 := Tryz.func38.trans (congrArg some (by kernel_rfl))
  f213 := Tryz.func77.trans (congrArg some (by kernel_rfl))
  f265 := Tryz.func132.trans (congrArg some (by kernel_rfl))
  t3 := Tryz.underlying3
  a3 := Tryz.isAgg3
  z3 := Tryz.sizeOf3
  v3 := Tryz.zeroValue3
  t9 := Tryz.underlying9
  a9 := Tryz.isAgg9
  z9 := Tryz.sizeOf9
  v9 := Tryz.zeroValue9 }
open Go.RowKit in
theorem Tryz.strings_Compare (a b : ByteArray) (w : World) :
    Calls Tryz.prog 38 #[.string a, .string b] w fun e w' => e = .returned (.int .i64 (Lib.compareBytes a.data.toList b.data.toList)) ∧ w' = w := Any.strings_Compare Tryz.lays106 a b w
def Tryz.lays99_ren : Go.Shelf.Ren := ⟨fun | 99 => 133 | 206 => 172 | n => n, fun | 9 => 9 | 4 => 4 | 3 => 3 | n => n, fun | n => n⟩
theorem Tryz.lays99 : Go.Proofs.Lays.n99 Tryz.prog Tryz.lays99_ren := {
  mixed := by kernel_rfl
  f99 := Tryz.func133.trans (congrArg some (by kernel_rfl))
  f206 := Tryz.func172.trans (congrArg some (by kernel_rfl))
  t3 := Tryz.underlying3
  a3 := Tryz.isAgg3
  z3 := Tryz.sizeOf3
  v3 := Tryz.zeroValue3
  t4 := Tryz.underlying4
  a4 := Tryz.isAgg4
  z4 := Tryz.sizeOf4
  v4 := Tryz.zeroValue4
  t9 := Tryz.underlying9
  a9 := Tryz.isAgg9
  z9 := Tryz.sizeOf9
  v9 := Tryz.zeroValue9 }
open Go.RowKit Go.Lib in
theorem Tryz.strings_HasPrefix (s p : ByteArray) (w : World) :
    Calls Tryz.prog 133 #[.string s, .string p] w fun e w' => e = .returned (.bool (Lib.hasPrefix s.data.toList p.data.toList)) ∧ w' = w := Any.strings_HasPrefix Tryz.lays99 s p w
def Tryz.lays221_ren : Go.Shelf.Ren := ⟨fun | 221 => 166 | 268 => 206 | 138 => 142 | 143 => 144 | 195 => 184 | 197 => 145 | 218 => 185 | 219 => 183 | 260 => 187 | 217 => 221 | 225 => 222 | 224 => 223 | 267 => 224 | 266 => 247 | 314 => 248 | n => n, fun | 9 => 9 | 3 => 3 | 31 => 43 | 4 => 4 | 0 => 0 | 105 => 166 | 21 => 21 | 5 => 5 | 46 => 96 | 119 => 246 | 139 => 249 | 138 => 248 | 146 => 222 | 51 => 79 | n => n, fun | 1 => 0 | 3 => 2 | 4 => 3 | n => n⟩
theorem Tryz.lays221 : Go.Proofs.Lays.n221 Tryz.prog Tryz.lays221_ren := {
  mixed := by kernel_rfl
  f138 := Tryz.func142.trans (congrArg some (by kernel_rfl))
  f143 := Tryz.func144.trans (congrArg some (by kernel_rfl))
  f195 := Tryz.func184.trans (congrArg some (by kernel_rfl))
  f197 := Tryz.func145.trans (congrArg some (by kernel_rfl))
  f217 := Tryz.func221.trans (congrArg some (by kernel_rfl))
  f218 := Tryz.func185.trans (congrArg some (by kernel_rfl))
  f219 := Tryz.func183.trans (congrArg some (by kernel_rfl))
  f221 := Tryz.func166.trans (congrArg some (by kernel_rfl))
  f224 := Tryz.func223.trans (congrArg some (by kernel_rfl))
  f225 := Tryz.func222.trans (congrArg some (by kernel_rfl))
  f260 := Tryz.func187.trans (congrArg some (by kernel_rfl))
  f266 := Tryz.func247.trans (congrArg some (by kernel_rfl))
  f267 := Tryz.func224.trans (congrArg some (by kernel_rfl))
  f268 := Tryz.func206.trans (congrArg some (by kernel_rfl))
  f314 := Tryz.func248.trans (congrArg some (by kernel_rfl))
  t0 := Tryz.underlying0
  a0 := Tryz.isAgg0
  z0 := Tryz.sizeOf0
  v0 := Tryz.zeroValue0
  t3 := Tryz.underlying3
  a3 := Tryz.isAgg3
  z3 := Tryz.sizeOf3
  v3 := Tryz.zeroValue3
  t4 := Tryz.underlying4
  a4 := Tryz.isAgg4
  z4 := Tryz.sizeOf4
  v4 := Tryz.zeroValue4
  t5 := Tryz.underlying5
  a5 := Tryz.isAgg5
  z5 := Tryz.sizeOf5
  v5 := Tryz.zeroValue5
  t9 := Tryz.underlying9
  a9 := Tryz.isAgg9
  z9 := Tryz.sizeOf9
  v9 := Tryz.zeroValue9
  t21 := Tryz.underlying21
  a21 := Tryz.isAgg21
  z21 := Tryz.sizeOf21
  v21 := Tryz.zeroValue21
  t31 := Tryz.underlying43
  a31 := Tryz.isAgg43
  z31 := Tryz.sizeOf43
  v31 := Tryz.zeroValue43
  t46 := Tryz.underlying96
  a46 := Tryz.isAgg96
  z46 := Tryz.sizeOf96
  v46 := Tryz.zeroValue96
  t51 := Tryz.underlying79
  a51 := Tryz.isAgg79
  z51 := Tryz.sizeOf79
  v51 := Tryz.zeroValue79
  t105 := Tryz.underlying166
  a105 := Tryz.isAgg166
  z105 := Tryz.sizeOf166
  v105 := Tryz.zeroValue166
  t119 := Tryz.underlying246
  a119 := Tryz.isAgg246
  z119 := Tryz.sizeOf246
  t138 := Tryz.underlying248
  a138 := Tryz.isAgg248
  z138 := Tryz.sizeOf248
  v138 := Tryz.zeroValue248
  t139 := Tryz.underlying249
  a139 := Tryz.isAgg249
  z139 := Tryz.sizeOf249
  v139 := Tryz.zeroValue249
  t146 := Tryz.underlying222
  a146 := Tryz.isAgg222
  z146 := Tryz.sizeOf222
  v146 := Tryz.zeroValue222
  g1 := by kernel_rfl
  g3 := by kernel_rfl
  g4 := by kernel_rfl }
end Go.Proofs
namespace Go.Proofs.YtddoemeellbhaaaGreatDoor
theorem snocInd {α : Type} {motive : List α → Prop} (nil : motive []) (append_singleton : ∀ l a, motive l → motive (l ++ [a])) : ∀ l, motive l := by
  intro l
  have : ∀ k : List α, motive k.reverse := by
    intro k
    induction k with
    | nil => exact nil
    | cons a k ih => rw [List.reverse_cons]; exact append_singleton _ _ ih
  have h := this l.reverse
  rwa [List.reverse_reverse] at h
def isDig (c : UInt8) : Prop := 48 ≤ c.toNat ∧ c.toNat ≤ 57
instance (c : UInt8) : Decidable (isDig c) := by unfold isDig; infer_instance
def stepN (n : Nat) (c : UInt8) : Nat := 10 * n + (c.toNat - 48)
def valL (l : List UInt8) : Nat := l.foldl stepN 0
theorem valL_snoc (l : List UInt8) (c : UInt8) : valL (l ++ [c]) = 10 * valL l + (c.toNat - 48) := by simp [valL, List.foldl_append, stepN]
theorem dig_byte (d : Nat) (h : d < 10) : (UInt8.ofNat (48 + d)).toNat = 48 + d := by
  rw [UInt8.toNat_ofNat']; omega
theorem dd_small {u : Nat} (h : u < 10) : Lib.decDigits u = [UInt8.ofNat (48 + u)] := Lib.decDigits_one h
theorem dd_big {u : Nat} (h : 10 ≤ u) : Lib.decDigits u = Lib.decDigits (u / 10) ++ [UInt8.ofNat (48 + u % 10)] := by
  rw [Lib.decDigits, dif_neg (by omega)]
theorem dd_val (u : Nat) : valL (Lib.decDigits u) = u := by
  induction u using Nat.strongRecOn with
  | ind u ih =>
    by_cases h : u < 10
    · rw [dd_small h]
      show 10 * 0 + ((UInt8.ofNat (48 + u)).toNat - 48) = u
      rw [dig_byte u h]; omega
    · rw [dd_big (by omega), valL_snoc, ih (u / 10) (by omega), dig_byte (u % 10) (Nat.mod_lt _ (by decide))]; omega
theorem dd_digs (u : Nat) : ∀ c ∈ Lib.decDigits u, isDig c := by
  induction u using Nat.strongRecOn with
  | ind u ih =>
    by_cases h : u < 10
    · rw [dd_small h]
      intro c hc
      rw [List.mem_singleton] at hc
      subst hc
      unfold isDig; rw [dig_byte u h]; omega
    · rw [dd_big (by omega)]
      intro c hc
      rcases List.mem_append.1 hc with hc | hc
      · exact ih _ (by omega) c hc
      · rw [List.mem_singleton] at hc
        subst hc
        have := Nat.mod_lt u (show 0 < 10 by decide)
        unfold isDig; rw [dig_byte _ this]; omega
theorem dd_ne (u : Nat) : Lib.decDigits u ≠ [] := by
  intro h
  have := Lib.decDigits_length u
  have h1 := Lib.nDigits_pos u
  rw [h] at this; simp at this; omega
/-- no nought ahead of a number from 1 on -/
theorem dd_head (u : Nat) (h : 1 ≤ u) : ∃ c r, Lib.decDigits u = c :: r ∧ c ≠ 48 := by
  induction u using Nat.strongRecOn with
  | ind u ih =>
    by_cases h1 : u < 10
    · refine ⟨_, [], dd_small h1, fun hc => ?_⟩
      have := congrArg UInt8.toNat hc
      rw [dig_byte u h1] at this
      simp at this; omega
    · obtain ⟨c, r, he, hc⟩ := ih (u / 10) (by omega) (by omega)
      exact ⟨c, r ++ [_], by rw [dd_big (by omega), he]; rfl, hc⟩
theorem dd_len9 (u : Nat) : (Lib.decDigits u).length ≤ 9 ↔ u ≤ 999999999 := by
  rw [Lib.decDigits_length]
  constructor
  · intro h
    have h1 := Lib.lt_pow_nDigits u
    have h2 : 10 ^ Lib.nDigits u ≤ 10 ^ 9 := Nat.pow_le_pow_right (by decide) h
    have : (10 : Nat) ^ 9 = 1000000000 := by decide
    omega
  · intro h
    refine Classical.byContradiction fun hn => ?_
    have h1 : ∀ v, v < 1000000000 → Lib.nDigits v ≤ 9 := by
      intro v hv
      have key : ∀ k u, u < 10 ^ k → 1 ≤ k → Lib.nDigits u ≤ k := by
        intro k
        induction k with
        | zero => intro u _ h; omega
        | succ k ih =>
          intro u hu _
          by_cases h : u < 10
          · rw [Lib.nDigits_small h]; omega
          · rw [Lib.nDigits_big h]
            have h10 : u / 10 < 10 ^ k := by
              rw [Nat.pow_succ] at hu; omega
            have hk : 1 ≤ k := by
              rcases Nat.eq_zero_or_pos k with rfl | h0
              · simp at hu; omega
              · exact h0
            have := ih (u / 10) h10 hk
            omega
      exact key 9 v (by have : (10 : Nat) ^ 9 = 1000000000 := by decide
                        omega) (by decide)
    exact hn (h1 u (by omega))
/-- a text that is a decimal -/
structure NumOk (l : List UInt8) : Prop where
  ne : l ≠ []
  len : l.length ≤ 9
  head : ∀ r, l = 48 :: r → r = []
  digs : ∀ c ∈ l, isDig c
theorem num_lt (l : List UInt8) (h : ∀ c ∈ l, isDig c) : valL l < 10 ^ l.length := by
  induction l using snocInd with
  | nil => decide
  | append_singleton l d ih =>
    have h1 := ih fun c hc => h c (by simp [hc])
    have h2 := h d (by simp)
    rw [valL_snoc, List.length_append, List.length_singleton, Nat.pow_succ]
    unfold isDig at h2; omega
theorem num_le (l : List UInt8) (h : NumOk l) : valL l ≤ 999999999 := by
  have h1 := num_lt l h.digs
  have h2 : 10 ^ l.length ≤ 10 ^ 9 := Nat.pow_le_pow_right (by decide) h.len
  have : (10 : Nat) ^ 9 = 1000000000 := by decide
  omega
theorem dd_ok (u : Nat) (h : u ≤ 999999999) : NumOk (Lib.decDigits u) := by
  refine ⟨dd_ne u, (dd_len9 u).2 h, fun r hr => ?_, dd_digs u⟩
  by_cases h0 : u = 0
  · subst h0
    rw [dd_small (by decide)] at hr
    simp at hr; exact hr
  · obtain ⟨c, q, he, hc⟩ := dd_head u (by omega)
    rw [he] at hr
    simp at hr; exact absurd hr.1 hc
theorem itoa_ok (n : Int) : NumOk (Lib.itoa n) ↔ 0 ≤ n ∧ n ≤ 999999999 := by
  unfold Lib.itoa
  by_cases h : n < 0
  · rw [if_pos h]
    constructor
    · intro hk
      exact absurd (hk.digs 45 (by simp)) (by decide)
    · intro; omega
  · rw [if_neg h]
    constructor
    · intro hk
      have := (dd_len9 n.toNat).1 hk.len
      omega
    · intro hk
      exact dd_ok _ (by omega)
theorem itoa_val (n : Int) (h : 0 ≤ n) : valL (Lib.itoa n) = n.toNat := by
  unfold Lib.itoa
  rw [if_neg (by omega), dd_val]
end Go.Proofs.YtddoemeellbhaaaGreatDoor
namespace Go.Proofs.YtddoemeellbhaaaGreatDoor
open Go.RowKit
open Classical in
noncomputable def numT (l : List UInt8) : Bool := decide (NumOk l)
open Classical in
noncomputable def numV (l : List UInt8) : Nat := if NumOk l then valL l else 0
theorem numT_yes {l : List UInt8} (h : NumOk l) : numT l = true := by unfold numT; simp [h]
theorem numT_no {l : List UInt8} (h : ¬ NumOk l) : numT l = false := by unfold numT; simp [h]
theorem numV_yes {l : List UInt8} (h : NumOk l) : numV l = valL l := by unfold numV; rw [if_pos h]
theorem numV_no {l : List UInt8} (h : ¬ NumOk l) : numV l = 0 := by unfold numV; rw [if_neg h]
theorem sl_len (s : ByteArray) : s.data.toList.length = s.size := by simp
theorem take_one (s : ByteArray) (k : Nat) (h : k < s.size) : s.data.toList.take (k + 1) = s.data.toList.take k ++ [s[k]] := by
  rw [List.take_succ_eq_append_getElem (by simpa using h)]; rfl
theorem s_head (s : ByteArray) (h : 0 < s.size) : ∃ r, s.data.toList = s[0] :: r := by
  cases hl : s.data.toList with
  | nil => have := sl_len s; rw [hl] at this; simp at this; omega
  | cons a r =>
    refine ⟨r, ?_⟩
    have : s[0] = s.data.toList[0]'(by rw [sl_len]; omega) := rfl
    rw [this]; simp [hl]
theorem num_loop_yes (s : ByteArray) (h1 : 1 ≤ s.size) (h9 : s.size ≤ 9) (h0 : s[0] = 48 → s.size = 1) (hd : ∀ c ∈ s.data.toList, isDig c) : NumOk s.data.toList := by
  obtain ⟨r, hr⟩ := s_head s (by omega)
  refine ⟨by rw [hr]; simp, by rw [sl_len]; omega, fun q hq => ?_, hd⟩
  rw [hr] at hq
  simp only [List.cons.injEq] at hq
  have h2 := h0 hq.1
  have h3 := sl_len s
  rw [hr] at h3
  simp only [List.length_cons] at h3
  rw [← hq.2]
  exact List.eq_nil_of_length_eq_zero (by omega)
theorem num_not_digit (s : ByteArray) (k : Nat) (h : k < s.size) (hd : ¬ isDig s[k]) : ¬ NumOk s.data.toList := fun hn =>
  hd (hn.digs _ (by rw [show s[k] = s.data.toList[k]'(by rw [sl_len]; omega) from rfl]; exact List.getElem_mem _))
theorem hidMO {p : Prop} (h : p) : Hid p := h
def DigsTo (s : ByteArray) (k : Nat) : Prop := ∀ c ∈ s.data.toList.take k, isDig c
theorem digsTo_zero (s : ByteArray) : DigsTo s 0 := by intro c hc; simp at hc
theorem digsTo_val (s : ByteArray) (k : Nat) (h : DigsTo s k) (h9 : k ≤ 9) : valL (s.data.toList.take k) < 1000000000 := by
  have h1 := num_lt _ h
  have h2 : (s.data.toList.take k).length ≤ 9 := by rw [List.length_take]; omega
  have h3 : 10 ^ (s.data.toList.take k).length ≤ 10 ^ 9 := Nat.pow_le_pow_right (by decide) h2
  have : (10 : Nat) ^ 9 = 1000000000 := by decide
  omega
theorem digsTo_next (s : ByteArray) (k : Nat) (h : k < s.size) (hd : DigsTo s k) (hk : isDig s[k]) : DigsTo s (k + 1) := by
  intro c hc
  rw [take_one s k h] at hc
  rcases List.mem_append.1 hc with hc | hc
  · exact hd c hc
  · rw [List.mem_singleton] at hc; rw [hc]; exact hk
theorem val_next (s : ByteArray) (k : Nat) (h : k < s.size) : valL (s.data.toList.take (k + 1)) = 10 * valL (s.data.toList.take k) + (s[k].toNat - 48) := by
  rw [take_one s k h, valL_snoc]
set_option maxHeartbeats 1600000 in
theorem number_any (s : ByteArray) (w : World) :
    Calls Tryz.prog 84 #[.string s] w fun e w' => e = .returned (.tuple #[.int .i64 (numV s.data.toList : Nat), .bool (numT s.data.toList)]) ∧ w' = w := by
  have hl := sl_len s
  by_cases hE : s.size = 0
  · have e0 : s.toList = [] := by rw [ByteArray.toList_eq]; exact List.eq_nil_of_length_eq_zero (by omega)
    have hn : ¬ NumOk s.data.toList := fun h => h.ne (by rw [← ByteArray.toList_eq]; exact e0)
    rw [numV_no hn, numT_no hn]
    clear hn hl
    go_enter Tryz.func84, Tryz.ntmps84
    go_wp2
    go_ret2
    exact ⟨rfl, rfl⟩
  have e1 : ¬ s.toList = [] := by
    rw [ByteArray.toList_eq]; intro h; rw [h] at hl; simp at hl; omega
  have e2 : s.toList.isEmpty = false := by cases h : s.toList <;> simp_all
  by_cases h9 : 9 < s.size
  · have hn : ¬ NumOk s.data.toList := fun h => by have := h.len; omega
    rw [numV_no hn, numT_no hn]
    have g9 : (9 : Int) < (s.size : Int) := by omega
    clear hn hl
    go_enter Tryz.func84, Tryz.ntmps84
    go_wp2
    go_ret2
    exact ⟨rfl, rfl⟩
  have hp : 0 < s.size := by omega
  have g9 : ¬ (9 : Int) < (s.size : Int) := by omega
  by_cases h0 : s[0] = 48
  · have c0 : (s[0].toNat : Int) = 48 := by rw [h0]; rfl
    by_cases hone : s.size = 1
    · have hyes : (s.toList == [48]) = true := by
        rw [ByteArray.toList_eq]
        obtain ⟨r, hr⟩ := s_head s (by omega)
        have h3 := hl
        rw [hr] at h3
        simp only [List.length_cons] at h3
        have hr0 : r = [] := List.eq_nil_of_length_eq_zero (by omega)
        rw [hr, hr0, h0]; rfl
      have HZ : Hid (s[0] = 48 → s.size = 1) := fun _ => hone
      clear hl h0 hone
      go_enter Tryz.func84, Tryz.ntmps84
      go_wp2
      go_loopw [4, 5, 24] (fun v _ i wr => ∃ (k : Nat), k ≤ s.size ∧ i = .int .i64 k ∧ v = .int .i64 (valL (s.data.toList.take k) : Nat) ∧ DigsTo s k ∧ wr = w) (fun _ _ i _ => s.size - (intOf i).toNat)
      case atStart => exact ⟨0, Nat.zero_le _, rfl, rfl, digsTo_zero s, rfl⟩
      case round =>
        obtain ⟨k, hk, rfl, rfl, hd, rfl⟩ := hrel
        have HD := hidMO hd
        clear hd
        by_cases hlt : k < s.size
        · have kk : (k : Int) < (s.size : Int) := by omega
          have hv := digsTo_val s k HD.out (by omega)
          obtain ⟨c, hcc⟩ : ∃ c, c = s[k].toNat := ⟨_, rfl⟩
          have r0 : (s[k].toNat : Int) = (c : Int) := by omega
          by_cases hdig : isDig s[k]
          · have HN := hidMO (digsTo_next s k hlt HD.out hdig)
            have HV := hidMO (val_next s k hlt)
            have hb : 48 ≤ s[k].toNat ∧ s[k].toNat ≤ 57 := hdig
            rw [← hcc] at HV hb
            obtain ⟨hb1, hb2⟩ := hb
            generalize valL (s.data.toList.take k) = v at *
            clear hcc hdig HD
            have q1 : decide ((c : Int) < 48) = false := by simp; omega
            have q2 : decide ((57 : Int) < (c : Int)) = false := by simp; omega
            go_wp2
            go_roundw
            case rel => exact ⟨k + 1, by omega, by go_num, by rw [HV.out]; go_num, HN.out, trivial⟩
            case measure => (show s.size - ((k : Int) + 1).toNat < s.size - ((k : Int)).toNat); omega
          · have hn := num_not_digit s k hlt hdig
            have HA := hidMO (numV_no hn)
            have HB := hidMO (numT_no hn)
            have hb : ¬ (48 ≤ s[k].toNat ∧ s[k].toNat ≤ 57) := hdig
            rw [← hcc] at hb
            generalize valL (s.data.toList.take k) = v at *
            clear hcc hdig HD hn
            by_cases hc : c < 48
            · have q1 : decide ((c : Int) < 48) = true := by simp; omega
              go_wp2
              go_ret2
              exact ⟨by rw [HA.out, HB.out]; rfl, rfl⟩
            · have q1 : decide ((c : Int) < 48) = false := by simp; omega
              have q2 : decide ((57 : Int) < (c : Int)) = true := by simp; omega
              go_wp2
              go_ret2
              exact ⟨by rw [HA.out, HB.out]; rfl, rfl⟩
        · obtain rfl : k = s.size := by omega
          have hd : ∀ c ∈ s.data.toList, isDig c := by
            have := HD.out
            unfold DigsTo at this
            rwa [List.take_of_length_le (by rw [sl_len]; omega)] at this
          have hn := num_loop_yes s (by omega) (by omega) HZ.out hd
          have HA := hidMO (numV_yes hn)
          have HB := hidMO (numT_yes hn)
          have hv := digsTo_val s s.size HD.out (by omega)
          rw [List.take_of_length_le (by rw [sl_len]; omega)] at hv ⊢
          clear hn hd HD
          generalize valL s.data.toList = v at *
          go_wp2
          go_ret2
          exact ⟨by rw [HA.out, HB.out]; rfl, rfl⟩
    · obtain ⟨r, hr⟩ := s_head s (by omega)
      have hn : ¬ NumOk s.data.toList := fun h => by
        have h3 := h.head r (by rw [hr, h0])
        rw [hr, h3] at hl
        simp at hl; omega
      rw [numV_no hn, numT_no hn]
      have hno : (s.toList == [48]) = false := by
        rw [ByteArray.toList_eq]
        refine Bool.eq_false_iff.2 fun h => ?_
        have h4 := congrArg List.length (eq_of_beq h)
        rw [hl] at h4; simp at h4; omega
      clear hn hl hr
      go_enter Tryz.func84, Tryz.ntmps84
      go_wp2
      go_ret2
      exact ⟨rfl, rfl⟩
  · have c0 : ((s[0].toNat : Int) == 48) = false := by
      refine beq_false_of_ne fun h => h0 ?_
      rw [← UInt8.toNat_inj]
      show s[0].toNat = 48
      omega
    have c1 : (s[0].toNat : Int) ≠ 48 := by simpa using c0
    have HZ : Hid (s[0] = 48 → s.size = 1) := fun h => absurd h h0
    clear hl h0
    go_enter Tryz.func84, Tryz.ntmps84
    go_wp2
    go_loopw [4, 5, 24] (fun v _ i wr => ∃ (k : Nat), k ≤ s.size ∧ i = .int .i64 k ∧ v = .int .i64 (valL (s.data.toList.take k) : Nat) ∧ DigsTo s k ∧ wr = w) (fun _ _ i _ => s.size - (intOf i).toNat)
    case atStart => exact ⟨0, Nat.zero_le _, rfl, rfl, digsTo_zero s, rfl⟩
    case round =>
      obtain ⟨k, hk, rfl, rfl, hd, rfl⟩ := hrel
      have HD := hidMO hd
      clear hd
      by_cases hlt : k < s.size
      · have kk : (k : Int) < (s.size : Int) := by omega
        have hv := digsTo_val s k HD.out (by omega)
        obtain ⟨c, hcc⟩ : ∃ c, c = s[k].toNat := ⟨_, rfl⟩
        have r0 : (s[k].toNat : Int) = (c : Int) := by omega
        by_cases hdig : isDig s[k]
        · have HN := hidMO (digsTo_next s k hlt HD.out hdig)
          have HV := hidMO (val_next s k hlt)
          have hb : 48 ≤ s[k].toNat ∧ s[k].toNat ≤ 57 := hdig
          rw [← hcc] at HV hb
          obtain ⟨hb1, hb2⟩ := hb
          generalize valL (s.data.toList.take k) = v at *
          clear hcc hdig HD
          have q1 : decide ((c : Int) < 48) = false := by simp; omega
          have q2 : decide ((57 : Int) < (c : Int)) = false := by simp; omega
          go_wp2
          go_roundw
          case rel => exact ⟨k + 1, by omega, by go_num, by rw [HV.out]; go_num, HN.out, trivial⟩
          case measure => (show s.size - ((k : Int) + 1).toNat < s.size - ((k : Int)).toNat); omega
        · have hn := num_not_digit s k hlt hdig
          have HA := hidMO (numV_no hn)
          have HB := hidMO (numT_no hn)
          have hb : ¬ (48 ≤ s[k].toNat ∧ s[k].toNat ≤ 57) := hdig
          rw [← hcc] at hb
          generalize valL (s.data.toList.take k) = v at *
          clear hcc hdig HD hn
          by_cases hc : c < 48
          · have q1 : decide ((c : Int) < 48) = true := by simp; omega
            go_wp2
            go_ret2
            exact ⟨by rw [HA.out, HB.out]; rfl, rfl⟩
          · have q1 : decide ((c : Int) < 48) = false := by simp; omega
            have q2 : decide ((57 : Int) < (c : Int)) = true := by simp; omega
            go_wp2
            go_ret2
            exact ⟨by rw [HA.out, HB.out]; rfl, rfl⟩
      · obtain rfl : k = s.size := by omega
        have hd : ∀ c ∈ s.data.toList, isDig c := by
          have := HD.out
          unfold DigsTo at this
          rwa [List.take_of_length_le (by rw [sl_len]; omega)] at this
        have hn := num_loop_yes s (by omega) (by omega) HZ.out hd
        have HA := hidMO (numV_yes hn)
        have HB := hidMO (numT_yes hn)
        have hv := digsTo_val s s.size HD.out (by omega)
        rw [List.take_of_length_le (by rw [sl_len]; omega)] at hv ⊢
        clear hn hd HD
        generalize valL s.data.toList = v at *
        go_wp2
        go_ret2
        exact ⟨by rw [HA.out, HB.out]; rfl, rfl⟩
end Go.Proofs.YtddoemeellbhaaaGreatDoor
namespace Go.Proofs.YtddoemeellbhaaaGreatDoor
open Go.RowKit
def slash : ByteArray := ⟨#[47]⟩
/-- the parts between the slashes -/
def partsB (s : ByteArray) : List ByteArray := Lib.splitB slash 0 (Lib.countB s slash) s
theorem index_slash (x : ByteArray) : Lib.indexB x slash = Lib.indexByte x.data.toList 47 := Lib.index_one _ _
theorem count_slash (x : ByteArray) : Lib.countB x slash = Lib.countByte x.data.toList 47 := Lib.count_one _ _
theorem info9 : (Tryz.prog.info? 9).map (fun i => (i.zero, i.size, i.bytes)) = some (some (.string ByteArray.empty), 1, 16) := by kernel_rfl
theorem split_any (s : ByteArray) (w : World) (hs : s.size ≤ 200) :
    Calls Tryz.prog 121 #[.string s, .string slash] w fun e w' =>
      e = .returned (.slice (some ⟨w.heap.size, 0, none⟩) (partsB s).length (partsB s).length) ∧ w' = w.alloc (.cells ((partsB s).map Value.string).toArray 9) := by
  have hcl := Lib.countB_le slash (by decide) s.size s (Nat.le_refl _)
  have hlen := Lib.splitB_all slash (by decide) 0 _ s rfl
  have HG : Hid (Calls Tryz.prog 166 #[.string s, .string slash, .int .i64 0, .int .i64 (-1)] w fun e w' => e = .returned (.slice (some ⟨w.heap.size, 0, none⟩) (partsB s).length (partsB s).length) ∧ w' = w.alloc (.cells ((partsB s).map Value.string).toArray 9)) := by
    have c := Any.strings_genSplit_core Tryz.lays221 info9 s slash 0 (-1) (Lib.countB s slash + 1) w (by omega) (by decide) (Nat.zero_le _)
      (fun x c _ => by have h := Tryz.strings_Index_one x 47 (w.alloc (.cells c 9)); rw [← index_slash] at h; exact h)
      (by have h := Tryz.strings_Count_one s 47 w; rw [← count_slash] at h; exact h)
      (by decide) (by decide) (by rw [if_pos (by decide)]; omega)
    have hl : (partsB s).length = Lib.countB s slash + 1 := hlen
    refine c.mono fun e w' ⟨he, hw⟩ => ⟨?_, ?_⟩
    · rw [he]
      show Ending.returned (.slice _ (partsB s).length (Lib.countB s slash + 1)) = _
      rw [hl]
    · rw [hw]
      show w.alloc (.cells (Lib.cellsOf (partsB s) (Lib.countB s slash + 1)) 9) = _
      unfold Lib.cellsOf
      rw [hl]; simp
  clear hlen hcl
  generalize partsB s = ps at *
  unfold slash at *
  go_enter Tryz.func121, Tryz.ntmps121
  go_wp2_with fail
  refine HG.out.mono ?_
  rintro _ w1 ⟨rfl, rfl⟩
  go_wp2_with fail
  go_ret
  exact ⟨rfl, rfl⟩
/-- all bytes from 32 to 126 -/
def plainL (l : List UInt8) : Bool := l.all fun c => decide (32 ≤ c.toNat ∧ c.toNat ≤ 126)
theorem plain_no (s : ByteArray) (k : Nat) (h : k < s.size) (hc : ¬ (32 ≤ s[k].toNat ∧ s[k].toNat ≤ 126)) : plainL s.data.toList = false := by
  refine Bool.eq_false_iff.2 fun ht => hc ?_
  unfold plainL at ht
  rw [List.all_eq_true] at ht
  have := ht s[k] (by rw [show s[k] = s.data.toList[k]'(by rw [sl_len]; omega) from rfl]; exact List.getElem_mem _)
  simpa using this
set_option maxHeartbeats 1600000 in
theorem plain_any (s : ByteArray) (w : World) (hs : s.size ≤ 200) :
    Calls Tryz.prog 73 #[.string s] w fun e w' => e = .returned (.bool (plainL s.data.toList)) ∧ w' = w := by
  go_enter Tryz.func73, Tryz.ntmps73
  go_wp2
  go_loopw [3, 6] (fun _ i wr => ∃ (k : Nat), k ≤ s.size ∧ i = .int .i64 k ∧ plainL (s.data.toList.take k) = true ∧ wr = w) (fun _ i _ => s.size - (intOf i).toNat)
  case atStart => exact ⟨0, Nat.zero_le _, rfl, rfl, rfl⟩
  case round =>
    obtain ⟨k, hk, rfl, hd, rfl⟩ := hrel
    have HD := hidMO hd
    clear hd
    by_cases hlt : k < s.size
    · have kk : (k : Int) < (s.size : Int) := by omega
      obtain ⟨c, hcc⟩ : ∃ c, c = s[k].toNat := ⟨_, rfl⟩
      have r0 : (s[k].toNat : Int) = (c : Int) := by omega
      by_cases hc : 32 ≤ s[k].toNat ∧ s[k].toNat ≤ 126
      · have HN : Hid (plainL (s.data.toList.take (k + 1)) = true) := by
          unfold Hid
          rw [take_one s k hlt]
          unfold plainL
          rw [List.all_append, show (s.data.toList.take k).all (fun c => decide (32 ≤ c.toNat ∧ c.toNat ≤ 126)) = true from HD.out]
          simp [hc]
        rw [← hcc] at hc
        obtain ⟨hc1, hc2⟩ := hc
        clear hcc
        have q1 : decide ((c : Int) < 32) = false := by simp; omega
        have q2 : decide ((126 : Int) < (c : Int)) = false := by simp; omega
        go_wp2
        go_roundw
        case rel => exact ⟨k + 1, by omega, by go_num, HN.out, trivial⟩
        case measure => (show s.size - ((k : Int) + 1).toNat < s.size - ((k : Int)).toNat); omega
      · have HF := hidMO (plain_no s k hlt hc)
        rw [← hcc] at hc
        clear hcc
        by_cases hc1 : c < 32
        · have q1 : decide ((c : Int) < 32) = true := by simp; omega
          go_wp2
          go_ret
          exact ⟨by rw [HF.out]; rfl, rfl⟩
        · have q1 : decide ((c : Int) < 32) = false := by simp; omega
          have q2 : decide ((126 : Int) < (c : Int)) = true := by simp; omega
          go_wp2
          go_ret
          exact ⟨by rw [HF.out]; rfl, rfl⟩
    · obtain rfl : k = s.size := by omega
      have HF : Hid (plainL s.data.toList = true) := by
        have := HD.out
        rwa [List.take_of_length_le (by rw [sl_len]; omega)] at this
      go_wp2
      go_ret
      exact ⟨by rw [HF.out]; rfl, rfl⟩
/-- can each part be a name? -/
def partOk (p : List UInt8) : Bool := !(p == []) && !(p == [46]) && !(p == [46, 46])
def wholeL (ps : List ByteArray) : Bool := ps.all fun p => partOk p.data.toList
set_option maxHeartbeats 1600000 in
theorem whole_any (s : ByteArray) (w : World) (hs : s.size ≤ 200) :
    Calls Tryz.prog 74 #[.string s] w fun e w' => e = .returned (.bool (wholeL (partsB s))) ∧ Below w.heap.size w w' := by
  have HSP := hidMO (split_any s w hs)
  have hpl : (partsB s).length ≤ 201 := by
    have := Lib.splitB_length_le slash 0 (Lib.countB s slash) s
    have h2 := Lib.countB_le slash (by decide) s.size s (Nat.le_refl _)
    unfold partsB; omega
  generalize partsB s = ps at *
  unfold slash at *
  go_enter Tryz.func74, Tryz.ntmps74
  go_wp2_with fail
  refine HSP.out.mono ?_
  rintro _ w1 ⟨rfl, rfl⟩
  have HC : Hid (∀ j (h : j < ps.length), (w.alloc (.cells (ps.map Value.string).toArray 9)).cell? ⟨w.heap.size, j, none⟩ = some (.string ps[j])) := by
    intro j h
    rw [World.cell?_alloc_mark w _ 9 (0, 0) j]
    simp [h]
  have HB : Hid (Below w.heap.size w (w.alloc (.cells (ps.map Value.string).toArray 9))) := (Below.refl _ _).alloc (Nat.le_refl _) _
  generalize w.alloc (.cells (ps.map Value.string).toArray 9) = W at *
  go_wp2
  go_loopw [4, 8] (fun _ i wr => ∃ (k : Nat), k ≤ ps.length ∧ i = .int .i64 k ∧ wholeL (ps.take k) = true ∧ wr = W) (fun _ i _ => ps.length - (intOf i).toNat)
  case atStart => exact ⟨0, Nat.zero_le _, rfl, rfl, rfl⟩
  case round =>
    obtain ⟨k, hk, rfl, hd, rfl⟩ := hrel
    have HD := hidMO hd
    clear hd
    by_cases hlt : k < ps.length
    · have kk : (k : Int) < (ps.length : Int) := by omega
      have hc := HC.out k hlt
      by_cases hp : partOk ps[k].data.toList = true
      · have HN : Hid (wholeL (ps.take (k + 1)) = true) := by
          unfold Hid
          rw [List.take_succ_eq_append_getElem hlt]
          unfold wholeL
          rw [List.all_append, show (ps.take k).all (fun p => partOk p.data.toList) = true from HD.out]
          simp [hp]
        obtain ⟨⟨p1, p2⟩, p3⟩ : (ps[k].data.toList ≠ [] ∧ ps[k].data.toList ≠ [46]) ∧ ps[k].data.toList ≠ [46, 46] := by simpa [partOk] using hp
        rw [← ByteArray.toList_eq] at p1 p2 p3
        generalize ps[k] = X at *
        have e1 : X.toList.isEmpty = false := by cases h : X.toList <;> simp_all
        have e2 : (X.toList == [46]) = false := beq_false_of_ne p2
        have e3 : (X.toList == [46, 46]) = false := beq_false_of_ne p3
        clear p2 p3 hp
        go_wp2
        go_roundw
        case rel => exact ⟨k + 1, by omega, by go_num, HN.out, trivial⟩
        case measure => (show ps.length - ((k : Int) + 1).toNat < ps.length - ((k : Int)).toNat); omega
      · have HF : Hid (wholeL ps = false) := by
          refine Bool.eq_false_iff.2 fun ht => hp ?_
          unfold wholeL at ht
          rw [List.all_eq_true] at ht
          exact ht _ (List.getElem_mem _)
        generalize ps[k] = X at *
        by_cases h1 : X.toList = []
        · clear hp
          go_wp2
          go_ret
          exact ⟨by rw [HF.out]; rfl, HB.out⟩
        have e1 : X.toList.isEmpty = false := by cases h : X.toList <;> simp_all
        by_cases h2 : X.toList = [46]
        · have e2 : (X.toList == [46]) = true := by rw [h2]; rfl
          clear hp h2
          go_wp2
          go_ret
          exact ⟨by rw [HF.out]; rfl, HB.out⟩
        have e2 : (X.toList == [46]) = false := beq_false_of_ne h2
        by_cases h3 : X.toList = [46, 46]
        · have e3 : (X.toList == [46, 46]) = true := by rw [h3]; rfl
          clear hp h2 h3
          go_wp2
          go_ret
          exact ⟨by rw [HF.out]; rfl, HB.out⟩
        · rw [ByteArray.toList_eq] at h1 h2 h3
          exact absurd (by unfold partOk; rw [beq_false_of_ne h1, beq_false_of_ne h2, beq_false_of_ne h3]; rfl) hp
    · obtain rfl : k = ps.length := by omega
      have HF : Hid (wholeL ps = true) := by
        have := HD.out
        rwa [List.take_of_length_le (Nat.le_refl _)] at this
      go_wp2
      go_ret
      exact ⟨by rw [HF.out]; rfl, HB.out⟩
/-- is it a path? -/
def cleanB (s : ByteArray) : Bool := decide (s.size ≤ 200) && plainL s.data.toList && wholeL (partsB s)
set_option maxHeartbeats 1600000 in
theorem clean_any (s : ByteArray) (w : World) :
    Calls Tryz.prog 34 #[.string s] w fun e w' => e = .returned (.bool (cleanB s)) ∧ Below w.heap.size w w' := by
  by_cases hs : s.size ≤ 200
  · have g : decide ((s.size : Int) ≤ 200) = true := by simp; omega
    have HP := hidMO (fun W => plain_any s W hs)
    have HW := hidMO (fun W => whole_any s W hs)
    have HC : Hid (cleanB s = (plainL s.data.toList && wholeL (partsB s))) := by unfold Hid cleanB; simp [hs]
    generalize plainL s.data.toList = A at *
    generalize wholeL (partsB s) = B at *
    cases A
    · go_enter Tryz.func34, Tryz.ntmps34
      go_wp2_with fail
      refine (HP.out _).mono ?_
      rintro _ w1 ⟨rfl, rfl⟩
      go_wp2_with fail
      go_ret
      exact ⟨by rw [HC.out]; rfl, Below.refl _ _⟩
    · go_enter Tryz.func34, Tryz.ntmps34
      go_wp2_with fail
      refine (HP.out _).mono ?_
      rintro _ w1 ⟨rfl, rfl⟩
      go_wp2_with fail
      refine (HW.out _).mono ?_
      rintro _ w1 ⟨rfl, hb⟩
      go_wp2_with fail
      go_ret
      exact ⟨by rw [HC.out]; rfl, hb⟩
  · have g : decide ((s.size : Int) ≤ 200) = false := by simp; omega
    have HC : Hid (cleanB s = false) := by unfold Hid cleanB; simp [hs]
    go_enter Tryz.func34, Tryz.ntmps34
    go_wp2_with fail
    go_ret
    exact ⟨by rw [HC.out]; rfl, Below.refl _ _⟩
end Go.Proofs.YtddoemeellbhaaaGreatDoor
namespace Go.Proofs.YtddoemeellbhaaaGreatDoor
open Go.RowKit
/-- a file: its path and its bytes -/
abbrev FileB := ByteArray × ByteArray
def FilesAt (w : World) (b off : Nat) (fs : List FileB) : Prop := ∀ i (h : i < fs.length), w.cell? ⟨b, off + i * 2, none⟩ = some (.string fs[i].1) ∧ w.cell? ⟨b, off + i * 2 + 1, none⟩ = some (.string fs[i].2)
def sizeF (fs : List FileB) : Nat := (fs.map fun f => f.2.size).sum
theorem FilesAt.below {w w' : World} {b off B : Nat} {fs : List FileB} (h : FilesAt w b off fs) (hb : Below B w w') (hB : b < B) : FilesAt w' b off fs := fun i hi =>
  ⟨(hb.cell (p := ⟨b, off + i * 2, none⟩) hB).trans (h i hi).1, (hb.cell (p := ⟨b, off + i * 2 + 1, none⟩) hB).trans (h i hi).2⟩
theorem sizeF_take (fs : List FileB) (k : Nat) (h : k < fs.length) : sizeF (fs.take (k + 1)) = sizeF (fs.take k) + fs[k].2.size := by
  unfold sizeF
  rw [List.take_succ_eq_append_getElem h, List.map_append, List.sum_append]; simp
theorem sizeF_le (fs : List FileB) (k : Nat) : sizeF (fs.take k) ≤ sizeF fs := by
  have : sizeF fs = sizeF (fs.take k) + sizeF (fs.drop k) := by
    unfold sizeF
    rw [← List.sum_append, ← List.map_append, List.take_append_drop]
  omega
set_option maxHeartbeats 1600000 in
theorem size_at (b off c : Nat) (fs : List FileB) (w : World) (hb : b < w.heap.size) (hf : FilesAt w b off fs) (hs : sizeF fs ≤ 4611686018427387904) (hl : fs.length ≤ 1000000) :
    Calls Tryz.prog 33 #[.slice (some ⟨b, off, none⟩) fs.length c] w fun e w' => e = .returned (.int .i64 (sizeF fs : Nat)) ∧ Below w.heap.size w w' := by
  have HF := hidMO hf
  clear hf
  go_enter Tryz.func33, Tryz.ntmps33
  go_wp2
  go_loopw [3, 5, 8] (fun v _ i wr => ∃ (k : Nat), k ≤ fs.length ∧ i = .int .i64 k ∧ v = .int .i64 (sizeF (fs.take k) : Nat) ∧ Below w.heap.size w wr) (fun _ _ i _ => fs.length - (intOf i).toNat)
  case atStart => exact ⟨0, Nat.zero_le _, rfl, rfl, Below.refl _ _⟩
  case round =>
    obtain ⟨k, hk, rfl, rfl, hb2⟩ := hrel
    have HB := hidMO hb2
    clear hb2
    by_cases hlt : k < fs.length
    · have kk : (k : Int) < (fs.length : Int) := by omega
      have hc1 := (HF.out.below HB.out hb k hlt).1
      have hc2 := (HF.out.below HB.out hb k hlt).2
      have HT := hidMO (sizeF_take fs k hlt)
      have h1 := sizeF_le fs k
      have h2 := sizeF_le fs (k + 1)
      rw [HT.out] at h2
      generalize sizeF (fs.take k) = S at *
      generalize fs[k].1 = P at *
      generalize fs[k].2 = D at *
      go_wp2
      go_roundw
      case rel => exact ⟨k + 1, by omega, by go_num, by rw [HT.out]; go_num, HB.out.alloc HB.out.size _⟩
      case measure => (show fs.length - ((k : Int) + 1).toNat < fs.length - ((k : Int)).toNat); omega
    · obtain rfl : k = fs.length := by omega
      rw [List.take_of_length_le (Nat.le_refl _)]
      go_wp2
      go_ret
      exact ⟨rfl, HB.out⟩
end Go.Proofs.YtddoemeellbhaaaGreatDoor
namespace Go.Proofs.YtddoemeellbhaaaGreatDoor
open Go.RowKit
def fileV (f : FileB) : Value := .agg #[.string f.1, .string f.2]
set_option maxHeartbeats 1600000 in
theorem newCmp_any (f g : FileB) (w : World) :
    Calls Tryz.prog 37 #[fileV f, fileV g] w fun e w' => e = .returned (.int .i64 (Lib.compareBytes f.1.data.toList g.1.data.toList)) ∧ w' = (w.alloc (.cells #[.string f.1, .string f.2] 48)).alloc (.cells #[.string g.1, .string g.2] 48) := by
  unfold fileV
  go_enter Tryz.func37, Tryz.ntmps37
  go_wp2_with fail
  refine (Tryz.strings_Compare f.1 g.1 _).mono ?_
  rintro _ w1 ⟨rfl, rfl⟩
  go_wp2_with fail
  go_ret
  exact ⟨rfl, rfl⟩
theorem placeCmp_any (f : FileB) (p : ByteArray) (w : World) :
    Calls Tryz.prog 141 #[fileV f, .string p] w fun e w' => e = .returned (.int .i64 (Lib.compareBytes f.1.data.toList p.data.toList)) ∧ w' = (w.alloc (.cells #[.string f.1, .string f.2] 48)) := by
  unfold fileV
  go_enter Tryz.func141, Tryz.ntmps141
  go_wp2_with fail
  refine (Tryz.strings_Compare f.1 p _).mono ?_
  rintro _ w1 ⟨rfl, rfl⟩
  go_wp2_with fail
  go_ret
  exact ⟨rfl, rfl⟩
/-- how a file's path stands to p -/
def cmpP (p : ByteArray) (f : FileB) : Int := Lib.compareBytes f.1.data.toList p.data.toList
/-- where p stands, or would stand -/
structure Spot (fs : List FileB) (p : ByteArray) (i : Nat) : Prop where
  le : i ≤ fs.length
  lo : ∀ t (h : t < fs.length), t < i → cmpP p fs[t] < 0
  hi : ∀ t (h : t < fs.length), i ≤ t → 0 ≤ cmpP p fs[t]
/-- rising by paths, as far as p can tell -/
def Mono (fs : List FileB) (p : ByteArray) : Prop := ∀ a b (hb : b < fs.length) (h : a ≤ b), cmpP p fs[b] < 0 → cmpP p (fs[a]'(Nat.lt_of_le_of_lt h hb)) < 0
def thereB (fs : List FileB) (p : ByteArray) (i : Nat) : Bool := match fs[i]? with | some f => cmpP p f == 0 | none => false
set_option maxHeartbeats 3200000 in
theorem bsearch_at (b off c : Nat) (fs : List FileB) (p : ByteArray) (w : World) (hb : b < w.heap.size) (hf : FilesAt w b off fs) (hl : fs.length ≤ 1000000) (hm : Mono fs p) :
    Calls Tryz.prog 140 #[.slice (some ⟨b, off, none⟩) fs.length c, .string p, .func (.func 141) #[] #[]] w fun e w' => (∃ i, Spot fs p i ∧ e = .returned (.tuple #[.int .i64 (i : Nat), .bool (thereB fs p i)])) ∧ Below w.heap.size w w' := by
  have HF := hidMO hf
  have HM := hidMO hm
  have HP := hidMO (fun f W => placeCmp_any f p W)
  clear hf hm
  go_enter Tryz.func140, Tryz.ntmps140
  go_wp2_with fail
  go_loopw [9, 10, 11] (fun x y _ wr => ∃ (i j : Nat), i ≤ j ∧ j ≤ fs.length ∧ x = .int .i64 i ∧ y = .int .i64 j ∧ (∀ t (h : t < fs.length), t < i → cmpP p fs[t] < 0) ∧ (∀ t (h : t < fs.length), j ≤ t → 0 ≤ cmpP p fs[t]) ∧ Below w.heap.size w wr) (fun x y _ _ => (intOf y).toNat - (intOf x).toNat)
  case atStart => exact ⟨0, fs.length, Nat.zero_le _, Nat.le_refl _, rfl, rfl, fun t _ ht => by omega, fun t h ht => by omega, Below.refl _ _⟩
  case round =>
    obtain ⟨i, j, hij, hj, rfl, rfl, hlo, hhi, hb2⟩ := hrel
    have HLO := hidMO hlo
    have HHI := hidMO hhi
    have HB := hidMO hb2
    clear hlo hhi hb2
    by_cases hlt : i < j
    · have kk : (i : Int) < (j : Int) := by omega
      obtain ⟨h, hh⟩ : ∃ h, h = (i + j) / 2 := ⟨_, rfl⟩
      have h1 : i ≤ h := by omega
      have h2 : h < j := by omega
      have r1 : ((i : Int) + (j : Int)) / 2 = (h : Int) := by omega
      have hlen : h < fs.length := by omega
      have kl : (h : Int) < (fs.length : Int) := by omega
      have hc1 := (HF.out.below HB.out hb h hlen).1
      have hc2 := (HF.out.below HB.out hb h hlen).2
      have HCM : Hid (∀ W, Calls Tryz.prog 141 #[.agg #[.string fs[h].1, .string fs[h].2], .string p] W fun e w' => e = .returned (.int .i64 (cmpP p fs[h])) ∧ w' = W.alloc (.cells #[.string fs[h].1, .string fs[h].2] 48)) := HP.out fs[h]
      clear hh
      by_cases hneg : cmpP p fs[h] < 0
      · have HN : Hid (∀ t (hx : t < fs.length), t < h + 1 → cmpP p fs[t] < 0) := fun t hx ht => HM.out t h hlen (by omega) hneg
        generalize hcm : cmpP p fs[h] = cm at *
        generalize fs[h].1 = P at *
        generalize fs[h].2 = D at *
        have g : decide (cm < 0) = true := by simp; exact hneg
        go_wp2_with fail
        refine (HCM.out _).mono ?_
        rintro _ w2 ⟨rfl, rfl⟩
        go_wp2_with fail
        go_roundw
        case rel => exact ⟨h + 1, j, by omega, by omega, by go_num, rfl, HN.out, HHI.out, HB.out.alloc HB.out.size _⟩
        case measure => (show ((j : Nat) : Int).toNat - ((h : Int) + 1).toNat < ((j : Nat) : Int).toNat - ((i : Nat) : Int).toNat); omega
      · have HN : Hid (∀ t (hx : t < fs.length), h ≤ t → 0 ≤ cmpP p fs[t]) := fun t hx ht => by
          refine Classical.byContradiction fun hn => hneg ?_
          exact HM.out h t hx ht (by omega)
        generalize hcm : cmpP p fs[h] = cm at *
        generalize fs[h].1 = P at *
        generalize fs[h].2 = D at *
        have g : decide (cm < 0) = false := by simp; omega
        go_wp2_with fail
        refine (HCM.out _).mono ?_
        rintro _ w2 ⟨rfl, rfl⟩
        go_wp2_with fail
        go_roundw
        case rel => exact ⟨i, h, by omega, by omega, rfl, rfl, HLO.out, HN.out, HB.out.alloc HB.out.size _⟩
        case measure => (show ((h : Nat) : Int).toNat - ((i : Nat) : Int).toNat < ((j : Nat) : Int).toNat - ((i : Nat) : Int).toNat); omega
    · obtain rfl : i = j := by omega
      have HSP : Hid (Spot fs p i) := ⟨hj, HLO.out, HHI.out⟩
      by_cases hlen : i < fs.length
      · have kl : (i : Int) < (fs.length : Int) := by omega
        have hc1 := (HF.out.below HB.out hb i hlen).1
        have hc2 := (HF.out.below HB.out hb i hlen).2
        have HCM : Hid (∀ W, Calls Tryz.prog 141 #[.agg #[.string fs[i].1, .string fs[i].2], .string p] W fun e w' => e = .returned (.int .i64 (cmpP p fs[i])) ∧ w' = W.alloc (.cells #[.string fs[i].1, .string fs[i].2] 48)) := HP.out fs[i]
        have HTH : Hid (thereB fs p i = (cmpP p fs[i] == 0)) := by unfold Hid thereB; rw [List.getElem?_eq_getElem hlen]
        generalize cmpP p fs[i] = cm at *
        generalize fs[i].1 = P at *
        generalize fs[i].2 = D at *
        go_wp2_with fail
        refine (HCM.out _).mono ?_
        rintro _ w2 ⟨rfl, rfl⟩
        go_wp2_with fail
        go_ret2
        exact ⟨⟨i, HSP.out, by rw [HTH.out]; rfl⟩, HB.out.alloc HB.out.size _⟩
      · obtain rfl : i = fs.length := by omega
        have HTH : Hid (thereB fs p fs.length = false) := by unfold Hid thereB; rw [List.getElem?_eq_none (Nat.le_refl _)]
        go_wp2_with fail
        go_ret2
        exact ⟨⟨fs.length, HSP.out, by rw [HTH.out]; rfl⟩, HB.out⟩
end Go.Proofs.YtddoemeellbhaaaGreatDoor

/-
  The document's Tokens of a line.
-/
import Derived.Test.YtgkjmmfpbcgmgaaDoorRcA
import Derived.Test.YtgkjmmfpbcgmgaaDoorPthH
namespace Go.Proofs.YtgkjmmfpbcgmgaaDoor
open Go.RowKit

theorem tokL_of {c : UInt8} {r : List UInt8} (h1 : remB (c :: r) = false) (h2 : blkB c = false) : tokL (c :: r) = tokS (c :: r) := by
  unfold tokL
  rw [skipL, if_neg (by rw [h1]; simp), if_neg (by rw [h2]; simp)]
theorem toks_nil : toksL [] = some [] := by decide
theorem toks_blank {c : UInt8} (hc : blkB c = true) (r : List UInt8) : toksL (c :: r) = toksL r := by
  have h47 : c ≠ 47 := fun e => by rw [e] at hc; exact absurd hc (by decide)
  have ht : tokL (c :: r) = tokL r := by
    unfold tokL
    rw [skipL, if_neg (by simp [remB, h47]), if_pos hc]
  rw [toks_eq (c :: r), toks_eq r, ht]
theorem toks_rem {c : UInt8} {r : List UInt8} (h : remB (c :: r) = true) (h10 : 10 ∉ r) : toksL (c :: r) = some [] := by
  have ht : tokL (c :: r) = (1, [], []) := by
    unfold tokL
    rw [skipL, if_pos h, skip_true r h10]
    rfl
  rw [toks_eq, ht]; rfl
theorem toks_mark {c : UInt8} {r : List UInt8} (h : c = 40 ∨ c = 41) : toksL (c :: r) = (toksL r).map ((if c = 40 then 3 else 4, []) :: ·) := by
  have hr : remB (c :: r) = false := by rcases h with rfl | rfl <;> simp [remB]
  have hb : blkB c = false := by rcases h with rfl | rfl <;> decide
  have ht : tokL (c :: r) = (if c = 40 then 3 else 4, [], r) := by
    rw [tokL_of hr hb]
    rcases h with rfl | rfl <;> simp [tokS]
  rw [toks_eq, ht]
  rcases h with rfl | rfl <;> rfl
theorem toks_quo (r : List UInt8) : toksL (34 :: r) = (quoL r).bind fun x => (toksL x.2).map ((5, x.1) :: ·) := by
  have ht : tokL (34 :: r) = (match quoL r with | some (s, t) => (5, s, t) | none => (6, [], [])) := by
    rw [tokL_of (by simp [remB]) (by decide)]
    simp only [tokS]
    cases quoL r <;> rfl
  rw [toks_eq, ht]
  cases quoL r with
  | none => rfl
  | some x => rfl
theorem toks_raw (r : List UInt8) : toksL (96 :: r) = (rawL r).bind fun n => (toksL (r.drop (n + 1))).map ((5, r.take n) :: ·) := by
  have ht : tokL (96 :: r) = (match rawL r with | some n => (5, r.take n, r.drop (n + 1)) | none => (6, [], [])) := by
    rw [tokL_of (by simp [remB]) (by decide)]
    simp only [tokS]
    cases rawL r <;> rfl
  rw [toks_eq, ht]
  cases rawL r with
  | none => rfl
  | some x => rfl
theorem toks_word {c : UInt8} {r : List UInt8} (hw : wEnd (c :: r) = false) : toksL (c :: r) = (toksL ((c :: r).drop (wordN (c :: r)))).map ((5, (c :: r).take (wordN (c :: r))) :: ·) := by
  have hn : wordN (c :: r) = wordN r + 1 := by rw [wordN, hw]; rfl
  have hw2 := hw
  rw [wEnd] at hw
  simp only [Bool.or_eq_false_iff, beq_eq_false_iff_ne, ne_eq] at hw
  obtain ⟨⟨⟨⟨⟨⟨h10, hb⟩, h40⟩, h41⟩, h34⟩, h96⟩, hr⟩ := hw
  have ht : tokL (c :: r) = (5, c :: r.take (wordN r), r.drop (wordN r)) := by
    rw [tokL_of hr hb, tokS, if_neg h10, if_neg h40, if_neg h41, if_neg h34, if_neg h96]
  rw [toks_eq, ht, hn]
  rfl
theorem raw_idx : ∀ r : List UInt8, 10 ∉ r → Lib.indexByte r 96 = match rawL r with | none => -1 | some n => (n : Int)
  | [], _ => rfl
  | c :: r, h => by
    have ih := raw_idx r (fun e => h (by simp [e]))
    unfold Lib.indexByte
    rw [rawL]
    by_cases hc : c = 96
    · rw [if_pos (by simp [hc]), if_pos hc]; rfl
    · rw [if_neg (by simp [hc]), if_neg hc, if_neg (show ¬ c = 10 from fun e => h (by simp [e])), ih]
      cases rawL r with
      | none => rfl
      | some n => simp
theorem mnt_idx (d : UInt8) : (d = 34 ∧ Lib.indexByte [34, 92, 110, 116] d = 0 ∧ mntL d = some 34) ∨ (d = 92 ∧ Lib.indexByte [34, 92, 110, 116] d = 1 ∧ mntL d = some 92) ∨ (d = 110 ∧ Lib.indexByte [34, 92, 110, 116] d = 2 ∧ mntL d = some 10) ∨ (d = 116 ∧ Lib.indexByte [34, 92, 110, 116] d = 3 ∧ mntL d = some 9) ∨ (Lib.indexByte [34, 92, 110, 116] d = -1 ∧ mntL d = none) := by
  by_cases h1 : d = 34
  · subst h1; exact .inl ⟨rfl, rfl, rfl⟩
  by_cases h2 : d = 92
  · subst h2; exact .inr (.inl ⟨rfl, rfl, rfl⟩)
  by_cases h3 : d = 110
  · subst h3; exact .inr (.inr (.inl ⟨rfl, rfl, rfl⟩))
  by_cases h4 : d = 116
  · subst h4; exact .inr (.inr (.inr (.inl ⟨rfl, rfl, rfl⟩)))
  · refine .inr (.inr (.inr (.inr ⟨index_none d _ (by simp [h1, h2, h3, h4]), ?_⟩)))
    unfold mntL; simp [h1, h2, h3, h4]
theorem wEnd_idx (c : UInt8) (r : List UInt8) (h10 : c ≠ 10) : wEnd (c :: r) = (decide (0 ≤ Lib.indexByte [32, 9, 13, 40, 41, 34] c) || c == 96 || remB (c :: r)) := by
  rw [wEnd, idx_cont]
  unfold blkB
  simp only [List.contains_cons, List.contains_nil, Bool.or_false]
  rw [beq_false_of_ne h10]
  cases (c == 32) <;> cases (c == 9) <;> cases (c == 13) <;> cases (c == 40) <;> cases (c == 41) <;> cases (c == 34) <;> simp
set_option maxHeartbeats 1000000 in
theorem begins_any (X : ByteArray) (w : World) : Calls Tryd.prog 42 #[.string X, .string ⟨#[47, 47]⟩] w fun e w' => e = .returned (.bool (remB X.data.toList)) ∧ w' = w := by
  by_cases h : 2 ≤ X.size
  · have c1 : (2 : Int) ≤ (X.size : Int) := by omega
    obtain ⟨Y, hY⟩ : ∃ Y, X.extract 0 2 = Y := ⟨_, rfl⟩
    have HR : Hid (remB X.data.toList = (Y.toList == [47, 47])) := by
      unfold Hid remB
      rw [← hY, Lib.toList_data, ext_head]
    clear h
    go_enter Tryd.func42, Tryd.ntmps42
    go_wp2
    go_ret
    exact ⟨by rw [HR.out]; rfl, rfl⟩
  · have c1 : ¬ (2 : Int) ≤ (X.size : Int) := by omega
    have HR : Hid (remB X.data.toList = false) := by
      unfold Hid remB
      rw [beq_eq_false_iff_ne]
      intro e
      have := congrArg List.length e
      simp at this
      omega
    clear h
    go_enter Tryd.func42, Tryd.ntmps42
    go_wp2
    go_ret
    exact ⟨by rw [HR.out]; rfl, rfl⟩
def txtT (t : To) : ByteArray := if t.1 = 5 then ⟨(46 :: t.2).toArray⟩ else if t.1 = 3 then ⟨#[40]⟩ else ⟨#[41]⟩
theorem wrap_i {n : Nat} (h : n ≤ 1000000) : IntKind.i64.wrap (n : Int) = (n : Int) := by
  rw [IntKind.wrap_i64]; omega
def TokPost (s : ByteArray) (w : World) (e : Ending) (w' : World) : Prop :=
  Below w.heap.size w w' ∧ match toksL s.data.toList with
    | none => e = .returned (.tuple #[.slice none 0 0, .bool false])
    | some T => ∃ v, e = .returned (.tuple #[v, .bool true]) ∧ OwnS w' w.heap.size v (T.map txtT)
theorem own_none (w : World) : OwnS (w.alloc (.cells #[] 9)) w.heap.size (.slice (some ⟨w.heap.size, 0, none⟩) 0 0) [] :=
  ⟨by simp [strsV], .inr ⟨w.heap.size, 0, #[], rfl, Nat.le_refl _, heap_alloc_new w _, Nat.le_refl _, by simp [maxLen], rfl, rfl⟩⟩
theorem rest_mem {s : ByteArray} {t : Nat} (h : 10 ∉ s.data.toList) : 10 ∉ restL s t := fun e => h (List.mem_of_mem_drop e)
theorem ext_rest (s : ByteArray) (t : Nat) : (s.extract t s.size).data.toList = restL s t := ext_tail s t
theorem ext_mid (s : ByteArray) (a b : Nat) : (s.extract a b).data.toList = (restL s a).take (b - a) := Lib.extract_data s a b
theorem rest_add (s : ByteArray) (a b : Nat) : restL s (a + b) = (restL s a).drop b := by unfold restL; rw [List.drop_drop]
theorem isS {w : World} {B : Nat} {v : Value} {l : List ByteArray} (h : OwnS w B v l) : ∃ a c, v = .slice a l.length c := by
  obtain ⟨a, c, h1, _⟩ := h.shape
  exact ⟨a, c, h1⟩
theorem toks_len : ∀ (f : Nat) (l : List UInt8) (T : List To), toksG f l = some T → l.length < f → T.length ≤ l.length
  | 0, l, T, h, _ => by cases h
  | f + 1, l, T, h, hf => by
    rw [toksG] at h
    split at h
    · simp at h; subst h; simp
    · split at h
      · cases h
      · rename_i h1 h6
        have hl := tok_less (l := l) (fun e => h1 (.inl e)) h6
        cases hr : toksG f (tokL l).2.2 with
        | none => rw [hr] at h; cases h
        | some T' =>
          rw [hr] at h
          simp at h
          subst h
          have := toks_len f _ T' hr (by omega)
          simp; omega
set_option maxHeartbeats 8000000 in
set_option maxRecDepth 100000 in
theorem tokens_any (s : ByteArray) (w : World) (hs : s.size ≤ 100000) (h10 : 10 ∉ s.data.toList) : Calls Tryd.prog 23 #[.string s] w fun e w' => TokPost s w e w' := by
  obtain ⟨i0, hi, hz0, hz1, hz2⟩ := info_parts info9
  have H10 := hidM h10
  clear h10
  have HFIN : Hid (∀ e W, Below w.heap.size w W → toksL s.data.toList = none → e = .returned (.tuple #[.slice none 0 0, .bool false]) → TokPost s w e W) := by
    intro e W hb h he
    unfold TokPost
    rw [h]
    exact ⟨hb, he⟩
  have HYES : Hid (∀ e W v T, Below w.heap.size w W → toksL s.data.toList = some T → OwnS W w.heap.size v (T.map txtT) → e = .returned (.tuple #[v, .bool true]) → TokPost s w e W) := by
    intro e W v T hb h ho he
    unfold TokPost
    rw [h]
    exact ⟨hb, v, he, ho⟩
  go_enter Tryd.func23, Tryd.ntmps23
  go_upto_region 2 with fail
  have HO0 := hidM (own_none w)
  have HB0 : Hid (Below w.heap.size w (w.alloc (.cells #[] 9))) := (Below.refl _ _).alloc (Nat.le_refl _) _
  generalize w.alloc (.cells #[] 9) = W0 at *
  go_wp2_with fail
  go_loopw [4, 5] (fun v4 v5 wr => ∃ (i : Nat) (P : List To), i ≤ s.size ∧ v5 = .int .i64 (i : Int) ∧ P.length ≤ i ∧ OwnS wr w.heap.size v4 (P.map txtT) ∧ Below w.heap.size w wr ∧ toksL s.data.toList = (toksL (restL s i)).map (P ++ ·)) (fun _ v5 _ => s.size - (intOf v5).toNat)
  case atStart => exact ⟨0, [], Nat.zero_le _, rfl, Nat.le_refl _, HO0.out, HB0.out, by simp [restL]⟩
  case round =>
    obtain ⟨i, P, hil, rfl, hPi, hown, hbr, hinv⟩ := hrel
    obtain ⟨PB, hPB⟩ : ∃ PB, PB = P.map txtT := ⟨_, rfl⟩
    rw [← hPB] at hown
    have hPBl : PB.length ≤ i := by rw [hPB, List.length_map]; exact hPi
    have HPB := hidM hPB
    clear hPB
    have HO := hidM hown
    have HB := hidM hbr
    have HINV := hidM hinv
    have hsz := hbr.size
    clear hown hbr hinv HO0 HB0
    cases hrest : restL s i with
    | nil =>
      have hi2 := rest_nil hrest hil
      have ii : ¬ (i : Int) < (s.size : Int) := by omega
      have HT : Hid (toksL s.data.toList = some P) := by unfold Hid; rw [HINV.out, hrest, toks_nil]; simp
      clear hrest hi2
      go_wp2_with fail
      go_ret2
      exact HYES.out _ _ _ _ HB.out HT.out (by rw [← HPB.out]; exact HO.out) rfl
    | cons c r =>
      obtain ⟨hlt, hcs, hnext⟩ := rest_cons hrest
      have ii : (i : Int) < (s.size : Int) := by omega
      have hc10 : c ≠ 10 := fun e => rest_mem (t := i) H10.out (by rw [hrest, e]; simp)
      have hr10 : 10 ∉ r := fun e => rest_mem (t := i) H10.out (by rw [hrest]; simp [e])
      have HR10 := hidM hr10
      have HC10 := hidM hc10
      rw [hrest] at HINV
      have HRS := hidM hrest
      have HNX := hidM hnext
      have hcv : ((s[i].toNat : Nat) : Int) = (c.toNat : Int) := by rw [hcs]
      clear hrest hnext hr10 hc10
      have cc := c.toNat_lt
      have q32 : ((c.toNat : Int) == 32) = (c == 32) := u8_eq c 32 (by omega)
      have q9 : ((c.toNat : Int) == 9) = (c == 9) := u8_eq c 9 (by omega)
      have q13 : ((c.toNat : Int) == 13) = (c == 13) := u8_eq c 13 (by omega)
      have q40 : ((c.toNat : Int) == 40) = (c == 40) := u8_eq c 40 (by omega)
      have q41 : ((c.toNat : Int) == 41) = (c == 41) := u8_eq c 41 (by omega)
      have q34 : ((c.toNat : Int) == 34) = (c == 34) := u8_eq c 34 (by omega)
      have q96 : ((c.toNat : Int) == 96) = (c == 96) := u8_eq c 96 (by omega)
      have t0 : IntKind.i64.wrap (i : Int) = (i : Int) := wrap_i (by omega)
      have s1 : (0 : Int) ≤ (i : Int) := by omega
      have s2 : (i : Int) ≤ (s.size : Int) := by omega
      obtain ⟨SX, hSX⟩ : ∃ X, s.extract i s.size = X := ⟨_, rfl⟩
      have HBG : Hid (∀ V, Calls Tryd.prog 42 #[.string SX, .string ⟨#[47, 47]⟩] V fun e w' => e = .returned (.bool (remB (c :: r))) ∧ w' = V) := by
        intro V
        have := begins_any SX V
        rw [← hSX, ext_rest, HRS.out] at this
        rw [← hSX]
        exact this
      by_cases hblk : blkB c = true
      · as_aux_lemma =>
          unfold blkB at hblk
          have HT : Hid (toksL (c :: r) = toksL r) := toks_blank hblk r
          have HI2 : Hid (toksL s.data.toList = (toksL (restL s (i + 1))).map (P ++ ·)) := by unfold Hid; rw [HINV.out, HT.out, HNX.out]
          clear HT HINV HBG
          cases h1 : (c == 32)
          · cases h2 : (c == 9)
            · have h3 : (c == 13) = true := by rw [h1, h2] at hblk; simpa using hblk
              rw [h1] at q32
              rw [h2] at q9
              rw [h3] at q13
              clear h1 h2 h3 hblk
              go_wp2
              go_roundw
              case rel => exact ⟨i + 1, P, by omega, by go_num, by omega, by rw [← HPB.out]; exact HO.out, HB.out, HI2.out⟩
              case measure => (show s.size - ((i : Int) + 1).toNat < s.size - ((i : Int)).toNat); omega
            · rw [h1] at q32
              rw [h2] at q9
              clear h1 h2 hblk
              go_wp2
              go_roundw
              case rel => exact ⟨i + 1, P, by omega, by go_num, by omega, by rw [← HPB.out]; exact HO.out, HB.out, HI2.out⟩
              case measure => (show s.size - ((i : Int) + 1).toNat < s.size - ((i : Int)).toNat); omega
          · rw [h1] at q32
            clear h1 hblk
            go_wp2
            go_roundw
            case rel => exact ⟨i + 1, P, by omega, by go_num, by omega, by rw [← HPB.out]; exact HO.out, HB.out, HI2.out⟩
            case measure => (show s.size - ((i : Int) + 1).toNat < s.size - ((i : Int)).toNat); omega
      · have hbn : (c == 32) = false ∧ (c == 9) = false ∧ (c == 13) = false := by
          unfold blkB at hblk
          simp only [Bool.not_eq_true, Bool.or_eq_false_iff] at hblk
          exact ⟨hblk.1.1, hblk.1.2, hblk.2⟩
        obtain ⟨n32, n9, n13⟩ := hbn
        rw [n32] at q32
        rw [n9] at q9
        rw [n13] at q13
        have hblk2 : blkB c = false := Bool.eq_false_iff.2 hblk
        clear n32 n9 n13 hblk
        cases hrem : remB (c :: r) with
        | true =>
          as_aux_lemma =>
            rw [hrem] at HBG
            have HT : Hid (toksL s.data.toList = some P) := by unfold Hid; rw [HINV.out, toks_rem hrem HR10.out]; simp
            clear hrem
            go_wp2_with (go_at_call 42; with_reducible refine (HBG.out _).mono ?_; rintro _ _ ⟨rfl, rfl⟩)
            go_ret2
            exact HYES.out _ _ _ _ HB.out HT.out (by rw [← HPB.out]; exact HO.out) rfl
        | false =>
          rw [hrem] at HBG
          by_cases hmk : c = 40 ∨ c = 41
          · as_aux_lemma =>
              have HT := hidM (toks_mark (r := r) hmk)
              obtain ⟨kd, hkd⟩ : ∃ n : Nat, n = if c = 40 then 3 else 4 := ⟨_, rfl⟩
              rw [← hkd] at HT
              have HI2 : Hid (toksL s.data.toList = (toksL (restL s (i + 1))).map ((P ++ [(kd, [])]) ++ ·)) := by
                unfold Hid
                rw [HINV.out, HT.out, HNX.out]
                cases toksL r <;> simp
              obtain ⟨X, hX⟩ : ∃ X, s.extract i (i + 1) = X := ⟨_, rfl⟩
              have HX : Hid (X = txtT (kd, [])) := by
                unfold Hid
                apply bytes_ext
                rw [← hX, ext_mid, HRS.out, show i + 1 - i = 1 by omega, hkd]
                rcases hmk with rfl | rfl <;> rfl
              have j3 : (i : Int) + 1 = ((i + 1 : Nat) : Int) := by omega
              have j4 : ((i + 1 : Nat) : Int) ≤ (s.size : Int) := by omega
              have j5 : (i : Int) ≤ ((i + 1 : Nat) : Int) := by omega
              have hmb : ((c == 40) = true) ∨ ((c == 40) = false ∧ (c == 41) = true) := by rcases hmk with rfl | rfl; exact .inl rfl; exact .inr ⟨rfl, rfl⟩
              clear HT HINV hkd hmk
              have HI1 := hidM (Nat.le_refl (i + 1))
              generalize hi1 : i + 1 = i1 at *
              have HI1e := hidM hi1
              clear hi1
              rcases hmb with h1 | ⟨h1, h2⟩
              · rw [h1] at q40
                clear h1
                go_wp2_with (first | (go_at_call 42; with_reducible refine (HBG.out _).mono ?_; rintro _ wq ⟨rfl, hq⟩; rw [hq]; clear hq) | (at_builtin; refine wpList_append_own _ rfl _ _ 35 rfl w.heap.size 9 i0 (.string .empty) 1 16 Tryd.underlying35 hi hz0 hz1 hz2 rfl (by decide) _ _ _ rfl (World.ownsRow.alloc HO.out _) ⟨wr.heap.size, 0, none⟩ 1 1 [.string X] ?dm0 rfl ?dm1 ?dm2 ?dm3 ?dm4 ?dm5 ?_))
                try (case dm0 => rfl)
                try (case dm1 => exact cell_new_at _ _ _ _ rfl)
                case dm2 => first | (intro u hu; simp at hu; subst hu; rfl) | rfl
                case dm3 => unfold maxLen; omega
                case dm4 => omega
                case dm5 => first | (simp; omega) | omega | trivial
                intro v' w2 hown' hgrow _
                have HO2 := hidM (OwnS.push hown')
                have HB3 := hidM (OwnS.below HO.out HB.out hsz hgrow)
                clear hown' hgrow
                rw [HX.out] at HO2
                go_wp2_with fail
                go_roundw
                case rel => exact ⟨i1, P ++ [(kd, [])], by omega, by go_num, by simp; have := HI1e.out; omega, by rw [List.map_append, ← HPB.out]; exact HO2.out, HB3.out, HI2.out⟩
                case measure => (show s.size - ((i1 : Int)).toNat < s.size - ((i : Int)).toNat); have := HI1e.out; omega
              · rw [h1] at q40
                rw [h2] at q41
                clear h1 h2
                go_wp2_with (first | (go_at_call 42; with_reducible refine (HBG.out _).mono ?_; rintro _ wq ⟨rfl, hq⟩; rw [hq]; clear hq) | (at_builtin; refine wpList_append_own _ rfl _ _ 35 rfl w.heap.size 9 i0 (.string .empty) 1 16 Tryd.underlying35 hi hz0 hz1 hz2 rfl (by decide) _ _ _ rfl (World.ownsRow.alloc HO.out _) ⟨wr.heap.size, 0, none⟩ 1 1 [.string X] ?dn0 rfl ?dn1 ?dn2 ?dn3 ?dn4 ?dn5 ?_))
                try (case dn0 => rfl)
                try (case dn1 => exact cell_new_at _ _ _ _ rfl)
                case dn2 => first | (intro u hu; simp at hu; subst hu; rfl) | rfl
                case dn3 => unfold maxLen; omega
                case dn4 => omega
                case dn5 => first | (simp; omega) | omega | trivial
                intro v' w2 hown' hgrow _
                have HO2 := hidM (OwnS.push hown')
                have HB3 := hidM (OwnS.below HO.out HB.out hsz hgrow)
                clear hown' hgrow
                rw [HX.out] at HO2
                go_wp2_with fail
                go_roundw
                case rel => exact ⟨i1, P ++ [(kd, [])], by omega, by go_num, by simp; have := HI1e.out; omega, by rw [List.map_append, ← HPB.out]; exact HO2.out, HB3.out, HI2.out⟩
                case measure => (show s.size - ((i1 : Int)).toNat < s.size - ((i : Int)).toNat); have := HI1e.out; omega
          · have n40 : (c == 40) = false := beq_false_of_ne (fun e => hmk (.inl e))
            have n41 : (c == 41) = false := beq_false_of_ne (fun e => hmk (.inr e))
            rw [n40] at q40
            rw [n41] at q41
            clear n40 n41
            by_cases h34 : c = 34
            · as_aux_lemma =>
                have q34t : (c == 34) = true := by rw [h34]; rfl
                rw [q34t] at q34
                have HQ : Hid (toksL s.data.toList = ((quoL (restL s (i + 1))).bind fun x => (toksL x.2).map ((5, x.1) :: ·)).map (P ++ ·)) := by unfold Hid; rw [HINV.out, h34, toks_quo, HNX.out]
                clear h34 q34t HINV HNX hmk
                obtain ⟨Wr, hWr⟩ : ∃ V : World, V = wr := ⟨_, rfl⟩
                subst hWr
                go_wp2_with (go_at_call 42; with_reducible refine (HBG.out _).mono ?_; rintro _ wq ⟨rfl, hq⟩; rw [hq]; clear hq)
                go_loopw [5, 7] (fun v5 v7 wx => ∃ (j : Nat) (X : ByteArray) (acc : List UInt8), i + 1 ≤ j ∧ j ≤ s.size ∧ v5 = .int .i64 (j : Int) ∧ v7 = .string X ∧ X.data.toList = 46 :: acc ∧ X.size ≤ j ∧ wx = Wr ∧ quoL (restL s (i + 1)) = (quoL (restL s j)).map (fun x => (acc ++ x.1, x.2))) (fun v5 _ _ => s.size - (intOf v5).toNat)
                case atStart => exact ⟨i + 1, ⟨#[46]⟩, [], Nat.le_refl _, by omega, by go_num, rfl, rfl, by show 1 ≤ i + 1; omega, rfl, by simp⟩
                case round =>
                  obtain ⟨j, X, acc, hij, hjs, rfl, rfl, hX, hXs, hwx, hq⟩ := hrel
                  have HX := hidM hX
                  have HQJ := hidM hq
                  clear hX hq
                  rw [hwx]
                  clear hwx
                  cases hrest : restL s j with
                  | nil =>
                    have hj2 := rest_nil hrest hjs
                    have jj : ¬ (j : Int) < (s.size : Int) := by omega
                    have jj2 : (s.size : Int) ≤ (j : Int) := by omega
                    have HNO : Hid (toksL s.data.toList = none) := by unfold Hid; rw [HQ.out, HQJ.out, hrest]; rfl
                    clear hrest hj2
                    go_wp2_with fail
                    go_ret2
                    exact HFIN.out _ _ HB.out HNO.out rfl
                  | cons d r2 =>
                    obtain ⟨hjl, hds, hnx2⟩ := rest_cons hrest
                    have jj : (j : Int) < (s.size : Int) := by omega
                    have jj2 : ¬ (s.size : Int) ≤ (j : Int) := by omega
                    have hdv : ((s[j].toNat : Nat) : Int) = (d.toNat : Int) := by rw [hds]
                    have dd := d.toNat_lt
                    have HNX2 := hidM hnx2
                    rw [hrest] at HQJ
                    have hd10 : d ≠ 10 := fun e => rest_mem (t := j) H10.out (by rw [hrest, e]; simp)
                    have HRJ := hidM hrest
                    clear hnx2 hrest
                    by_cases h34 : d = 34
                    · have p34 : ((d.toNat : Int) != 34) = false := by rw [h34]; rfl
                      have HT5 : Hid (X = txtT (5, acc)) := by unfold Hid; apply bytes_ext; rw [HX.out]; rfl
                      have hqe : quoL (d :: r2) = some ([], r2) := by rw [h34, quoL.eq_def]; simp
                      have HI2 : Hid (toksL s.data.toList = (toksL (restL s (j + 1))).map ((P ++ [(5, acc)]) ++ ·)) := by
                        unfold Hid
                        rw [HQ.out, HQJ.out, hqe, HNX2.out]
                        simp only [Option.map_some, Option.bind_some, List.append_nil]
                        cases toksL r2 <;> simp
                      clear h34 hqe HQ HQJ
                      generalize hj1 : j + 1 = j1 at *
                      have HJ1 := hidM hj1
                      have hj1b : i + 1 < j1 ∧ j1 ≤ s.size := by omega
                      have j3 : (j : Int) + 1 = (j1 : Int) := by omega
                      clear hj1
                      go_wp2_with (at_builtin; refine wpList_append_own _ rfl _ _ 35 rfl w.heap.size 9 i0 (.string .empty) 1 16 Tryd.underlying35 hi hz0 hz1 hz2 rfl (by decide) _ _ _ rfl (World.ownsRow.alloc HO.out _) ⟨Wr.heap.size, 0, none⟩ 1 1 [.string X] ?dq0 rfl ?dq1 ?dq2 ?dq3 ?dq4 ?dq5 ?_)
                      try (case dq0 => rfl)
                      try (case dq1 => exact cell_new_at _ _ _ _ rfl)
                      case dq2 => first | (intro u hu; simp at hu; subst hu; rfl) | rfl
                      case dq3 => unfold maxLen; omega
                      case dq4 => omega
                      case dq5 => first | (simp; omega) | omega | trivial
                      intro v' w2 hown' hgrow _
                      have HO2 := hidM (OwnS.push hown')
                      have HB3 := hidM (OwnS.below HO.out HB.out hsz hgrow)
                      clear hown' hgrow
                      rw [HT5.out] at HO2
                      go_wp2_with fail
                      go_roundw
                      case rel => exact ⟨j1, P ++ [(5, acc)], by omega, by go_num, by simp; omega, by rw [List.map_append, ← HPB.out]; exact HO2.out, HB3.out, HI2.out⟩
                      case measure => (show s.size - ((j1 : Int)).toNat < s.size - ((i : Int)).toNat); omega
                    · have p34 : ((d.toNat : Int) != 34) = true := by
                        rw [bne_iff_ne]
                        intro e; apply h34; exact UInt8.toNat_inj.1 (by have : (34 : UInt8).toNat = 34 := rfl; omega)
                      by_cases h92 : d = 92
                      · have p92 : ((d.toNat : Int) == 92) = true := by rw [h92]; rfl
                        generalize hj1 : j + 1 = j1 at *
                        have HJ1 := hidM hj1
                        have j3 : (j : Int) + 1 = (j1 : Int) := by omega
                        have hj1b : j1 ≤ s.size := by omega
                        cases r2 with
                        | nil =>
                          have hj2 := rest_nil HNX2.out hj1b
                          have jk : ¬ (j1 : Int) < (s.size : Int) := by omega
                          have HNO : Hid (toksL s.data.toList = none) := by
                            unfold Hid
                            rw [HQ.out, HQJ.out, h92, quoL.eq_def]; rfl
                          clear h92 h34 hj1 hj2
                          go_wp2_with fail
                          go_ret2
                          exact HFIN.out _ _ HB.out HNO.out rfl
                        | cons e r3 =>
                          obtain ⟨hel, hes, hnx3⟩ := rest_cons HNX2.out
                          have jk : (j1 : Int) < (s.size : Int) := by omega
                          have hev : ((s[j1].toNat : Nat) : Int) = (e.toNat : Int) := by rw [hes]
                          have HFD : Hid (∀ V, Calls Tryd.prog 36 #[.string ⟨#[34, 92, 110, 116]⟩, .int .u8 (e.toNat : Int)] V fun x w' => x = .returned (.int .i64 (Lib.indexByte [34, 92, 110, 116] e)) ∧ w' = V) := fun V => find_any ⟨#[34, 92, 110, 116]⟩ e V (by decide)
                          have hqe : quoL (d :: e :: r3) = (match mntL e with | none => none | some m => (quoL r3).map fun x => (m :: x.1, x.2)) := by
                            rw [h92, quoL.eq_def]; rfl
                          rw [hqe] at HQJ
                          have HNX3 := hidM hnx3
                          generalize hj2 : j1 + 1 = j2 at *
                          have hj2b : j2 ≤ s.size := by omega
                          have j4 : (j1 : Int) + 1 = (j2 : Int) := by omega
                          have x1 : ¬ (9223372036854775807 : Nat) < X.size + 1 := by omega
                          have HSTP : Hid (∀ m : UInt8, mntL e = some m → quoL (restL s (i + 1)) = (quoL (restL s j2)).map (fun x => ((acc ++ [m]) ++ x.1, x.2)) ∧ (X ++ ⟨#[m]⟩).data.toList = 46 :: (acc ++ [m])) := by
                            intro m hm
                            refine ⟨?_, by simp [HX.out]⟩
                            rw [HQJ.out, hm, HNX3.out]
                            cases quoL r3 <;> simp
                          have HBADM : Hid (mntL e = none → toksL s.data.toList = none) := by
                            intro hm
                            rw [HQ.out, HQJ.out, hm]; rfl
                          have hmi := mnt_idx e
                          clear h92 h34 hqe HQJ hnx3
                          have hb12 : i + 1 ≤ j ∧ j < j1 ∧ j1 < j2 := by omega
                          clear hj1 hj2
                          rcases hmi with ⟨-, hix, hmm⟩ | ⟨-, hix, hmm⟩ | ⟨-, hix, hmm⟩ | ⟨-, hix, hmm⟩ | ⟨hix, hmm⟩
                          · obtain ⟨g1, g2⟩ := HSTP.out 34 hmm
                            obtain ⟨Z, hZ⟩ : ∃ Z, X ++ (⟨#[34]⟩ : ByteArray) = Z := ⟨_, rfl⟩
                            rw [hZ] at g2
                            have hZs : Z.size ≤ j2 := by rw [← hZ, ByteArray.size_append]; have : (⟨#[34]⟩ : ByteArray).size = 1 := rfl; omega
                            have G1 := hidM g1
                            have G2 := hidM g2
                            have htab : (⟨#[34, 92, 10, 9]⟩ : ByteArray).extract 0 1 = ⟨#[34]⟩ := by decide
                            rw [hix] at HFD
                            clear hmm hix HBADM HSTP g1 g2
                            go_wp2_with (go_at_call 36; with_reducible refine (HFD.out _).mono ?_; rintro _ wq ⟨rfl, hq⟩; rw [hq]; clear hq)
                            go_roundw
                            case rel => exact ⟨j2, Z, acc ++ [34], by omega, hj2b, by go_num, rfl, G2.out, hZs, trivial, G1.out⟩
                            case measure => (show s.size - ((j2 : Int)).toNat < s.size - ((j : Int)).toNat); omega
                          · obtain ⟨g1, g2⟩ := HSTP.out 92 hmm
                            obtain ⟨Z, hZ⟩ : ∃ Z, X ++ (⟨#[92]⟩ : ByteArray) = Z := ⟨_, rfl⟩
                            rw [hZ] at g2
                            have hZs : Z.size ≤ j2 := by rw [← hZ, ByteArray.size_append]; have : (⟨#[92]⟩ : ByteArray).size = 1 := rfl; omega
                            have G1 := hidM g1
                            have G2 := hidM g2
                            have htab : (⟨#[34, 92, 10, 9]⟩ : ByteArray).extract 1 2 = ⟨#[92]⟩ := by decide
                            rw [hix] at HFD
                            clear hmm hix HBADM HSTP g1 g2
                            go_wp2_with (go_at_call 36; with_reducible refine (HFD.out _).mono ?_; rintro _ wq ⟨rfl, hq⟩; rw [hq]; clear hq)
                            go_roundw
                            case rel => exact ⟨j2, Z, acc ++ [92], by omega, hj2b, by go_num, rfl, G2.out, hZs, trivial, G1.out⟩
                            case measure => (show s.size - ((j2 : Int)).toNat < s.size - ((j : Int)).toNat); omega
                          · obtain ⟨g1, g2⟩ := HSTP.out 10 hmm
                            obtain ⟨Z, hZ⟩ : ∃ Z, X ++ (⟨#[10]⟩ : ByteArray) = Z := ⟨_, rfl⟩
                            rw [hZ] at g2
                            have hZs : Z.size ≤ j2 := by rw [← hZ, ByteArray.size_append]; have : (⟨#[10]⟩ : ByteArray).size = 1 := rfl; omega
                            have G1 := hidM g1
                            have G2 := hidM g2
                            have htab : (⟨#[34, 92, 10, 9]⟩ : ByteArray).extract 2 3 = ⟨#[10]⟩ := by decide
                            rw [hix] at HFD
                            clear hmm hix HBADM HSTP g1 g2
                            go_wp2_with (go_at_call 36; with_reducible refine (HFD.out _).mono ?_; rintro _ wq ⟨rfl, hq⟩; rw [hq]; clear hq)
                            go_roundw
                            case rel => exact ⟨j2, Z, acc ++ [10], by omega, hj2b, by go_num, rfl, G2.out, hZs, trivial, G1.out⟩
                            case measure => (show s.size - ((j2 : Int)).toNat < s.size - ((j : Int)).toNat); omega
                          · obtain ⟨g1, g2⟩ := HSTP.out 9 hmm
                            obtain ⟨Z, hZ⟩ : ∃ Z, X ++ (⟨#[9]⟩ : ByteArray) = Z := ⟨_, rfl⟩
                            rw [hZ] at g2
                            have hZs : Z.size ≤ j2 := by rw [← hZ, ByteArray.size_append]; have : (⟨#[9]⟩ : ByteArray).size = 1 := rfl; omega
                            have G1 := hidM g1
                            have G2 := hidM g2
                            have htab : (⟨#[34, 92, 10, 9]⟩ : ByteArray).extract 3 4 = ⟨#[9]⟩ := by decide
                            rw [hix] at HFD
                            clear hmm hix HBADM HSTP g1 g2
                            go_wp2_with (go_at_call 36; with_reducible refine (HFD.out _).mono ?_; rintro _ wq ⟨rfl, hq⟩; rw [hq]; clear hq)
                            go_roundw
                            case rel => exact ⟨j2, Z, acc ++ [9], by omega, hj2b, by go_num, rfl, G2.out, hZs, trivial, G1.out⟩
                            case measure => (show s.size - ((j2 : Int)).toNat < s.size - ((j : Int)).toNat); omega
                          · have HNO := hidM (HBADM.out hmm)
                            rw [hix] at HFD
                            clear hmm hix HBADM HSTP
                            go_wp2_with (go_at_call 36; with_reducible refine (HFD.out _).mono ?_; rintro _ wq ⟨rfl, hq⟩; rw [hq]; clear hq)
                            go_ret2
                            exact HFIN.out _ _ HB.out HNO.out rfl
                      · have p92 : ((d.toNat : Int) == 92) = false := by
                          rw [beq_eq_false_iff_ne]
                          intro e; apply h92; exact UInt8.toNat_inj.1 (by have : (92 : UInt8).toNat = 92 := rfl; omega)
                        obtain ⟨Y, hY⟩ : ∃ Y, s.extract j (j + 1) = Y := ⟨_, rfl⟩
                        have hYs : Y.size ≤ 1 := by rw [← hY, ByteArray.size_extract]; omega
                        have HYL : Hid (Y.data.toList = [d]) := by unfold Hid; rw [← hY, ext_mid, HRJ.out, show j + 1 - j = 1 by omega]; rfl
                        have HSTP : Hid (quoL (restL s (i + 1)) = (quoL (restL s (j + 1))).map (fun x => ((acc ++ [d]) ++ x.1, x.2)) ∧ (X ++ Y).data.toList = 46 :: (acc ++ [d])) := by
                          have e0 : quoL (d :: r2) = (quoL r2).map fun x => (d :: x.1, x.2) := by rw [quoL.eq_def]; simp [h34, hd10, h92]
                          refine ⟨?_, by simp [HX.out, HYL.out]⟩
                          rw [HQJ.out, e0, HNX2.out]
                          cases quoL r2 <;> simp
                        have x1 : ¬ (9223372036854775807 : Nat) < X.size + Y.size := by omega
                        obtain ⟨Z, hZ⟩ : ∃ Z, X ++ Y = Z := ⟨_, rfl⟩
                        rw [hZ] at HSTP
                        have hZs : Z.size ≤ j + 1 := by rw [← hZ, ByteArray.size_append]; omega
                        clear h34 h92 HQJ hd10
                        generalize hj1 : j + 1 = j1 at *
                        have j3 : (j : Int) + 1 = (j1 : Int) := by omega
                        have j4 : (j1 : Int) ≤ (s.size : Int) := by omega
                        have j5 : (j : Int) ≤ (j1 : Int) := by omega
                        have j6 : j < j1 := by omega
                        have j7 : j1 ≤ s.size := by omega
                        clear hj1
                        go_wp2_with fail
                        go_roundw
                        case rel => exact ⟨j1, Z, acc ++ [d], by omega, j7, by go_num, rfl, HSTP.out.2, hZs, trivial, HSTP.out.1⟩
                        case measure => (show s.size - ((j1 : Int)).toNat < s.size - ((j : Int)).toNat); omega
            · have n34 : (c == 34) = false := beq_false_of_ne h34
              rw [n34] at q34
              clear n34
              by_cases h96 : c = 96
              · as_aux_lemma =>
                  have q96t : (c == 96) = true := by rw [h96]; rfl
                  rw [q96t] at q96
                  have HQ : Hid (toksL s.data.toList = ((rawL (restL s (i + 1))).bind fun n => (toksL ((restL s (i + 1)).drop (n + 1))).map ((5, (restL s (i + 1)).take n) :: ·)).map (P ++ ·)) := by unfold Hid; rw [HINV.out, h96, toks_raw, HNX.out]
                  have HIX := hidM (raw_idx (restL s (i + 1)) (rest_mem H10.out))
                  generalize hi1 : i + 1 = i1 at *
                  have j3 : (i : Int) + 1 = (i1 : Int) := by omega
                  have j4 : (i1 : Int) ≤ (s.size : Int) := by omega
                  have j5 : (0 : Int) ≤ (i1 : Int) := by omega
                  have j6 : i < i1 := by omega
                  have j7 : i1 ≤ s.size := by omega
                  obtain ⟨RX, hRX⟩ : ∃ X, s.extract i1 s.size = X := ⟨_, rfl⟩
                  have HFD : Hid (∀ V, Calls Tryd.prog 36 #[.string RX, .int .u8 96] V fun x w' => x = .returned (.int .i64 (Lib.indexByte (restL s i1) 96)) ∧ w' = V) := by
                    intro V
                    have := find_any RX 96 V (by rw [← hRX, ByteArray.size_extract]; omega)
                    rw [← hRX, ext_rest] at this
                    rw [← hRX]
                    exact this
                  clear h96 q96t HINV HNX hmk h34 hi1
                  cases hrw : rawL (restL s i1) with
                  | none =>
                    rw [hrw] at HQ HIX
                    simp only at HIX
                    rw [HIX.out] at HFD
                    have HNO : Hid (toksL s.data.toList = none) := HQ.out
                    clear hrw HIX HQ
                    go_wp2_with (first | (go_at_call 42; with_reducible refine (HBG.out _).mono ?_; rintro _ wq ⟨rfl, hq⟩; rw [hq]; clear hq) | (go_at_call 36; with_reducible refine (HFD.out _).mono ?_; rintro _ wq ⟨rfl, hq⟩; rw [hq]; clear hq))
                    go_ret2
                    exact HFIN.out _ _ HB.out HNO.out rfl
                  | some n =>
                    rw [hrw] at HQ HIX
                    simp only at HIX
                    rw [HIX.out] at HFD
                    have hnl := raw_le _ _ hrw
                    rw [rest_len] at hnl
                    obtain ⟨Y, hY⟩ : ∃ Y, s.extract i1 (i1 + n) = Y := ⟨_, rfl⟩
                    have hYs : Y.size ≤ 100000 := by rw [← hY, ByteArray.size_extract]; omega
                    have x1 : ¬ (9223372036854775807 : Nat) < 1 + Y.size := by omega
                    obtain ⟨X, hX⟩ : ∃ X, (⟨#[46]⟩ : ByteArray) ++ Y = X := ⟨_, rfl⟩
                    have HT5 : Hid (X = txtT (5, (restL s i1).take n)) := by
                      unfold Hid
                      apply bytes_ext
                      rw [← hX, ← hY]
                      simp only [ByteArray.data_append, Array.toList_append]
                      rw [ext_mid, show i1 + n - i1 = n by omega]
                      rfl
                    have HI2 : Hid (toksL s.data.toList = (toksL (restL s (i1 + n + 1))).map ((P ++ [(5, (restL s i1).take n)]) ++ ·)) := by
                      unfold Hid
                      rw [HQ.out, show i1 + n + 1 = i1 + (n + 1) by omega, rest_add]
                      simp only [Option.bind_some]
                      cases toksL ((restL s i1).drop (n + 1)) <;> simp
                    clear hrw HIX HQ
                    generalize (restL s i1).take n = tk at *
                    have k1 : (i1 : Int) + (n : Int) = ((i1 + n : Nat) : Int) := by omega
                    have k2 : (n : Int) + 2 = ((n + 2 : Nat) : Int) := by omega
                    have k3 : (i : Int) + ((n + 2 : Nat) : Int) = ((i1 + n + 1 : Nat) : Int) := by omega
                    have k4 : ((i1 + n : Nat) : Int) ≤ (s.size : Int) := by omega
                    have k5 : (i1 : Int) ≤ ((i1 + n : Nat) : Int) := by omega
                    have k6 : ¬ (n : Int) < 0 := by omega
                    have k7 : i1 + n + 1 ≤ s.size := by omega
                    have k8 : i < i1 + n + 1 := by omega
                    generalize i1 + n + 1 = e1 at *
                    generalize i1 + n = e0 at *
                    generalize n + 2 = e2 at *
                    go_wp2_with (first | (first | (go_at_call 42; with_reducible refine (HBG.out _).mono ?_; rintro _ wq ⟨rfl, hq⟩; rw [hq]; clear hq) | (go_at_call 36; with_reducible refine (HFD.out _).mono ?_; rintro _ wq ⟨rfl, hq⟩; rw [hq]; clear hq)) | (at_builtin; refine wpList_append_own _ rfl _ _ 35 rfl w.heap.size 9 i0 (.string .empty) 1 16 Tryd.underlying35 hi hz0 hz1 hz2 rfl (by decide) _ _ _ rfl (World.ownsRow.alloc HO.out _) ⟨wr.heap.size, 0, none⟩ 1 1 [.string X] ?dr0 rfl ?dr1 ?dr2 ?dr3 ?dr4 ?dr5 ?_))
                    try (case dr0 => rfl)
                    try (case dr1 => exact cell_new_at _ _ _ _ rfl)
                    case dr2 => first | (intro u hu; simp at hu; subst hu; rfl) | rfl
                    case dr3 => unfold maxLen; omega
                    case dr4 => omega
                    case dr5 => first | (simp; omega) | omega | trivial
                    intro v' w2 hown' hgrow _
                    have HO2 := hidM (OwnS.push hown')
                    have HB3 := hidM (OwnS.below HO.out HB.out hsz hgrow)
                    clear hown' hgrow
                    rw [HT5.out] at HO2
                    go_wp2_with fail
                    go_roundw
                    case rel => exact ⟨e1, P ++ [(5, tk)], by omega, by go_num, by simp; omega, by rw [List.map_append, ← HPB.out]; exact HO2.out, HB3.out, HI2.out⟩
                    case measure => (show s.size - ((e1 : Int)).toNat < s.size - ((i : Int)).toNat); omega
              · have n96 : (c == 96) = false := beq_false_of_ne h96
                rw [n96] at q96
                clear n96
                as_aux_lemma =>
                  have hwf : wEnd (c :: r) = false := by
                    rw [wEnd_idx c r HC10.out, hrem, idx_cont]
                    simp only [List.contains_cons, List.contains_nil, Bool.or_false]
                    unfold blkB at hblk2
                    simp only [Bool.or_eq_false_iff] at hblk2
                    rw [hblk2.1.1, hblk2.1.2, hblk2.2, beq_false_of_ne (fun e => hmk (.inl e)), beq_false_of_ne (fun e => hmk (.inr e)), beq_false_of_ne h34, beq_false_of_ne h96]
                    rfl
                  have HQ : Hid (toksL s.data.toList = ((toksL ((restL s i).drop (wordN (restL s i)))).map ((5, (restL s i).take (wordN (restL s i))) :: ·)).map (P ++ ·)) := by unfold Hid; rw [HINV.out, HRS.out, ← toks_word hwf]
                  have HPOS : Hid (0 < wordN (restL s i)) := by unfold Hid; rw [HRS.out, wordN, hwf]; simp
                  clear hwf HINV hmk h34 h96 HNX
                  obtain ⟨Wr, hWr⟩ : ∃ V : World, V = wr := ⟨_, rfl⟩
                  subst hWr
                  go_wp2_with (go_at_call 42; with_reducible refine (HBG.out _).mono ?_; rintro _ wq ⟨rfl, hq⟩; rw [hq]; clear hq)
                  go_loopw [5] (fun v5 wx => ∃ (j : Nat), i ≤ j ∧ j ≤ s.size ∧ v5 = .int .i64 (j : Int) ∧ wx = Wr ∧ wordN (restL s i) = (j - i) + wordN (restL s j)) (fun v5 _ => s.size - (intOf v5).toNat)
                  case atStart => exact ⟨i, Nat.le_refl _, hil, rfl, rfl, by omega⟩
                  case round =>
                    obtain ⟨j, hij, hjs, rfl, hwx, hwn⟩ := hrel
                    have HWN := hidM hwn
                    clear hwn
                    rw [hwx]
                    clear hwx
                    cases hrest : restL s j with
                    | nil =>
                      have hj2 := rest_nil hrest hjs
                      have jj : ¬ (j : Int) < (s.size : Int) := by omega
                      have hwend : wordN (restL s j) = 0 := by rw [hrest]; rfl
                      clear hrest hj2
                      have HTW := hidM hwend
                      obtain ⟨Y, hY⟩ : ∃ Y, s.extract i j = Y := ⟨_, rfl⟩
                      have hYs : Y.size ≤ 100000 := by rw [← hY, ByteArray.size_extract]; omega
                      have x1 : ¬ (9223372036854775807 : Nat) < 1 + Y.size := by omega
                      obtain ⟨X, hX⟩ : ∃ X, (⟨#[46]⟩ : ByteArray) ++ Y = X := ⟨_, rfl⟩
                      have hj : wordN (restL s i) = j - i := by rw [HWN.out, hwend]; rfl
                      have hpos : i < j := by have := HPOS.out; omega
                      have HT5 : Hid (X = txtT (5, (restL s i).take (j - i))) := by
                        unfold Hid
                        apply bytes_ext
                        rw [← hX, ← hY]
                        simp only [ByteArray.data_append, Array.toList_append]
                        rw [ext_mid]
                        rfl
                      have HI2 : Hid (toksL s.data.toList = (toksL (restL s j)).map ((P ++ [(5, (restL s i).take (j - i))]) ++ ·)) := by
                        unfold Hid
                        rw [HQ.out, hj, ← rest_add, show i + (j - i) = j by omega]
                        cases toksL (restL s j) <;> simp
                      have k4 : (j : Int) ≤ (s.size : Int) := by omega
                      have k5 : (i : Int) ≤ (j : Int) := by omega
                      clear hj HQ HWN HTW hwend
                      generalize (restL s i).take (j - i) = tk at *
                      go_wp2_with (at_builtin; refine wpList_append_own _ rfl _ _ 35 rfl w.heap.size 9 i0 (.string .empty) 1 16 Tryd.underlying35 hi hz0 hz1 hz2 rfl (by decide) _ _ _ rfl (World.ownsRow.alloc HO.out _) ⟨Wr.heap.size, 0, none⟩ 1 1 [.string X] ?dw0 rfl ?dw1 ?dw2 ?dw3 ?dw4 ?dw5 ?_)
                      try (case dw0 => rfl)
                      try (case dw1 => exact cell_new_at _ _ _ _ rfl)
                      case dw2 => first | (intro u hu; simp at hu; subst hu; rfl) | rfl
                      case dw3 => unfold maxLen; omega
                      case dw4 => omega
                      case dw5 => first | (simp; omega) | omega | trivial
                      intro v' w2 hown' hgrow _
                      have HO2 := hidM (OwnS.push hown')
                      have HB3 := hidM (OwnS.below HO.out HB.out hsz hgrow)
                      clear hown' hgrow
                      rw [HT5.out] at HO2
                      go_wp2_with fail
                      go_roundw
                      case rel => exact ⟨j, P ++ [(5, tk)], by omega, by go_num, by simp; omega, by rw [List.map_append, ← HPB.out]; exact HO2.out, HB3.out, HI2.out⟩
                      case measure => (show s.size - ((j : Int)).toNat < s.size - ((i : Int)).toNat); omega
                    | cons d r2 =>
                      obtain ⟨hjl, hds, hnx2⟩ := rest_cons hrest
                      have jj : (j : Int) < (s.size : Int) := by omega
                      have hdv : ((s[j].toNat : Nat) : Int) = (d.toNat : Int) := by rw [hds]
                      have hd10 : d ≠ 10 := fun e => rest_mem (t := j) H10.out (by rw [hrest, e]; simp)
                      have HWE : Hid (wordN (restL s j) = if (decide (0 ≤ Lib.indexByte [32, 9, 13, 40, 41, 34] d) || d == 96 || remB (d :: r2)) = true then 0 else wordN r2 + 1) := by
                        unfold Hid
                        rw [hrest, wordN, wEnd_idx d r2 hd10]
                      have HFD : Hid (∀ V, Calls Tryd.prog 36 #[.string ⟨#[32, 9, 13, 40, 41, 34]⟩, .int .u8 (d.toNat : Int)] V fun x w' => x = .returned (.int .i64 (Lib.indexByte [32, 9, 13, 40, 41, 34] d)) ∧ w' = V) := fun V => find_any ⟨#[32, 9, 13, 40, 41, 34]⟩ d V (by decide)
                      have hjc1 : (0 : Int) ≤ (j : Int) := by omega
                      have hjc2 : (j : Int) ≤ (s.size : Int) := by omega
                      obtain ⟨JX, hJX⟩ : ∃ X, s.extract j s.size = X := ⟨_, rfl⟩
                      have HBJ : Hid (∀ V, Calls Tryd.prog 42 #[.string JX, .string ⟨#[47, 47]⟩] V fun e w' => e = .returned (.bool (remB (d :: r2))) ∧ w' = V) := by
                        intro V
                        have := begins_any JX V
                        rw [← hJX, ext_rest, hrest] at this
                        rw [← hJX]
                        exact this
                      have hge := Lib.indexByte_ge [32, 9, 13, 40, 41, 34] d
                      generalize Lib.indexByte [32, 9, 13, 40, 41, 34] d = ix at *
                      have hd96 : ((d.toNat : Int) != 96) = !(d == 96) := by
                        show (!((d.toNat : Int) == ((96 : Nat) : Int))) = _
                        rw [u8_eq d 96 (by omega)]
                        rfl
                      have HNX2 := hidM hnx2
                      clear hnx2 hrest hd10
                      by_cases hix : 0 ≤ ix
                      · have hwend : wordN (restL s j) = 0 := by rw [HWE.out, decide_eq_true hix]; rfl
                        have p1 : ¬ ix < 0 := by omega
                        clear HWE
                        have HTW := hidM hwend
                        obtain ⟨Y, hY⟩ : ∃ Y, s.extract i j = Y := ⟨_, rfl⟩
                        have hYs : Y.size ≤ 100000 := by rw [← hY, ByteArray.size_extract]; omega
                        have x1 : ¬ (9223372036854775807 : Nat) < 1 + Y.size := by omega
                        obtain ⟨X, hX⟩ : ∃ X, (⟨#[46]⟩ : ByteArray) ++ Y = X := ⟨_, rfl⟩
                        have hj : wordN (restL s i) = j - i := by rw [HWN.out, hwend]; rfl
                        have hpos : i < j := by have := HPOS.out; omega
                        have HT5 : Hid (X = txtT (5, (restL s i).take (j - i))) := by
                          unfold Hid
                          apply bytes_ext
                          rw [← hX, ← hY]
                          simp only [ByteArray.data_append, Array.toList_append]
                          rw [ext_mid]
                          rfl
                        have HI2 : Hid (toksL s.data.toList = (toksL (restL s j)).map ((P ++ [(5, (restL s i).take (j - i))]) ++ ·)) := by
                          unfold Hid
                          rw [HQ.out, hj, ← rest_add, show i + (j - i) = j by omega]
                          cases toksL (restL s j) <;> simp
                        have k4 : (j : Int) ≤ (s.size : Int) := by omega
                        have k5 : (i : Int) ≤ (j : Int) := by omega
                        clear hj HQ HWN HTW hwend
                        generalize (restL s i).take (j - i) = tk at *
                        go_wp2_with (first | (go_at_call 36; with_reducible refine (HFD.out _).mono ?_; rintro _ wq ⟨rfl, hq⟩; rw [hq]; clear hq) | (at_builtin; refine wpList_append_own _ rfl _ _ 35 rfl w.heap.size 9 i0 (.string .empty) 1 16 Tryd.underlying35 hi hz0 hz1 hz2 rfl (by decide) _ _ _ rfl (World.ownsRow.alloc HO.out _) ⟨Wr.heap.size, 0, none⟩ 1 1 [.string X] ?dx0 rfl ?dx1 ?dx2 ?dx3 ?dx4 ?dx5 ?_))
                        try (case dx0 => rfl)
                        try (case dx1 => exact cell_new_at _ _ _ _ rfl)
                        case dx2 => first | (intro u hu; simp at hu; subst hu; rfl) | rfl
                        case dx3 => unfold maxLen; omega
                        case dx4 => omega
                        case dx5 => first | (simp; omega) | omega | trivial
                        intro v' w2 hown' hgrow _
                        have HO2 := hidM (OwnS.push hown')
                        have HB3 := hidM (OwnS.below HO.out HB.out hsz hgrow)
                        clear hown' hgrow
                        rw [HT5.out] at HO2
                        go_wp2_with fail
                        go_roundw
                        case rel => exact ⟨j, P ++ [(5, tk)], by omega, by go_num, by simp; omega, by rw [List.map_append, ← HPB.out]; exact HO2.out, HB3.out, HI2.out⟩
                        case measure => (show s.size - ((j : Int)).toNat < s.size - ((i : Int)).toNat); omega
                      · have p1 : ix < 0 := by omega
                        rw [decide_eq_false hix, Bool.false_or] at HWE
                        clear hix
                        cases h9 : (d == 96) with
                        | true =>
                          rw [h9] at hd96 HWE
                          have hwend : wordN (restL s j) = 0 := by rw [HWE.out]; rfl
                          have p2 : ((d.toNat : Int) != 96) = false := hd96
                          clear HWE h9 hd96
                          have HTW := hidM hwend
                          obtain ⟨Y, hY⟩ : ∃ Y, s.extract i j = Y := ⟨_, rfl⟩
                          have hYs : Y.size ≤ 100000 := by rw [← hY, ByteArray.size_extract]; omega
                          have x1 : ¬ (9223372036854775807 : Nat) < 1 + Y.size := by omega
                          obtain ⟨X, hX⟩ : ∃ X, (⟨#[46]⟩ : ByteArray) ++ Y = X := ⟨_, rfl⟩
                          have hj : wordN (restL s i) = j - i := by rw [HWN.out, hwend]; rfl
                          have hpos : i < j := by have := HPOS.out; omega
                          have HT5 : Hid (X = txtT (5, (restL s i).take (j - i))) := by
                            unfold Hid
                            apply bytes_ext
                            rw [← hX, ← hY]
                            simp only [ByteArray.data_append, Array.toList_append]
                            rw [ext_mid]
                            rfl
                          have HI2 : Hid (toksL s.data.toList = (toksL (restL s j)).map ((P ++ [(5, (restL s i).take (j - i))]) ++ ·)) := by
                            unfold Hid
                            rw [HQ.out, hj, ← rest_add, show i + (j - i) = j by omega]
                            cases toksL (restL s j) <;> simp
                          have k4 : (j : Int) ≤ (s.size : Int) := by omega
                          have k5 : (i : Int) ≤ (j : Int) := by omega
                          clear hj HQ HWN HTW hwend
                          generalize (restL s i).take (j - i) = tk at *
                          go_wp2_with (first | (go_at_call 36; with_reducible refine (HFD.out _).mono ?_; rintro _ wq ⟨rfl, hq⟩; rw [hq]; clear hq) | (at_builtin; refine wpList_append_own _ rfl _ _ 35 rfl w.heap.size 9 i0 (.string .empty) 1 16 Tryd.underlying35 hi hz0 hz1 hz2 rfl (by decide) _ _ _ rfl (World.ownsRow.alloc HO.out _) ⟨Wr.heap.size, 0, none⟩ 1 1 [.string X] ?dy0 rfl ?dy1 ?dy2 ?dy3 ?dy4 ?dy5 ?_))
                          try (case dy0 => rfl)
                          try (case dy1 => exact cell_new_at _ _ _ _ rfl)
                          case dy2 => first | (intro u hu; simp at hu; subst hu; rfl) | rfl
                          case dy3 => unfold maxLen; omega
                          case dy4 => omega
                          case dy5 => first | (simp; omega) | omega | trivial
                          intro v' w2 hown' hgrow _
                          have HO2 := hidM (OwnS.push hown')
                          have HB3 := hidM (OwnS.below HO.out HB.out hsz hgrow)
                          clear hown' hgrow
                          rw [HT5.out] at HO2
                          go_wp2_with fail
                          go_roundw
                          case rel => exact ⟨j, P ++ [(5, tk)], by omega, by go_num, by simp; omega, by rw [List.map_append, ← HPB.out]; exact HO2.out, HB3.out, HI2.out⟩
                          case measure => (show s.size - ((j : Int)).toNat < s.size - ((i : Int)).toNat); omega
                        | false =>
                          rw [h9, Bool.false_or] at HWE
                          rw [h9] at hd96
                          have p2 : ((d.toNat : Int) != 96) = true := hd96
                          clear h9 hd96
                          cases hrm : remB (d :: r2) with
                          | true =>
                            rw [hrm] at HWE HBJ
                            have hwend : wordN (restL s j) = 0 := by rw [HWE.out]; rfl
                            clear HWE hrm
                            have HTW := hidM hwend
                            obtain ⟨Y, hY⟩ : ∃ Y, s.extract i j = Y := ⟨_, rfl⟩
                            have hYs : Y.size ≤ 100000 := by rw [← hY, ByteArray.size_extract]; omega
                            have x1 : ¬ (9223372036854775807 : Nat) < 1 + Y.size := by omega
                            obtain ⟨X, hX⟩ : ∃ X, (⟨#[46]⟩ : ByteArray) ++ Y = X := ⟨_, rfl⟩
                            have hj : wordN (restL s i) = j - i := by rw [HWN.out, hwend]; rfl
                            have hpos : i < j := by have := HPOS.out; omega
                            have HT5 : Hid (X = txtT (5, (restL s i).take (j - i))) := by
                              unfold Hid
                              apply bytes_ext
                              rw [← hX, ← hY]
                              simp only [ByteArray.data_append, Array.toList_append]
                              rw [ext_mid]
                              rfl
                            have HI2 : Hid (toksL s.data.toList = (toksL (restL s j)).map ((P ++ [(5, (restL s i).take (j - i))]) ++ ·)) := by
                              unfold Hid
                              rw [HQ.out, hj, ← rest_add, show i + (j - i) = j by omega]
                              cases toksL (restL s j) <;> simp
                            have k4 : (j : Int) ≤ (s.size : Int) := by omega
                            have k5 : (i : Int) ≤ (j : Int) := by omega
                            clear hj HQ HWN HTW hwend
                            generalize (restL s i).take (j - i) = tk at *
                            go_wp2_with (first | (first | (go_at_call 36; with_reducible refine (HFD.out _).mono ?_; rintro _ wq ⟨rfl, hq⟩; rw [hq]; clear hq) | (go_at_call 42; with_reducible refine (HBJ.out _).mono ?_; rintro _ wq ⟨rfl, hq⟩; rw [hq]; clear hq)) | (at_builtin; refine wpList_append_own _ rfl _ _ 35 rfl w.heap.size 9 i0 (.string .empty) 1 16 Tryd.underlying35 hi hz0 hz1 hz2 rfl (by decide) _ _ _ rfl (World.ownsRow.alloc HO.out _) ⟨Wr.heap.size, 0, none⟩ 1 1 [.string X] ?dz0 rfl ?dz1 ?dz2 ?dz3 ?dz4 ?dz5 ?_))
                            try (case dz0 => rfl)
                            try (case dz1 => exact cell_new_at _ _ _ _ rfl)
                            case dz2 => first | (intro u hu; simp at hu; subst hu; rfl) | rfl
                            case dz3 => unfold maxLen; omega
                            case dz4 => omega
                            case dz5 => first | (simp; omega) | omega | trivial
                            intro v' w2 hown' hgrow _
                            have HO2 := hidM (OwnS.push hown')
                            have HB3 := hidM (OwnS.below HO.out HB.out hsz hgrow)
                            clear hown' hgrow
                            rw [HT5.out] at HO2
                            go_wp2_with fail
                            go_roundw
                            case rel => exact ⟨j, P ++ [(5, tk)], by omega, by go_num, by simp; omega, by rw [List.map_append, ← HPB.out]; exact HO2.out, HB3.out, HI2.out⟩
                            case measure => (show s.size - ((j : Int)).toNat < s.size - ((i : Int)).toNat); omega
                          | false =>
                            rw [hrm] at HWE HBJ
                            have HW2 : Hid (wordN (restL s i) = (j + 1 - i) + wordN (restL s (j + 1))) := by
                              unfold Hid
                              rw [HWN.out, HWE.out, HNX2.out]
                              simp
                              omega
                            clear HWE hrm HWN
                            generalize hj1 : j + 1 = j1 at *
                            have j3 : (j : Int) + 1 = (j1 : Int) := by omega
                            have j6 : j < j1 := by omega
                            have j7 : j1 ≤ s.size := by omega
                            clear hj1
                            go_wp2_with (first | (go_at_call 36; with_reducible refine (HFD.out _).mono ?_; rintro _ wq ⟨rfl, hq⟩; rw [hq]; clear hq) | (go_at_call 42; with_reducible refine (HBJ.out _).mono ?_; rintro _ wq ⟨rfl, hq⟩; rw [hq]; clear hq))
                            go_roundw
                            case rel => exact ⟨j1, by omega, j7, by go_num, trivial, HW2.out⟩
                            case measure => (show s.size - ((j1 : Int)).toNat < s.size - ((j : Int)).toNat); omega
end Go.Proofs.YtgkjmmfpbcgmgaaDoor

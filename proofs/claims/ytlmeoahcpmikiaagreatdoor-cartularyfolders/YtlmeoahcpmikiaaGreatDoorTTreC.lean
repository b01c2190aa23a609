/-
  Taken over from another program: TreC.
-/
import Derived.Test.YtlmeoahcpmikiaaGreatDoorJTShelf
import Derived.ScopeJumps
import Derived.Laws.RangeString
namespace Go.Proofs.YtlmeoahcpmikiaaGreatDoor.T
open Go.RowKit
/-- a scope with a jump forward: the rest is walked where the jump is taken -/
theorem wp_scope_forward {P : Program} {a : Act} {w : World} {Q : Exit → Act → World → Prop} {c rest : Code} (l : Nat) (hf : findLabel c l = some rest)
    (first : c.wp P (Exit.jump l (fun a w => rest.wp P (Exit.noGoto Q) a w) Q) a w) : (Code.scope c).wp P Q a w :=
  wp_scope_jumps l _ (fun _ _ => 0) hf first (fun _ _ h => wp_mono h (fun e _ _ hq => by cases e <;> first | exact hq | exact hq.elim))
def lowN (c : Nat) : Nat := if 65 ≤ c ∧ c ≤ 90 then c + 32 else c
def gitN (k : Nat) : Nat := [46, 103, 105, 116].getD k 0
theorem lowC_nat (c : UInt8) : (lowC c).toNat = lowN c.toNat := by
  unfold lowC lowN
  split
  · rw [UInt8.toNat_add]; show (c.toNat + 32) % 256 = _; omega
  · rfl
theorem fold_at {l : List UInt8} (h : l.map lowC = dotGit) : ∀ k, k < 4 → l.length = 4 ∧ lowN (l.getD k 0).toNat = gitN k := fun k hk => by
  have h1 : l.length = 4 := by have := congrArg List.length h; simpa [dotGit] using this
  refine ⟨h1, ?_⟩
  have h2 : (l.map lowC)[k]? = dotGit[k]? := by rw [h]
  rw [List.getElem?_map, List.getElem?_eq_getElem (by omega)] at h2
  have hd : ∀ j : Fin 4, dotGit[j.val]? = some (UInt8.ofNat (gitN j.val)) ∧ (UInt8.ofNat (gitN j.val)).toNat = gitN j.val := by decide
  rw [(hd ⟨k, hk⟩).1] at h2
  simp only [Option.map_some, Option.some.injEq] at h2
  rw [List.getD_eq_getElem?_getD, List.getElem?_eq_getElem (by omega), Option.getD_some, ← lowC_nat, h2]
  exact (hd ⟨k, hk⟩).2
theorem fold_no {l : List UInt8} {k : Nat} (hk : k < 4) (h : lowN (l.getD k 0).toNat ≠ gitN k) : decide (l.map lowC = dotGit) = false := decide_eq_false fun e => h (fold_at e k hk).2
theorem fold_len {l : List UInt8} (h : l.length ≠ 4) : decide (l.map lowC = dotGit) = false := decide_eq_false fun e => h (fold_at e 0 (by decide)).1
theorem fold_yes {l : List UInt8} (h : l.length = 4) (hk : ∀ k, k < 4 → lowN (l.getD k 0).toNat = gitN k) : decide (l.map lowC = dotGit) = true := by
  refine decide_eq_true ?_
  match l, h with
  | [a, b, c, d], _ =>
    have h0 := hk 0 (by decide); have h1 := hk 1 (by decide); have h2 := hk 2 (by decide); have h3 := hk 3 (by decide)
    simp only [List.getD_cons_zero, List.getD_cons_succ, gitN, ← lowC_nat] at h0 h1 h2 h3
    show [lowC a, lowC b, lowC c, lowC d] = [46, 103, 105, 116]
    rw [show lowC a = 46 from UInt8.toNat_inj.1 h0, show lowC b = 103 from UInt8.toNat_inj.1 h1, show lowC c = 105 from UInt8.toNat_inj.1 h2, show lowC d = 116 from UInt8.toNat_inj.1 h3]
theorem getD_byte (s : ByteArray) (k : Nat) (h : k < s.size) : s.data.toList.getD k 0 = s[k] := by
  have h2 : k < s.data.toList.length := by rw [Array.length_toList]; exact h
  rw [List.getD_eq_getElem?_getD, List.getElem?_eq_getElem h2]
  simp
  rfl
theorem or_big (c d : Nat) (hc : c < 256) (hd : d < 256) (h : 128 ≤ c) : ∃ o : Nat, bits .or .u8 (c : Int) (d : Int) = (o : Int) ∧ 128 ≤ o := by
  refine ⟨c ||| d, u8_or_nat c d hc hd, Nat.le_trans h Nat.left_le_or⟩
theorem or_small (c d : Nat) (hc : c < 128) (hd : d < 128) : ∃ o : Nat, bits .or .u8 (c : Int) (d : Int) = (o : Int) ∧ o < 128 := by
  refine ⟨c ||| d, u8_or_nat c d (by omega) (by omega), ?_⟩
  exact Nat.or_lt_two_pow (n := 7) hc hd
theorem decode_high (s : ByteArray) (pos : Nat) (h : 128 ≤ (s.get! pos).toNat) : 128 ≤ (Utf8.decode s pos).1 ∧ (Utf8.decode s pos).1 ≤ 1114111 := by
  have hr : Utf8.runeError = 65533 := rfl
  have h0 : (s.get! (pos + 0)).toNat = (s.get! pos).toNat := rfl
  have hb := (s.get! pos).toNat_lt
  have h1 := (s.get! (pos + 1)).toNat_lt
  have h2 := (s.get! (pos + 2)).toNat_lt
  have h3 := (s.get! (pos + 3)).toNat_lt
  unfold Utf8.decode
  simp only [h0, hr]
  rw [if_neg (by omega)]
  split
  · split
    · simp only; omega
    · simp only; omega
  · split
    · split
      · rename_i hv
        simp only [Bool.and_eq_true, decide_eq_true_eq] at hv
        simp only; omega
      · simp only; omega
    · split
      · split
        · rename_i hv
          simp only [Bool.and_eq_true, decide_eq_true_eq, Utf8.valid, Bool.or_eq_true] at hv
          simp only; omega
        · simp only; omega
      · simp only; omega
theorem run_next_rune {P : Program} (w : World) (s : ByteArray) (pos : Nat) (ty : TypeId) (h : pos < s.size) :
    (Instr.next (.pointer (some ⟨w.heap.size, 0, none⟩)) true ty).run P (w.iter s pos) =
      .ok (.tuple #[.bool true, .int .i64 pos, .int .i32 ((Utf8.decode s pos).1 : Int)]) (w.iter s (pos + (Utf8.decode s pos).2)) := by
  simp only [Instr.next, getObj, setObj, Sem.run_bind, Sem.run, World.iter_heap, Result.andThen, h, if_true, World.iter_set]
  simp [goInt]
set_option maxHeartbeats 1000000 in
set_option maxRecDepth 100000 in
theorem sf_any (c : Nat) (w : World) (hG : GT w) (hc : c ∈ [46, 103, 71, 105, 73, 116, 84]) : Calls Tryz.prog 215 #[.int .i32 (c : Int)] w fun e w' => e = .returned (.int .i32 (foldC c : Int)) ∧ w' = w := by
  have hcell := hG.fd c hc
  have hb : c < 128 ∧ foldC c < 200 := by
    have : ∀ x ∈ [46, 103, 71, 105, 73, 116, 84], x < 128 ∧ foldC x < 200 := by decide
    exact this c hc
  obtain ⟨f, hf⟩ : ∃ f, f = foldC c := ⟨_, rfl⟩
  rw [← hf] at hcell hb ⊢
  have g1 : ¬ (c : Int) < 0 := by omega
  have g2 : ¬ (1114111 : Int) < (c : Int) := by omega
  have g3 : (c : Int) < 128 := by omega
  have e1 : IntKind.i64.wrap (c : Int) = (c : Int) := by rw [IntKind.wrap_i64]; omega
  have e2 : IntKind.i32.wrap (f : Int) = (f : Int) := by rw [IntKind.wrap_i32]; omega
  obtain ⟨c1, f1⟩ := hb
  clear hG hc hf
  go_enter Tryz.func215, Tryz.ntmps215
  go_wp2
  go_ret
  exact ⟨rfl, rfl⟩
theorem ba_get0 (b : ByteArray) (h : 0 < b.size) : b.get! 0 = b[0]'h := by
  simp [ByteArray.get!, getElem!_pos, h]
  rfl
theorem ba_list (b : ByteArray) (k : Nat) (h : k < b.size) : b.data.toList[k]? = some (b[k]'h) := by
  rw [List.getElem?_eq_getElem (by rw [Array.length_toList]; exact h)]
  simp
  rfl
theorem ext_get0 (s : ByteArray) (k : Nat) (h : k < s.size) : 0 < (s.extract k s.size).size ∧ (s.extract k s.size).get! 0 = s[k]'h ∧ (s.extract k s.size).data.toList[0]? = some (s[k]'h) := by
  have h1 : 0 < (s.extract k s.size).size := by rw [ByteArray.size_extract]; omega
  have h2 : (s.extract k s.size).data.toList[0]? = some (s[k]'h) := by
    rw [ByteArray.data_extract, Array.toList_extract, List.extract_eq_take_drop]
    rw [List.getElem?_take, if_pos (by omega), List.getElem?_drop, Nat.add_zero, ba_list s k h]
  refine ⟨h1, ?_, h2⟩
  rw [ba_get0 _ h1]
  exact Option.some.inj ((ba_list _ 0 h1).symm.trans h2)
set_option maxHeartbeats 4000000 in
set_option maxRecDepth 100000 in
theorem fold_any (s : ByteArray) (w : World) (hG : GT w) (hs : s.size ≤ 100) :
    Calls Tryz.prog 165 #[.string s, .string ⟨#[46, 103, 105, 116]⟩] w fun e w' => e = .returned (.bool (decide (s.data.toList.map lowC = dotGit))) ∧ Below w.heap.size w w' := by
  have HG := hidM hG
  obtain ⟨T, hT⟩ : ∃ T : ByteArray, T = ⟨#[46, 103, 105, 116]⟩ := ⟨_, rfl⟩
  rw [← hT]
  have tz : T.size = 4 := by rw [hT]; rfl
  have HTT := hidM hT
  clear hT
  obtain ⟨N, hN⟩ : ∃ N, N = min s.size 4 := ⟨_, rfl⟩
  have hmin : min (s.size : Int) 4 = (N : Int) := by omega
  have hN4 : N ≤ 4 := by omega
  have hNs : N ≤ s.size := by omega
  have HNE : Hid (N = min s.size 4) := hN
  have HLN : Hid (s.data.toList.length = s.size) := Array.length_toList
  clear hG hN
  go_enter Tryz.func165, Tryz.ntmps165
  go_wp2
  refine wp_scope_forward (rest := ?rest) 0 ?hf ?_
  case hf => rfl
  go_wp2
  go_loopw [5, 7, 8] (fun iv _ _ wr => ∃ k : Nat, k ≤ N ∧ iv = .int .i64 (k : Int) ∧ wr = w ∧ ∀ j, j < k → lowN (s.data.toList.getD j 0).toNat = gitN j) (fun iv _ _ _ => N - (intOf iv).toNat)
  case atStart => exact ⟨0, Nat.zero_le _, rfl, rfl, fun j hj => by omega⟩
  case round =>
    obtain ⟨k, hk, rfl, hwr, hno⟩ := hrel
    subst hwr
    have HNO := hidM hno
    clear hno
    by_cases hlt : k < N
    · have k0 : (k : Int) < (N : Int) := by omega
      have ks : k < s.size := by omega
      have ksi : (k : Int) < (s.size : Int) := by omega
      have HGD := hidM (getD_byte s k ks)
      obtain ⟨c, hc⟩ : ∃ c : Nat, c = (s[k]'ks).toNat := ⟨_, rfl⟩
      have c256 : c < 256 := by rw [hc]; exact UInt8.toNat_lt _
      have HC : Hid ((s.data.toList.getD k 0).toNat = c) := by unfold Hid; rw [HGD.out, hc]
      have ec : ((s[k]'ks).toNat : Int) = (c : Int) := by rw [hc]
      clear hc HGD
      have hk4 : k = 0 ∨ k = 1 ∨ k = 2 ∨ k = 3 := by omega
      rcases hk4 with rfl | rfl | rfl | rfl
      · have g0 : gitN 0 = 46 := rfl
        have tk : 0 < T.size := by rw [tz]; decide
        have ed : (T[0]'tk).toNat = 46 := by have h := HTT.out; subst h; rfl
        by_cases hb : 128 ≤ c
        · have HR : Hid (decide (s.data.toList.map lowC = dotGit) = false) := fold_no (k := 0) (by decide) (by rw [HC.out, g0]; unfold lowN; rw [if_neg (by omega)]; omega)
          obtain ⟨o, ho, ho8⟩ := or_big c 46 c256 (by decide) hb
          have ho' : bits .or .u8 (c : Int) 46 = (o : Int) := ho
          have g8 : (128 : Int) ≤ (o : Int) := by omega
          clear ho ho8
          as_aux_lemma =>
            have hS0 : 0 < s.size := ks
            have hS1 : s.get! 0 = s[0]'ks := ba_get0 s ks
            obtain ⟨hT0, _, hT2⟩ := ext_get0 T 0 tk
            rw [tz] at hT0 hT2
            have hdec := decode_high (s) 0 (by rw [hS1]; have : ((s[0]'ks).toNat : Int) = (c : Int) := ec; omega)
            have HNR := hidM (fun ty => run_next_rune (P := Tryz.prog) wr (s) 0 ty hS0)
            have HDA := hidM (fun W => Tryz.utf8_DecodeRuneInString_ascii (T.extract 0 4) (T[0]'tk) W hT2 (by rw [ed]; decide))
            have htz : (T.extract 0 4).size = 4 := by rw [ByteArray.size_extract, tz]; rfl
            rw [ed] at HDA
            clear hT0 hT2 hS0 hS1
            go_wp2
            go_step3
            refine (⟨rfl, ?_⟩ : (0 : Nat) = 0 ∧ _)
            go_wp2
            generalize T.extract 0 4 = T2 at *
            generalize (Utf8.decode s 0).1 = r at *
            generalize (Utf8.decode s 0).2 = n at *
            obtain ⟨hr1, hr2⟩ := hdec
            have HBI : Hid (∀ m, Below wr.heap.size wr (wr.iter s m)) := fun m => (Below.refl _ wr).alloc (Nat.le_refl _) _
            go_loopw [1, 10, 11, 12, 13] (fun u1 _ _ _ _ wx => u1 = .string T2 ∧ wx = wr.iter s 0) (fun _ _ _ _ _ _ => 0)
            case atStart => exact ⟨rfl, rfl⟩
            case round =>
              obtain ⟨rfl, hwx⟩ := hrel
              rename_i wy
              subst hwx
              have hnx := HNR.out
              rw [Nat.zero_add] at hnx
              have d1 : ((46 : Int) == (r : Int)) = false := by simp; omega
              have d2 : (46 : Int) < (r : Int) := by omega
              have d3 : ¬ (r : Int) < 128 := by omega
              have HGI := hidM (HG.out.below (HBI.out n))
              have HBN := hidM (HBI.out n)
              go_wp2_with fail
              refine (HDA.out _).mono ?_
              rintro _ w9 ⟨rfl, h9⟩
              rw [h9]
              clear h9 w9 hnx HNR HDA
              generalize wr.iter s n = W at *
              have HSF : Hid (Calls Tryz.prog 215 #[.int .i32 46] W fun e w' => e = .returned (.int .i32 46) ∧ w' = W) := sf_any 46 W HGI.out (by decide)
              have HSG : Hid (Calls Tryz.prog 215 #[.int .i32 46] W fun e w' => e = .returned (.int .i32 46) ∧ w' = W) := sf_any 46 W HGI.out (by decide)
              have f2 : (46 : Int) < (r : Int) := by omega
              have f3 : ((46 : Int) == (r : Int)) = false := by simp; omega
              go_wp2_with fail
              refine HSF.out.mono ?_
              rintro _ w9 ⟨rfl, h9⟩
              rw [h9]
              clear h9 w9
              go_wp2
              go_loopw [13] (fun v wx => (v = .int .i32 46 ∨ v = .int .i32 46) ∧ wx = W) (fun v _ => if intOf v = 46 then 0 else 1)
              case atStart => exact ⟨.inl rfl, rfl⟩
              case round =>
                obtain ⟨hv, hwx⟩ := hrel
                subst hwx
                rcases hv with rfl | rfl
                · go_wp2
                  (try simp only [Exit.noGoto])
                  go_ret
                  exact ⟨by rw [HR.out]; rfl, HBN.out⟩
                · go_wp2
                  (try simp only [Exit.noGoto])
                  go_ret
                  exact ⟨by rw [HR.out]; rfl, HBN.out⟩
        · by_cases he : c = 46
          · have HNX : Hid (∀ j, j < 0 + 1 → lowN (s.data.toList.getD j 0).toNat = gitN j) := fun j hj => by
              rcases Nat.lt_or_ge j 0 with h | h
              · exact HNO.out j h
              · obtain rfl : j = 0 := by omega
                rw [HC.out, he]; rfl
            have ho' : bits .or .u8 (c : Int) 46 = 46 := by rw [he]; decide +kernel
            have g1 : ((46 : Int) == (c : Int)) = true := by simp; omega
            subst he
            go_wp2
            go_roundw
            case rel => exact ⟨0 + 1, by omega, by go_num, by first | rfl | trivial, HNX.out⟩
            case measure => simp [intOf]; omega
          · obtain ⟨o, ho, ho8⟩ := or_small c 46 (by omega) (by decide)
            have ho' : bits .or .u8 (c : Int) 46 = (o : Int) := ho
            have g8 : ¬ (128 : Int) ≤ (o : Int) := by omega
            have g1 : ((46 : Int) == (c : Int)) = false := by simp; omega
            clear ho ho8
            by_cases hl : 46 < c
            · have g2 : (46 : Int) < (c : Int) := by omega
              have HR : Hid (decide (s.data.toList.map lowC = dotGit) = false) := fold_no (k := 0) (by decide) (by rw [HC.out, g0]; unfold lowN; split <;> omega)
              go_wp2
              (try simp only [Exit.jump])
              go_ret
              exact ⟨by rw [HR.out]; rfl, Below.refl _ _⟩
            · have g2 : ¬ (46 : Int) < (c : Int) := by omega
              have HR : Hid (decide (s.data.toList.map lowC = dotGit) = false) := fold_no (k := 0) (by decide) (by rw [HC.out, g0]; unfold lowN; split <;> omega)
              have g3 : ¬ (65 : Int) ≤ (c : Int) := by omega
              go_wp2
              (try simp only [Exit.jump])
              go_ret
              exact ⟨by rw [HR.out]; rfl, Below.refl _ _⟩
      · have g0 : gitN 1 = 103 := rfl
        have tk : 1 < T.size := by rw [tz]; decide
        have ed : (T[1]'tk).toNat = 103 := by have h := HTT.out; subst h; rfl
        by_cases hb : 128 ≤ c
        · have HR : Hid (decide (s.data.toList.map lowC = dotGit) = false) := fold_no (k := 1) (by decide) (by rw [HC.out, g0]; unfold lowN; rw [if_neg (by omega)]; omega)
          obtain ⟨o, ho, ho8⟩ := or_big c 103 c256 (by decide) hb
          have ho' : bits .or .u8 (c : Int) 103 = (o : Int) := ho
          have g8 : (128 : Int) ≤ (o : Int) := by omega
          clear ho ho8
          as_aux_lemma =>
            obtain ⟨hS0, hS1, _⟩ := ext_get0 s 1 ks
            obtain ⟨hT0, _, hT2⟩ := ext_get0 T 1 tk
            rw [tz] at hT0 hT2
            have hdec := decode_high (s.extract 1 s.size) 0 (by rw [hS1]; have : ((s[1]'ks).toNat : Int) = (c : Int) := ec; omega)
            have HNR := hidM (fun ty => run_next_rune (P := Tryz.prog) wr (s.extract 1 s.size) 0 ty hS0)
            have HDA := hidM (fun W => Tryz.utf8_DecodeRuneInString_ascii (T.extract 1 4) (T[1]'tk) W hT2 (by rw [ed]; decide))
            have htz : (T.extract 1 4).size = 3 := by rw [ByteArray.size_extract, tz]; rfl
            rw [ed] at HDA
            clear hT0 hT2 hS0 hS1
            go_wp2
            go_step3
            refine (⟨rfl, ?_⟩ : (0 : Nat) = 0 ∧ _)
            go_wp2
            generalize s.extract 1 s.size = S at *
            generalize T.extract 1 4 = T2 at *
            generalize (Utf8.decode S 0).1 = r at *
            generalize (Utf8.decode S 0).2 = n at *
            obtain ⟨hr1, hr2⟩ := hdec
            have HBI : Hid (∀ m, Below wr.heap.size wr (wr.iter S m)) := fun m => (Below.refl _ wr).alloc (Nat.le_refl _) _
            go_loopw [1, 10, 11, 12, 13] (fun u1 _ _ _ _ wx => u1 = .string T2 ∧ wx = wr.iter S 0) (fun _ _ _ _ _ _ => 0)
            case atStart => exact ⟨rfl, rfl⟩
            case round =>
              obtain ⟨rfl, hwx⟩ := hrel
              rename_i wy
              subst hwx
              have hnx := HNR.out
              rw [Nat.zero_add] at hnx
              have d1 : ((103 : Int) == (r : Int)) = false := by simp; omega
              have d2 : (103 : Int) < (r : Int) := by omega
              have d3 : ¬ (r : Int) < 128 := by omega
              have HGI := hidM (HG.out.below (HBI.out n))
              have HBN := hidM (HBI.out n)
              go_wp2_with fail
              refine (HDA.out _).mono ?_
              rintro _ w9 ⟨rfl, h9⟩
              rw [h9]
              clear h9 w9 hnx HNR HDA
              generalize wr.iter S n = W at *
              have HSF : Hid (Calls Tryz.prog 215 #[.int .i32 103] W fun e w' => e = .returned (.int .i32 71) ∧ w' = W) := sf_any 103 W HGI.out (by decide)
              have HSG : Hid (Calls Tryz.prog 215 #[.int .i32 71] W fun e w' => e = .returned (.int .i32 103) ∧ w' = W) := sf_any 71 W HGI.out (by decide)
              have f2 : (71 : Int) < (r : Int) := by omega
              have f3 : ((71 : Int) == (r : Int)) = false := by simp; omega
              go_wp2_with fail
              refine HSF.out.mono ?_
              rintro _ w9 ⟨rfl, h9⟩
              rw [h9]
              clear h9 w9
              go_wp2
              go_loopw [13] (fun v wx => (v = .int .i32 71 ∨ v = .int .i32 103) ∧ wx = W) (fun v _ => if intOf v = 103 then 0 else 1)
              case atStart => exact ⟨.inl rfl, rfl⟩
              case round =>
                obtain ⟨hv, hwx⟩ := hrel
                subst hwx
                rcases hv with rfl | rfl
                · go_wp2_with fail
                  refine HSG.out.mono ?_
                  rintro _ w9 ⟨rfl, h9⟩
                  rw [h9]
                  clear h9 w9
                  go_wp2
                  go_roundw
                  case rel => exact ⟨.inr rfl, by first | rfl | trivial⟩
                  case measure => simp [intOf]
                · go_wp2
                  (try simp only [Exit.noGoto])
                  go_ret
                  exact ⟨by rw [HR.out]; rfl, HBN.out⟩
        · by_cases he : c = 103
          · have HNX : Hid (∀ j, j < 1 + 1 → lowN (s.data.toList.getD j 0).toNat = gitN j) := fun j hj => by
              rcases Nat.lt_or_ge j 1 with h | h
              · exact HNO.out j h
              · obtain rfl : j = 1 := by omega
                rw [HC.out, he]; rfl
            have ho' : bits .or .u8 (c : Int) 103 = 103 := by rw [he]; decide +kernel
            have g1 : ((103 : Int) == (c : Int)) = true := by simp; omega
            subst he
            go_wp2
            go_roundw
            case rel => exact ⟨1 + 1, by omega, by go_num, by first | rfl | trivial, HNX.out⟩
            case measure => simp [intOf]; omega
          · obtain ⟨o, ho, ho8⟩ := or_small c 103 (by omega) (by decide)
            have ho' : bits .or .u8 (c : Int) 103 = (o : Int) := ho
            have g8 : ¬ (128 : Int) ≤ (o : Int) := by omega
            have g1 : ((103 : Int) == (c : Int)) = false := by simp; omega
            clear ho ho8
            by_cases hl : 103 < c
            · have g2 : (103 : Int) < (c : Int) := by omega
              have HR : Hid (decide (s.data.toList.map lowC = dotGit) = false) := fold_no (k := 1) (by decide) (by rw [HC.out, g0]; unfold lowN; split <;> omega)
              go_wp2
              (try simp only [Exit.jump])
              go_ret
              exact ⟨by rw [HR.out]; rfl, Below.refl _ _⟩
            · have g2 : ¬ (103 : Int) < (c : Int) := by omega
              by_cases hu : c = 71
              · have HNX : Hid (∀ j, j < 1 + 1 → lowN (s.data.toList.getD j 0).toNat = gitN j) := fun j hj => by
                  rcases Nat.lt_or_ge j 1 with h | h
                  · exact HNO.out j h
                  · obtain rfl : j = 1 := by omega
                    rw [HC.out, hu]; rfl
                subst hu
                go_wp2
                go_roundw
                case rel => exact ⟨1 + 1, by omega, by go_num, by first | rfl | trivial, HNX.out⟩
                case measure => simp [intOf]; omega
              · have HR : Hid (decide (s.data.toList.map lowC = dotGit) = false) := fold_no (k := 1) (by decide) (by rw [HC.out, g0]; unfold lowN; split <;> omega)
                by_cases h65 : 65 ≤ c ∧ c ≤ 90
                · have g3 : (65 : Int) ≤ (c : Int) := by omega
                  have g4 : (c : Int) ≤ 90 := by omega
                  obtain ⟨p, hp⟩ : ∃ p, p = c + 97 := ⟨_, rfl⟩
                  obtain ⟨q, hq⟩ : ∃ q, q = c + 32 := ⟨_, rfl⟩
                  have p1 : (c : Int) + 97 = (p : Int) := by omega
                  have p2 : (p : Int) - 65 = (q : Int) := by omega
                  have p3 : p < 256 := by omega
                  have p4 : q < 256 := by omega
                  have g5 : ((103 : Int) == (q : Int)) = false := by simp; omega
                  clear hp hq
                  go_wp2
                  (try simp only [Exit.jump])
                  go_ret
                  exact ⟨by rw [HR.out]; rfl, Below.refl _ _⟩
                · by_cases h6 : 65 ≤ c
                  · have g3 : (65 : Int) ≤ (c : Int) := by omega
                    have g4 : ¬ (c : Int) ≤ 90 := by omega
                    go_wp2
                    (try simp only [Exit.jump])
                    go_ret
                    exact ⟨by rw [HR.out]; rfl, Below.refl _ _⟩
                  · have g3 : ¬ (65 : Int) ≤ (c : Int) := by omega
                    go_wp2
                    (try simp only [Exit.jump])
                    go_ret
                    exact ⟨by rw [HR.out]; rfl, Below.refl _ _⟩
      · have g0 : gitN 2 = 105 := rfl
        have tk : 2 < T.size := by rw [tz]; decide
        have ed : (T[2]'tk).toNat = 105 := by have h := HTT.out; subst h; rfl
        by_cases hb : 128 ≤ c
        · have HR : Hid (decide (s.data.toList.map lowC = dotGit) = false) := fold_no (k := 2) (by decide) (by rw [HC.out, g0]; unfold lowN; rw [if_neg (by omega)]; omega)
          obtain ⟨o, ho, ho8⟩ := or_big c 105 c256 (by decide) hb
          have ho' : bits .or .u8 (c : Int) 105 = (o : Int) := ho
          have g8 : (128 : Int) ≤ (o : Int) := by omega
          clear ho ho8
          as_aux_lemma =>
            obtain ⟨hS0, hS1, _⟩ := ext_get0 s 2 ks
            obtain ⟨hT0, _, hT2⟩ := ext_get0 T 2 tk
            rw [tz] at hT0 hT2
            have hdec := decode_high (s.extract 2 s.size) 0 (by rw [hS1]; have : ((s[2]'ks).toNat : Int) = (c : Int) := ec; omega)
            have HNR := hidM (fun ty => run_next_rune (P := Tryz.prog) wr (s.extract 2 s.size) 0 ty hS0)
            have HDA := hidM (fun W => Tryz.utf8_DecodeRuneInString_ascii (T.extract 2 4) (T[2]'tk) W hT2 (by rw [ed]; decide))
            have htz : (T.extract 2 4).size = 2 := by rw [ByteArray.size_extract, tz]; rfl
            rw [ed] at HDA
            clear hT0 hT2 hS0 hS1
            go_wp2
            go_step3
            refine (⟨rfl, ?_⟩ : (0 : Nat) = 0 ∧ _)
            go_wp2
            generalize s.extract 2 s.size = S at *
            generalize T.extract 2 4 = T2 at *
            generalize (Utf8.decode S 0).1 = r at *
            generalize (Utf8.decode S 0).2 = n at *
            obtain ⟨hr1, hr2⟩ := hdec
            have HBI : Hid (∀ m, Below wr.heap.size wr (wr.iter S m)) := fun m => (Below.refl _ wr).alloc (Nat.le_refl _) _
            go_loopw [1, 10, 11, 12, 13] (fun u1 _ _ _ _ wx => u1 = .string T2 ∧ wx = wr.iter S 0) (fun _ _ _ _ _ _ => 0)
            case atStart => exact ⟨rfl, rfl⟩
            case round =>
              obtain ⟨rfl, hwx⟩ := hrel
              rename_i wy
              subst hwx
              have hnx := HNR.out
              rw [Nat.zero_add] at hnx
              have d1 : ((105 : Int) == (r : Int)) = false := by simp; omega
              have d2 : (105 : Int) < (r : Int) := by omega
              have d3 : ¬ (r : Int) < 128 := by omega
              have HGI := hidM (HG.out.below (HBI.out n))
              have HBN := hidM (HBI.out n)
              go_wp2_with fail
              refine (HDA.out _).mono ?_
              rintro _ w9 ⟨rfl, h9⟩
              rw [h9]
              clear h9 w9 hnx HNR HDA
              generalize wr.iter S n = W at *
              have HSF : Hid (Calls Tryz.prog 215 #[.int .i32 105] W fun e w' => e = .returned (.int .i32 73) ∧ w' = W) := sf_any 105 W HGI.out (by decide)
              have HSG : Hid (Calls Tryz.prog 215 #[.int .i32 73] W fun e w' => e = .returned (.int .i32 105) ∧ w' = W) := sf_any 73 W HGI.out (by decide)
              have f2 : (73 : Int) < (r : Int) := by omega
              have f3 : ((73 : Int) == (r : Int)) = false := by simp; omega
              go_wp2_with fail
              refine HSF.out.mono ?_
              rintro _ w9 ⟨rfl, h9⟩
              rw [h9]
              clear h9 w9
              go_wp2
              go_loopw [13] (fun v wx => (v = .int .i32 73 ∨ v = .int .i32 105) ∧ wx = W) (fun v _ => if intOf v = 105 then 0 else 1)
              case atStart => exact ⟨.inl rfl, rfl⟩
              case round =>
                obtain ⟨hv, hwx⟩ := hrel
                subst hwx
                rcases hv with rfl | rfl
                · go_wp2_with fail
                  refine HSG.out.mono ?_
                  rintro _ w9 ⟨rfl, h9⟩
                  rw [h9]
                  clear h9 w9
                  go_wp2
                  go_roundw
                  case rel => exact ⟨.inr rfl, by first | rfl | trivial⟩
                  case measure => simp [intOf]
                · go_wp2
                  (try simp only [Exit.noGoto])
                  go_ret
                  exact ⟨by rw [HR.out]; rfl, HBN.out⟩
        · by_cases he : c = 105
          · have HNX : Hid (∀ j, j < 2 + 1 → lowN (s.data.toList.getD j 0).toNat = gitN j) := fun j hj => by
              rcases Nat.lt_or_ge j 2 with h | h
              · exact HNO.out j h
              · obtain rfl : j = 2 := by omega
                rw [HC.out, he]; rfl
            have ho' : bits .or .u8 (c : Int) 105 = 105 := by rw [he]; decide +kernel
            have g1 : ((105 : Int) == (c : Int)) = true := by simp; omega
            subst he
            go_wp2
            go_roundw
            case rel => exact ⟨2 + 1, by omega, by go_num, by first | rfl | trivial, HNX.out⟩
            case measure => simp [intOf]; omega
          · obtain ⟨o, ho, ho8⟩ := or_small c 105 (by omega) (by decide)
            have ho' : bits .or .u8 (c : Int) 105 = (o : Int) := ho
            have g8 : ¬ (128 : Int) ≤ (o : Int) := by omega
            have g1 : ((105 : Int) == (c : Int)) = false := by simp; omega
            clear ho ho8
            by_cases hl : 105 < c
            · have g2 : (105 : Int) < (c : Int) := by omega
              have HR : Hid (decide (s.data.toList.map lowC = dotGit) = false) := fold_no (k := 2) (by decide) (by rw [HC.out, g0]; unfold lowN; split <;> omega)
              go_wp2
              (try simp only [Exit.jump])
              go_ret
              exact ⟨by rw [HR.out]; rfl, Below.refl _ _⟩
            · have g2 : ¬ (105 : Int) < (c : Int) := by omega
              by_cases hu : c = 73
              · have HNX : Hid (∀ j, j < 2 + 1 → lowN (s.data.toList.getD j 0).toNat = gitN j) := fun j hj => by
                  rcases Nat.lt_or_ge j 2 with h | h
                  · exact HNO.out j h
                  · obtain rfl : j = 2 := by omega
                    rw [HC.out, hu]; rfl
                subst hu
                go_wp2
                go_roundw
                case rel => exact ⟨2 + 1, by omega, by go_num, by first | rfl | trivial, HNX.out⟩
                case measure => simp [intOf]; omega
              · have HR : Hid (decide (s.data.toList.map lowC = dotGit) = false) := fold_no (k := 2) (by decide) (by rw [HC.out, g0]; unfold lowN; split <;> omega)
                by_cases h65 : 65 ≤ c ∧ c ≤ 90
                · have g3 : (65 : Int) ≤ (c : Int) := by omega
                  have g4 : (c : Int) ≤ 90 := by omega
                  obtain ⟨p, hp⟩ : ∃ p, p = c + 97 := ⟨_, rfl⟩
                  obtain ⟨q, hq⟩ : ∃ q, q = c + 32 := ⟨_, rfl⟩
                  have p1 : (c : Int) + 97 = (p : Int) := by omega
                  have p2 : (p : Int) - 65 = (q : Int) := by omega
                  have p3 : p < 256 := by omega
                  have p4 : q < 256 := by omega
                  have g5 : ((105 : Int) == (q : Int)) = false := by simp; omega
                  clear hp hq
                  go_wp2
                  (try simp only [Exit.jump])
                  go_ret
                  exact ⟨by rw [HR.out]; rfl, Below.refl _ _⟩
                · by_cases h6 : 65 ≤ c
                  · have g3 : (65 : Int) ≤ (c : Int) := by omega
                    have g4 : ¬ (c : Int) ≤ 90 := by omega
                    go_wp2
                    (try simp only [Exit.jump])
                    go_ret
                    exact ⟨by rw [HR.out]; rfl, Below.refl _ _⟩
                  · have g3 : ¬ (65 : Int) ≤ (c : Int) := by omega
                    go_wp2
                    (try simp only [Exit.jump])
                    go_ret
                    exact ⟨by rw [HR.out]; rfl, Below.refl _ _⟩
      · have g0 : gitN 3 = 116 := rfl
        have tk : 3 < T.size := by rw [tz]; decide
        have ed : (T[3]'tk).toNat = 116 := by have h := HTT.out; subst h; rfl
        by_cases hb : 128 ≤ c
        · have HR : Hid (decide (s.data.toList.map lowC = dotGit) = false) := fold_no (k := 3) (by decide) (by rw [HC.out, g0]; unfold lowN; rw [if_neg (by omega)]; omega)
          obtain ⟨o, ho, ho8⟩ := or_big c 116 c256 (by decide) hb
          have ho' : bits .or .u8 (c : Int) 116 = (o : Int) := ho
          have g8 : (128 : Int) ≤ (o : Int) := by omega
          clear ho ho8
          as_aux_lemma =>
            obtain ⟨hS0, hS1, _⟩ := ext_get0 s 3 ks
            obtain ⟨hT0, _, hT2⟩ := ext_get0 T 3 tk
            rw [tz] at hT0 hT2
            have hdec := decode_high (s.extract 3 s.size) 0 (by rw [hS1]; have : ((s[3]'ks).toNat : Int) = (c : Int) := ec; omega)
            have HNR := hidM (fun ty => run_next_rune (P := Tryz.prog) wr (s.extract 3 s.size) 0 ty hS0)
            have HDA := hidM (fun W => Tryz.utf8_DecodeRuneInString_ascii (T.extract 3 4) (T[3]'tk) W hT2 (by rw [ed]; decide))
            have htz : (T.extract 3 4).size = 1 := by rw [ByteArray.size_extract, tz]; rfl
            rw [ed] at HDA
            clear hT0 hT2 hS0 hS1
            go_wp2
            go_step3
            refine (⟨rfl, ?_⟩ : (0 : Nat) = 0 ∧ _)
            go_wp2
            generalize s.extract 3 s.size = S at *
            generalize T.extract 3 4 = T2 at *
            generalize (Utf8.decode S 0).1 = r at *
            generalize (Utf8.decode S 0).2 = n at *
            obtain ⟨hr1, hr2⟩ := hdec
            have HBI : Hid (∀ m, Below wr.heap.size wr (wr.iter S m)) := fun m => (Below.refl _ wr).alloc (Nat.le_refl _) _
            go_loopw [1, 10, 11, 12, 13] (fun u1 _ _ _ _ wx => u1 = .string T2 ∧ wx = wr.iter S 0) (fun _ _ _ _ _ _ => 0)
            case atStart => exact ⟨rfl, rfl⟩
            case round =>
              obtain ⟨rfl, hwx⟩ := hrel
              rename_i wy
              subst hwx
              have hnx := HNR.out
              rw [Nat.zero_add] at hnx
              have d1 : ((116 : Int) == (r : Int)) = false := by simp; omega
              have d2 : (116 : Int) < (r : Int) := by omega
              have d3 : ¬ (r : Int) < 128 := by omega
              have HGI := hidM (HG.out.below (HBI.out n))
              have HBN := hidM (HBI.out n)
              go_wp2_with fail
              refine (HDA.out _).mono ?_
              rintro _ w9 ⟨rfl, h9⟩
              rw [h9]
              clear h9 w9 hnx HNR HDA
              generalize wr.iter S n = W at *
              have HSF : Hid (Calls Tryz.prog 215 #[.int .i32 116] W fun e w' => e = .returned (.int .i32 84) ∧ w' = W) := sf_any 116 W HGI.out (by decide)
              have HSG : Hid (Calls Tryz.prog 215 #[.int .i32 84] W fun e w' => e = .returned (.int .i32 116) ∧ w' = W) := sf_any 84 W HGI.out (by decide)
              have f2 : (84 : Int) < (r : Int) := by omega
              have f3 : ((84 : Int) == (r : Int)) = false := by simp; omega
              go_wp2_with fail
              refine HSF.out.mono ?_
              rintro _ w9 ⟨rfl, h9⟩
              rw [h9]
              clear h9 w9
              go_wp2
              go_loopw [13] (fun v wx => (v = .int .i32 84 ∨ v = .int .i32 116) ∧ wx = W) (fun v _ => if intOf v = 116 then 0 else 1)
              case atStart => exact ⟨.inl rfl, rfl⟩
              case round =>
                obtain ⟨hv, hwx⟩ := hrel
                subst hwx
                rcases hv with rfl | rfl
                · go_wp2_with fail
                  refine HSG.out.mono ?_
                  rintro _ w9 ⟨rfl, h9⟩
                  rw [h9]
                  clear h9 w9
                  go_wp2
                  go_roundw
                  case rel => exact ⟨.inr rfl, by first | rfl | trivial⟩
                  case measure => simp [intOf]
                · go_wp2
                  (try simp only [Exit.noGoto])
                  go_ret
                  exact ⟨by rw [HR.out]; rfl, HBN.out⟩
        · by_cases he : c = 116
          · have HNX : Hid (∀ j, j < 3 + 1 → lowN (s.data.toList.getD j 0).toNat = gitN j) := fun j hj => by
              rcases Nat.lt_or_ge j 3 with h | h
              · exact HNO.out j h
              · obtain rfl : j = 3 := by omega
                rw [HC.out, he]; rfl
            have ho' : bits .or .u8 (c : Int) 116 = 116 := by rw [he]; decide +kernel
            have g1 : ((116 : Int) == (c : Int)) = true := by simp; omega
            subst he
            go_wp2
            go_roundw
            case rel => exact ⟨3 + 1, by omega, by go_num, by first | rfl | trivial, HNX.out⟩
            case measure => simp [intOf]; omega
          · obtain ⟨o, ho, ho8⟩ := or_small c 116 (by omega) (by decide)
            have ho' : bits .or .u8 (c : Int) 116 = (o : Int) := ho
            have g8 : ¬ (128 : Int) ≤ (o : Int) := by omega
            have g1 : ((116 : Int) == (c : Int)) = false := by simp; omega
            clear ho ho8
            by_cases hl : 116 < c
            · have g2 : (116 : Int) < (c : Int) := by omega
              have HR : Hid (decide (s.data.toList.map lowC = dotGit) = false) := fold_no (k := 3) (by decide) (by rw [HC.out, g0]; unfold lowN; split <;> omega)
              go_wp2
              (try simp only [Exit.jump])
              go_ret
              exact ⟨by rw [HR.out]; rfl, Below.refl _ _⟩
            · have g2 : ¬ (116 : Int) < (c : Int) := by omega
              by_cases hu : c = 84
              · have HNX : Hid (∀ j, j < 3 + 1 → lowN (s.data.toList.getD j 0).toNat = gitN j) := fun j hj => by
                  rcases Nat.lt_or_ge j 3 with h | h
                  · exact HNO.out j h
                  · obtain rfl : j = 3 := by omega
                    rw [HC.out, hu]; rfl
                subst hu
                go_wp2
                go_roundw
                case rel => exact ⟨3 + 1, by omega, by go_num, by first | rfl | trivial, HNX.out⟩
                case measure => simp [intOf]; omega
              · have HR : Hid (decide (s.data.toList.map lowC = dotGit) = false) := fold_no (k := 3) (by decide) (by rw [HC.out, g0]; unfold lowN; split <;> omega)
                by_cases h65 : 65 ≤ c ∧ c ≤ 90
                · have g3 : (65 : Int) ≤ (c : Int) := by omega
                  have g4 : (c : Int) ≤ 90 := by omega
                  obtain ⟨p, hp⟩ : ∃ p, p = c + 97 := ⟨_, rfl⟩
                  obtain ⟨q, hq⟩ : ∃ q, q = c + 32 := ⟨_, rfl⟩
                  have p1 : (c : Int) + 97 = (p : Int) := by omega
                  have p2 : (p : Int) - 65 = (q : Int) := by omega
                  have p3 : p < 256 := by omega
                  have p4 : q < 256 := by omega
                  have g5 : ((116 : Int) == (q : Int)) = false := by simp; omega
                  clear hp hq
                  go_wp2
                  (try simp only [Exit.jump])
                  go_ret
                  exact ⟨by rw [HR.out]; rfl, Below.refl _ _⟩
                · by_cases h6 : 65 ≤ c
                  · have g3 : (65 : Int) ≤ (c : Int) := by omega
                    have g4 : ¬ (c : Int) ≤ 90 := by omega
                    go_wp2
                    (try simp only [Exit.jump])
                    go_ret
                    exact ⟨by rw [HR.out]; rfl, Below.refl _ _⟩
                  · have g3 : ¬ (65 : Int) ≤ (c : Int) := by omega
                    go_wp2
                    (try simp only [Exit.jump])
                    go_ret
                    exact ⟨by rw [HR.out]; rfl, Below.refl _ _⟩
    · have k0 : ¬ (k : Int) < (N : Int) := by omega
      by_cases h4 : s.size = 4
      · have e4 : ((s.size : Int) == 4) = true := by simp; omega
        have HR : Hid (decide (s.data.toList.map lowC = dotGit) = true) := fold_yes (by rw [HLN.out]; exact h4) (fun j hj => HNO.out j (by have := HNE.out; omega))
        go_wp2
        (try simp only [Exit.jump])
        go_ret
        exact ⟨by rw [HR.out]; rfl, Below.refl _ _⟩
      · have e4 : ((s.size : Int) == 4) = false := by simp; omega
        have HR : Hid (decide (s.data.toList.map lowC = dotGit) = false) := fold_len (by rw [HLN.out]; exact h4)
        clear h4
        go_wp2
        (try simp only [Exit.jump])
        go_ret
        exact ⟨by rw [HR.out]; rfl, Below.refl _ _⟩
end Go.Proofs.YtlmeoahcpmikiaaGreatDoor.T

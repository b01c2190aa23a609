/-
  Module files: what the document fixes.
  ModfileJoins: the law's walk.
  A text of one line, with a line's end and more behind it: its tokens and its row.
  Lines of module files with blanks ahead, a remark behind, and empty lines: nothing but where lines stand is changed.
  ModfileBlanks: the law's walk.
  The way to the card where the road reads a variable that no laid table ties: the world that the card hands on is of its shape, and this says what the variable holds.
-/
import Derived.Test.YtgkjmmfpbcgmgaaDoorJPthD
import Derived.Handed
import Derived.SizedLaws
import Derived.ChangeOld
import Derived.ShutString
import Derived.Shelf.Vars
namespace Go.Proofs.YtgkjmmfpbcgmgaaDoor
open Go.RowKit

theorem mod_one : modL [109, 111, 100, 117, 108, 101, 32, 101, 120, 97, 109, 112, 108, 101, 46, 99, 111, 109, 47, 97, 32, 47, 47, 32, 120, 10] = ([101, 120, 97, 109, 112, 108, 101, 46, 99, 111, 109, 47, 97], 0, 0) := by decide +kernel
theorem mod_two : modL [10, 34, 120, 10] = ([], 2, 3) := by decide +kernel
set_option maxHeartbeats 1000000 in
theorem awake_any (w : World) : Calls Tryd.prog 13 #[] w fun e w' => e = .returned (.bool true) ∧ Below w.heap.size w w' := by
  have H1 : Hid (∀ V, Calls Tryd.prog 11 #[.string ⟨#[109, 111, 100, 117, 108, 101, 32, 101, 120, 97, 109, 112, 108, 101, 46, 99, 111, 109, 47, 97, 32, 47, 47, 32, 120, 10]⟩] V fun e w' => e = .returned (.tuple #[.string ⟨#[101, 120, 97, 109, 112, 108, 101, 46, 99, 111, 109, 47, 97]⟩, .int .i64 0, .int .i64 0]) ∧ Below V.heap.size V w') := by
    intro V
    have h := module_any ⟨#[109, 111, 100, 117, 108, 101, 32, 101, 120, 97, 109, 112, 108, 101, 46, 99, 111, 109, 47, 97, 32, 47, 47, 32, 120, 10]⟩ V (by decide)
    unfold ModQ at h
    rw [mod_one] at h
    exact h
  have H2 : Hid (∀ V, Calls Tryd.prog 11 #[.string ⟨#[10, 34, 120, 10]⟩] V fun e w' => e = .returned (.tuple #[.string ⟨#[]⟩, .int .i64 2, .int .i64 3]) ∧ Below V.heap.size V w') := by
    intro V
    have h := module_any ⟨#[10, 34, 120, 10]⟩ V (by decide)
    unfold ModQ at h
    rw [mod_two] at h
    exact h
  go_enter Tryd.func13, Tryd.ntmps13
  go_wp2_with fail
  refine (H1.out _).mono ?_
  rintro _ w1 ⟨rfl, hb1⟩
  go_wp2_with fail
  refine (H2.out _).mono ?_
  rintro _ w2 ⟨rfl, hb2⟩
  go_wp2
  go_ret
  exact ⟨rfl, hb1.trans (hb2.mono hb1.size)⟩
end Go.Proofs.YtgkjmmfpbcgmgaaDoor
namespace Go.Proofs.YtgkjmmfpbcgmgaaDoor
open Go.RowKit

def fewB (s : ByteArray) (n : Nat) : ByteArray := if n < s.size then s.extract 0 n else s
theorem fewB_size (s : ByteArray) (n : Nat) : (fewB s n).size ≤ n := by
  unfold fewB
  split
  · rw [ByteArray.size_extract]; omega
  · omega
set_option maxHeartbeats 1000000 in
theorem few_any (s : ByteArray) (n : Nat) (w : World) (hn : n ≤ 100000) : Calls Tryd.prog 8 #[.string s, .int .i64 (n : Int)] w fun e w' => e = .returned (.string (fewB s n)) ∧ w' = w := by
  by_cases h : n < s.size
  · have c0 : (n : Int) < (s.size : Int) := by omega
    have c1 : (0 : Int) ≤ (n : Int) := by omega
    have c2 : (n : Int) ≤ (s.size : Int) := by omega
    have HF : Hid (fewB s n = s.extract 0 n) := by unfold Hid fewB; rw [if_pos h]
    clear h
    go_enter Tryd.func8, Tryd.ntmps8
    go_wp2
    go_ret
    exact ⟨by rw [HF.out]; rfl, rfl⟩
  · have c0 : ¬ (n : Int) < (s.size : Int) := by omega
    have HF : Hid (fewB s n = s) := by unfold Hid fewB; rw [if_neg h]
    clear h
    go_enter Tryd.func8, Tryd.ntmps8
    go_wp2
    go_ret
    exact ⟨by rw [HF.out]; rfl, rfl⟩
theorem par_e (l : List UInt8) : ((parL l).2.2 = 0 ∧ (parL l).2.1 = 0) ∨ ((parL l).2.2 = 3 ∧ (parL l).1 = []) := par_err _ l [] [] 1 (Nat.lt_succ_self _)
theorem par_app2 (A B : List UInt8) (hA : A.getLast? = some 10) (h : (parL A).2.2 = 0) :
    parL (A ++ B) = if (parL B).2.2 = 0 then ((parL A).1 ++ (parL B).1.map (shL (A.count 10)), 0, 0) else ([], (parL B).2.1 + A.count 10, 3) := by
  have h1 := par_app (A.length + 1) A B [] [] 1 (Nat.lt_succ_self _) (.inr hA) h ((A ++ B).length + 1) (Nat.lt_succ_self _)
  have h2 := par_shift (B.length + 1) B [] [] 1 (A.count 10) (parL A).1 (Nat.lt_succ_self _)
  unfold parL at *
  rw [h1]
  simpa using h2
/-- where lines stand -/
theorem par_at : ∀ (f : Nat) (l blk : List UInt8) (out : List Ln) (k M : Nat), l.length < f → k + l.length ≤ M → (∀ x ∈ out, x.2.2 ≤ M) → (parG f l blk out k).2.1 ≤ M ∧ ∀ x ∈ (parG f l blk out k).1, x.2.2 ≤ M
  | 0, l, _, _, _, _, h, _, _ => absurd h (by omega)
  | f + 1, l, blk, out, k, M, hf, hM, ho => by
    cases hr : rowL l with
    | none => rw [parG_none hf hr]; exact ⟨by show k ≤ M; omega, by simp⟩
    | some r =>
      obtain ⟨ws, b, last, t⟩ := r
      cases ht : takeD blk ws b k with
      | none => rw [parG_bad hf hr ht]; exact ⟨by show k ≤ M; omega, by simp⟩
      | some y =>
        obtain ⟨blk', x⟩ := y
        have hx : ∀ z ∈ x, z.2.2 ≤ M := by
          intro z hz
          unfold takeD at ht
          repeat' split at ht
          all_goals first
            | (simp at ht; done)
            | (simp only [Option.some.injEq, Prod.mk.injEq] at ht; obtain ⟨_, rfl⟩ := ht; simp at hz; try (subst hz; simp; omega))
        have hox : ∀ z ∈ out ++ x, z.2.2 ≤ M := fun z hz => by
          rcases List.mem_append.1 hz with h | h
          · exact ho z h
          · exact hx z h
        cases last with
        | true =>
          rw [parG_last hf hr ht]
          split
          · exact ⟨by simp, hox⟩
          · exact ⟨by show k ≤ M; omega, by simp⟩
        | false =>
          obtain ⟨h1, h2, h3⟩ := parG_next (out := out) hf hr ht
          rw [h1]
          exact par_at f t blk' (out ++ x) (k + 1) M (by simpa using h2) (by omega) hox
theorem parL_at (l : List UInt8) : (parL l).2.1 ≤ l.length + 1 ∧ ∀ x ∈ (parL l).1, x.2.2 ≤ l.length + 1 := par_at _ l [] [] 1 _ (Nat.lt_succ_self _) (by omega) (by simp)
theorem parL_len (l : List UInt8) : (parL l).1.length ≤ l.length + 1 := by
  have := par_len (l.length + 1) l [] [] 1 (Nat.lt_succ_self _)
  unfold parL
  simpa using this
theorem joinB (a : ByteArray) (l : List UInt8) : (a ++ ⟨l.toArray⟩).data.toList = a.data.toList ++ l := by simp
theorem bne_list {a b : ByteArray} (h : a = b) : (a.toList == b.toList) = true := by rw [h]; simp
theorem getD_app_l {X Y : List Ln} {i : Nat} (h : i < X.length) : (X ++ Y).getD i noL = X.getD i noL := by simp [List.getD, List.getElem?_append_left h]
theorem getD_app_r {X Y : List Ln} {i : Nat} (h : ¬ i < X.length) : (X ++ Y).getD i noL = Y.getD (i - X.length) noL := by simp [List.getD, List.getElem?_append_right (Nat.le_of_not_lt h)]
theorem getD_sh {Y : List Ln} {i d : Nat} (h : i < Y.length) : (Y.map (shL d)).getD i noL = shL d (Y.getD i noL) := by simp [List.getD, h]
/-- the joined lines, one by one -/
theorem join_get {X Y : List Ln} {i d : Nat} : (i < X.length → ((X ++ Y.map (shL d)).getD i noL) = X.getD i noL) ∧ (¬ i < X.length → i < X.length + Y.length → ((X ++ Y.map (shL d)).getD i noL) = shL d (Y.getD (i - X.length) noL)) :=
  ⟨getD_app_l, fun h h2 => by rw [getD_app_r h, getD_sh (by omega)]⟩
set_option maxHeartbeats 4000000 in
set_option maxRecDepth 100000 in
theorem joins_walk (a b : ByteArray) (w : World) : Calls Tryd.prog 6 #[.string a, .string b] w fun e w' => e = .returned (.bool true) ∧ Below w.heap.size w w' := by
  have HF1 := hidM (few_any a 2000 w (by omega))
  have HF2 := hidM (few_any b 2000 w (by omega))
  have hz1 := fewB_size a 2000
  have hz2 := fewB_size b 2000
  generalize fewB a 2000 = A0 at *
  generalize fewB b 2000 = B at *
  have e1 : ¬ (9223372036854775807 : Nat) < A0.size + 1 := by omega
  obtain ⟨A, hA⟩ : ∃ A, A0 ++ (⟨#[10]⟩ : ByteArray) = A := ⟨_, rfl⟩
  have hAs : A.size = A0.size + 1 := by rw [← hA, ByteArray.size_append]; rfl
  have hzA : A.size ≤ 2001 := by omega
  have e2 : ¬ (9223372036854775807 : Nat) < A.size + B.size := by omega
  obtain ⟨Z, hZ⟩ : ∃ Z, A ++ B = Z := ⟨_, rfl⟩
  have hZs : Z.size ≤ 4001 := by rw [← hZ, ByteArray.size_append]; omega
  have HLA : Hid (A.data.toList.getLast? = some 10) := by unfold Hid; rw [← hA, joinB]; simp
  have HP1 := hidM (fun V => parse_any A V (by omega))
  have HP2 := hidM (fun V => parse_any B V (by omega))
  have HP3 := hidM (fun V => parse_any Z V (by omega))
  unfold ParPost at HP1 HP2 HP3
  have HJ : Hid ((parL A.data.toList).2.2 = 0 → parL Z.data.toList = if (parL B.data.toList).2.2 = 0 then ((parL A.data.toList).1 ++ (parL B.data.toList).1.map (shL (A.data.toList.count 10)), 0, 0) else ([], (parL B.data.toList).2.1 + A.data.toList.count 10, 3)) := by
    intro h
    have := par_app2 A.data.toList B.data.toList HLA.out h
    rw [← hZ, show (A ++ B).data.toList = A.data.toList ++ B.data.toList by simp]
    exact this
  have HE1 := hidM (par_e A.data.toList)
  have HE2 := hidM (par_e B.data.toList)
  have HA2 : Hid ((parL B.data.toList).2.1 ≤ 2001 ∧ ∀ x ∈ (parL B.data.toList).1, x.2.2 ≤ 2001) := by
    have := parL_at B.data.toList
    rw [sl_len] at this
    exact ⟨by omega, fun x hx => by have := this.2 x hx; omega⟩
  have hl1 : (parL A.data.toList).1.length ≤ 2002 := by have := parL_len A.data.toList; rw [sl_len] at this; omega
  have hl2 : (parL B.data.toList).1.length ≤ 2001 := by have := parL_len B.data.toList; rw [sl_len] at this; omega
  obtain ⟨d, hd⟩ : ∃ d, A.data.toList.count 10 = d := ⟨_, rfl⟩
  have hd2 : d ≤ 2001 := by have := List.count_le_length (l := A.data.toList) (a := 10); rw [sl_len] at this; omega
  rw [hd] at HJ
  have HD := hidM hd
  clear hd HLA hAs
  generalize parL A.data.toList = PA at *
  generalize parL B.data.toList = PB at *
  generalize parL Z.data.toList = PZ at *
  obtain ⟨X, xa, xe⟩ := PA
  obtain ⟨Y, ya, ye⟩ := PB
  obtain ⟨ZZ, za, ze⟩ := PZ
  simp only at HP1 HP2 HP3 HJ HE1 HE2 HA2 hl1 hl2
  have HEND : Hid (∀ V, Below w.heap.size w V → Calls Tryd.prog 13 #[] V fun e w' => e = .returned (.bool true) ∧ Below w.heap.size w w') := fun V hV => (awake_any V).mono fun e w' ⟨he, hb⟩ => ⟨he, hV.trans (hb.mono hV.size)⟩
  go_enter Tryd.func6, Tryd.ntmps6
  go_wp2_with fail
  refine HF1.out.mono ?_
  rintro _ w0 ⟨rfl, hw⟩
  rw [hw]
  clear hw HF1
  go_wp2_with fail
  refine HF2.out.mono ?_
  rintro _ w0b ⟨rfl, hw⟩
  rw [hw]
  clear hw HF2
  go_wp2_with fail
  refine (HP1.out _).mono ?_
  rintro _ w1 ⟨lv1, rfl, hv1, hb1⟩
  obtain ⟨a1, c1, rfl, hq1⟩ := hv1.view
  have HB1 := hidM hb1
  have HV1 := hidM hq1
  clear hb1 hv1 hq1 HP1
  go_wp2_with fail
  refine (HP2.out _).mono ?_
  rintro _ w2 ⟨lv2, rfl, hv2, hb2⟩
  obtain ⟨a2, c2, rfl, hq2⟩ := hv2.view
  have HV1b := hidM (HV1.out.below hb2)
  have HB2 := hidM (HB1.out.trans (hb2.mono HB1.out.size))
  have HV2 := hidM hq2
  clear hb2 hv2 hq2 HP2 HV1 HB1
  go_wp2_with fail
  refine (HP3.out _).mono ?_
  rintro _ w3 ⟨lv3, rfl, hv3, hb3⟩
  obtain ⟨a3, c3, rfl, hq3⟩ := hv3.view
  have HX := hidM (HV1b.out.below hb3)
  have HY := hidM (HV2.out.below hb3)
  have HB := hidM (HB2.out.trans (hb3.mono HB2.out.size))
  have HZ := hidM hq3
  clear hb3 hv3 hq3 HP3 HV1b HB2 HV2
  by_cases hx0 : xe = 0
  · subst hx0
    have HJ2 := hidM (HJ.out rfl)
    clear HJ HE1
    obtain ⟨lx, hlx⟩ : ∃ n, n = X.length := ⟨_, rfl⟩
    obtain ⟨ly, hly⟩ : ∃ n, n = Y.length := ⟨_, rfl⟩
    obtain ⟨lz, hlz⟩ : ∃ n, n = ZZ.length := ⟨_, rfl⟩
    rw [← hlx] at hl1
    rw [← hly] at hl2
    rw [← hlx, ← hly, ← hlz]
    have HLX := hidM hlx
    have HLY := hidM hly
    have HLZ := hidM hlz
    clear hlx hly hlz
    go_wp2
    go_loopw [14, 15, 51, 52, 53, 54, 55, 56, 57, 58, 59, 60, 61, 62] (fun v14 v15 _ _ _ _ _ _ _ _ _ _ _ _ wr => ∃ k j : Nat, k ≤ A.size ∧ j ≤ k ∧ v15 = .int .i64 (k : Int) ∧ v14 = .int .i64 (j : Int) ∧ (A.data.toList.take k).count 10 = j ∧ wr = w3) (fun _ v15 _ _ _ _ _ _ _ _ _ _ _ _ _ => A.size - (intOf v15).toNat)
    case atStart => exact ⟨0, 0, Nat.zero_le _, Nat.zero_le _, rfl, rfl, rfl, rfl⟩
    case round =>
      obtain ⟨k, j, hk, hjk, rfl, rfl, hcnt, rfl⟩ := hrel
      have HC := hidM hcnt
      clear hcnt
      by_cases hlt : k < A.size
      · have kk : (k : Int) < (A.size : Int) := by omega
        have HTK : Hid (A.data.toList.take (k + 1) = A.data.toList.take k ++ [A[k]]) := take_one A k hlt
        by_cases hc : A[k] = 10
        · have b1 : (((A[k].toNat : Nat) : Int) == 10) = true := by rw [hc]; rfl
          have HN : Hid ((A.data.toList.take (k + 1)).count 10 = j + 1) := by unfold Hid; rw [HTK.out, List.count_append, HC.out, hc]; rfl
          clear hc HTK
          go_wp2
          go_roundw
          case rel => exact ⟨k + 1, j + 1, by omega, by omega, by go_num, by go_num, HN.out, trivial⟩
          case measure => (show A.size - ((k : Int) + 1).toNat < A.size - ((k : Int)).toNat); omega
        · have b1 : (((A[k].toNat : Nat) : Int) == 10) = false := by
            rw [beq_eq_false_iff_ne]
            intro e; apply hc; exact UInt8.toNat_inj.1 (by have : (10 : UInt8).toNat = 10 := rfl; omega)
          have HN : Hid ((A.data.toList.take (k + 1)).count 10 = j) := by unfold Hid; rw [HTK.out, List.count_append, HC.out, List.count_eq_zero.2 (by simpa using Ne.symm hc)]; rfl
          clear hc HTK
          go_wp2
          go_roundw
          case rel => exact ⟨k + 1, j, by omega, by omega, by go_num, rfl, HN.out, trivial⟩
          case measure => (show A.size - ((k : Int) + 1).toNat < A.size - ((k : Int)).toNat); omega
      · have kk : ¬ (k : Int) < (A.size : Int) := by omega
        obtain ⟨W3, hW3⟩ : ∃ V : World, V = wr := ⟨_, rfl⟩
        subst hW3
        have hjd : j = d := by
          have := HC.out
          rw [List.take_of_length_le (by rw [sl_len]; omega)] at this
          rw [← HD.out, this]
        subst hjd
        clear HC HD
        by_cases hy0 : ye = 0
        · subst hy0
          rw [if_pos rfl] at HJ2
          have hze : ze = 0 := by have := HJ2.out; simp only [Prod.mk.injEq] at this; exact this.2.2
          have HZZ : Hid (ZZ = X ++ Y.map (shL j)) := by have := HJ2.out; simp only [Prod.mk.injEq] at this; exact this.1
          have hlen : lz = lx + ly := by rw [HLZ.out, HZZ.out, HLX.out, HLY.out]; simp
          have b2 : ((lz : Int) != (lx : Int) + (ly : Int)) = false := by rw [hlen]; simp
          subst hze
          have hlz2 : lz ≤ 4003 := by omega
          have HLEN := hidM hlen
          clear HJ2 HE2 hlen
          have HB0 := hidM HB.out
          go_wp2
          go_loopw [16, 17, 97, 98, 99, 100, 101, 102, 103, 104, 105, 106, 107, 108, 109, 110, 111, 112, 113, 114, 115, 116, 117, 118, 119, 120, 121, 122, 123, 124, 125, 126, 127, 128, 129, 130, 131, 132, 133, 134, 135, 136, 137, 138, 139, 140, 141, 142, 143, 144, 145, 146, 147, 148, 149, 150, 151, 152, 153, 154, 155, 156, 157, 158, 159, 160] (fun _ _ v97 _ _ _ _ _ _ _ _ _ _ _ _ _ _ _ _ _ _ _ _ _ _ _ _ _ _ _ _ _ _ _ _ _ _ _ _ _ _ _ _ _ _ _ _ _ _ _ _ _ _ _ _ _ _ _ _ _ _ _ _ _ _ _ wr => ∃ k : Nat, k ≤ lz ∧ v97 = .int .i64 (k : Int) ∧ Below W3.heap.size W3 wr) (fun _ _ v97 _ _ _ _ _ _ _ _ _ _ _ _ _ _ _ _ _ _ _ _ _ _ _ _ _ _ _ _ _ _ _ _ _ _ _ _ _ _ _ _ _ _ _ _ _ _ _ _ _ _ _ _ _ _ _ _ _ _ _ _ _ _ _ _ => lz - (intOf v97).toNat)
          case atStart => exact ⟨0, Nat.zero_le _, rfl, Below.refl _ _⟩
          case round =>
            obtain ⟨k, hk, rfl, hbr⟩ := hrel
            have HBR := hidM hbr
            clear hbr
            by_cases hlt2 : k < lz
            · have kk2 : (k : Int) < (lz : Int) := by omega
              have hkz : k < ZZ.length := by rw [← HLZ.out]; exact hlt2
              obtain ⟨g, off, rfl, hg, hat⟩ := (HZ.out.below HBR.out).at hkz
              obtain ⟨na, nc, z0, z1, z2, _⟩ := hat k hkz
              clear hat
              have HJG := hidM (join_get (X := X) (Y := Y) (i := k) (d := j))
              rw [← HZZ.out, ← HLX.out, ← HLY.out] at HJG
              generalize ZZ.getD k noL = L at *
              obtain ⟨verb, words, la⟩ := L
              simp only at z0 z1 z2
              unfold strV at z0
              obtain ⟨V, hV⟩ : ∃ V : ByteArray, V = ⟨verb.toArray⟩ := ⟨_, rfl⟩
              rw [← hV] at z0
              have HVV := hidM hV
              clear hV
              generalize words.length = nw at *
              obtain ⟨y0, y2⟩ : (wr.alloc (.cells #[.string V, .slice na nw nc, .int .i64 (la : Int)] 37)).cell? ⟨wr.heap.size, 0, none⟩ = some (.string V) ∧ (wr.alloc (.cells #[.string V, .slice na nw nc, .int .i64 (la : Int)] 37)).cell? ⟨wr.heap.size, 2, none⟩ = some (.int .i64 (la : Int)) :=
                ⟨World.cell?_alloc_mark wr _ 37 (0, 0) 0, World.cell?_alloc_mark wr _ 37 (0, 0) 2⟩
              have HB3 : Hid (Below wr.heap.size wr (wr.alloc (.cells #[.string V, .slice na nw nc, .int .i64 (la : Int)] 37))) := (Below.refl _ wr).alloc (Nat.le_refl _) _
              have HB4 := hidM (HBR.out.trans (HB3.out.mono HBR.out.size))
              go_upto_region 21 with fail
              generalize wr.alloc (.cells #[.string V, .slice na nw nc, .int .i64 (la : Int)] 37) = W4 at *
              generalize wr.heap.size = g4 at *
              clear z0 z1 z2 HB3
              by_cases hkx : k < lx
              · have kx : (k : Int) < (lx : Int) := by omega
                have hkx2 : k < X.length := by rw [← HLX.out]; exact hkx
                have hL := HJG.out.1 hkx
                obtain ⟨g5, off5, rfl, hg5, hat5⟩ := (HX.out.below HB4.out).at hkx2
                obtain ⟨na5, nc5, u0, u1, u2, _⟩ := hat5 k hkx2
                clear hat5 HJG
                rw [← hL] at u0 u1 u2
                simp only at u0 u1 u2
                unfold strV at u0
                rw [← HVV.out] at u0
                have r1 : ¬ (lx : Int) ≤ (k : Int) := by omega
                clear hL
                go_quiet (fail)
                go_wp2
                go_roundw
                case rel => exact ⟨k + 1, by omega, by go_num, below_dn HB4.out _⟩
                case measure => (show lz - ((k : Int) + 1).toNat < lz - ((k : Int)).toNat); omega
              · have kx : ¬ (k : Int) < (lx : Int) := by omega
                have kx3 : (lx : Int) ≤ (k : Int) := by omega
                have hlen := HLEN.out
                have hL := HJG.out.2 hkx (by omega)
                obtain ⟨jj, hjj⟩ : ∃ jj, jj = k - lx := ⟨_, rfl⟩
                have r2 : (k : Int) - (lx : Int) = (jj : Int) := by omega
                have r3 : (jj : Int) < (ly : Int) := by omega
                have hjy : jj < Y.length := by rw [← HLY.out]; omega
                rw [← hjj] at hL
                obtain ⟨g5, off5, rfl, hg5, hat5⟩ := (HY.out.below HB4.out).at hjy
                obtain ⟨na5, nc5, u0, u1, u2, _⟩ := hat5 jj hjy
                have hy7 : (Y.getD jj noL).2.2 ≤ 2001 := HA2.out.2 _ (by simp [List.getD, hjy])
                clear hat5 HJG hlen hjj
                generalize Y.getD jj noL = LY at *
                obtain ⟨yverb, ywords, yat⟩ := LY
                unfold shL at hL
                simp only [Prod.mk.injEq] at hL u0 u1 u2 hy7
                obtain ⟨rfl, rfl, hla⟩ := hL
                unfold strV at u0
                rw [← HVV.out] at u0
                have r4 : (yat : Int) + (j : Int) = (la : Int) := by omega
                have HLA := hidM hla
                clear hla
                go_quiet (fail)
                go_wp2
                go_roundw
                case rel => exact ⟨k + 1, by omega, by go_num, below_dn HB4.out _⟩
                case measure => (show lz - ((k : Int) + 1).toNat < lz - ((k : Int)).toNat); omega
            · have kk2 : ¬ (k : Int) < (lz : Int) := by omega
              go_wp2_with fail
              refine (HEND.out _ (HB0.out.trans (HBR.out.mono HB0.out.size))).mono ?_
              rintro _ w9 ⟨rfl, hb9⟩
              go_wp2
              go_ret
              exact ⟨rfl, hb9⟩
        · have h3 : ye = 3 ∧ Y = [] := by rcases HE2.out with h | h; exact absurd h.1 hy0; exact h
          obtain ⟨rfl, rfl⟩ := h3
          rw [if_neg (by simp)] at HJ2
          obtain ⟨rfl, hza, rfl⟩ : ZZ = [] ∧ za = ya + j ∧ ze = 3 := by have := HJ2.out; simpa using this
          have hlz0 : lz = 0 := HLZ.out
          subst hlz0
          have hya := HA2.out.1
          have r4 : (ya : Int) + (j : Int) = (za : Int) := by omega
          clear HJ2 hza HE2
          go_wp2_with fail
          refine (HEND.out _ HB.out).mono ?_
          rintro _ w9 ⟨rfl, hb9⟩
          go_wp2
          go_ret
          exact ⟨rfl, hb9⟩
  · have h3 : xe = 3 ∧ X = [] := by rcases HE1.out with h | h; exact absurd h.1 hx0; exact h
    obtain ⟨rfl, rfl⟩ := h3
    clear HE1 HE2 HJ HA2
    go_wp2_with fail
    refine (HEND.out _ HB.out).mono ?_
    rintro _ w4 ⟨rfl, hb4⟩
    go_wp2
    go_ret
    exact ⟨rfl, hb4⟩
end Go.Proofs.YtgkjmmfpbcgmgaaDoor
namespace Go.Proofs.YtgkjmmfpbcgmgaaDoor

theorem remB_line (c : UInt8) (r t : List UInt8) : remB (c :: r ++ 10 :: t) = remB (c :: r) := by
  cases r with
  | nil => simp [remB]
  | cons d r => simp [remB]
theorem skip_line : ∀ (m : Bool) (l t : List UInt8), 10 ∉ l → skipL m (l ++ 10 :: t) = skipL m l ++ 10 :: t
  | true, [], t, _ => by simp [skipL]
  | false, [], t, _ => by
    have h : remB (10 :: t) = false := by cases t <;> simp [remB]
    simp [skipL, h, blkB]
  | true, c :: r, t, h => by
    have hc : c ≠ 10 := fun e => h (by simp [e])
    rw [List.cons_append, skipL, skipL, if_neg hc, if_neg hc]
    exact skip_line true r t (fun e => h (by simp [e]))
  | false, c :: r, t, h => by
    have hr := remB_line c r t
    rw [List.cons_append] at hr ⊢
    rw [skipL, skipL, hr]
    have h2 : 10 ∉ r := fun e => h (by simp [e])
    by_cases h1 : remB (c :: r) = true
    · rw [if_pos h1, if_pos h1]; exact skip_line true r t h2
    · rw [if_neg h1, if_neg h1]
      by_cases h3 : blkB c = true
      · rw [if_pos h3, if_pos h3]; exact skip_line false r t h2
      · rw [if_neg h3, if_neg h3]; rfl
theorem quo_line : ∀ (n : Nat) (l t : List UInt8), l.length ≤ n → 10 ∉ l → quoL (l ++ 10 :: t) = (quoL l).map fun x => (x.1, x.2 ++ 10 :: t)
  | 0, [], t, _, _ => by rw [List.nil_append, quoL.eq_def]; simp [quoL]
  | n + 1, [], t, _, _ => by rw [List.nil_append, quoL.eq_def]; simp [quoL]
  | n + 1, c :: r, t, hl, h => by
    have hc : c ≠ 10 := fun e => h (by simp [e])
    have h2 : 10 ∉ r := fun e => h (by simp [e])
    rw [List.cons_append, quoL.eq_def, quoL.eq_def (c :: r)]
    simp only
    by_cases h1 : c = 34
    · subst h1; simp
    · rw [if_neg h1, if_neg h1, if_neg hc, if_neg hc]
      by_cases h3 : c = 92
      · rw [if_pos h3, if_pos h3]
        cases r with
        | nil => simp [mntL]
        | cons d r' =>
          simp only [List.cons_append]
          cases hm : mntL d with
          | none => simp
          | some e =>
            simp only [quo_line n r' t (by simp at hl; omega) (fun e => h2 (by simp [e]))]
            cases quoL r' <;> simp
      · rw [if_neg h3, if_neg h3, quo_line n r t (by simp at hl; omega) h2]
        cases quoL r <;> simp
theorem raw_line : ∀ (l t : List UInt8), 10 ∉ l → rawL (l ++ 10 :: t) = rawL l
  | [], t, _ => by simp [rawL]
  | c :: r, t, h => by
    have hc : c ≠ 10 := fun e => h (by simp [e])
    rw [List.cons_append, rawL, rawL, if_neg hc, if_neg hc, raw_line r t (fun e => h (by simp [e]))]
theorem word_line : ∀ (l t : List UInt8), 10 ∉ l → wordN (l ++ 10 :: t) = wordN l
  | [], t, _ => by simp [wordN, wEnd]
  | c :: r, t, h => by
    have hr := remB_line c r t
    rw [List.cons_append] at hr ⊢
    rw [wordN, wordN, wEnd, wEnd, hr, word_line r t (fun e => h (by simp [e]))]
/-- A token of a line with a line's end behind it. -/
theorem tok_line (l t : List UInt8) (h : 10 ∉ l) : ((tokL l).1 = 1 → tokL (l ++ 10 :: t) = (2, [], t)) ∧ ((tokL l).1 = 6 → (tokL (l ++ 10 :: t)).1 = 6) ∧
    ((tokL l).1 ≠ 1 → (tokL l).1 ≠ 6 → tokL (l ++ 10 :: t) = ((tokL l).1, (tokL l).2.1, (tokL l).2.2 ++ 10 :: t)) ∧ (tokL l).1 ≠ 2 ∧ 10 ∉ (tokL l).2.2 := by
  have hs := skip_line false l t h
  obtain ⟨n, hn, hd⟩ := skip_suf false l
  have h0 : 10 ∉ skipL false l := by rw [hd]; exact fun e => h (List.mem_of_mem_drop e)
  unfold tokL
  rw [hs]
  clear hs hd hn
  generalize skipL false l = k at *
  cases k with
  | nil => simp [tokS]
  | cons c r =>
    have hc : c ≠ 10 := fun e => h0 (by simp [e])
    have hr : 10 ∉ r := fun e => h0 (by simp [e])
    rw [List.cons_append, tokS, tokS, if_neg hc, if_neg hc]
    by_cases h2 : c = 40
    · simp [h2, hr]
    · rw [if_neg h2, if_neg h2]
      by_cases h3 : c = 41
      · simp [h3, hr]
      · rw [if_neg h3, if_neg h3]
        by_cases h4 : c = 34
        · rw [if_pos h4, if_pos h4, quo_line _ r t (Nat.le_refl _) hr]
          cases hq : quoL r with
          | none => simp
          | some x =>
            obtain ⟨m, _, _, h5⟩ := quo_suf _ r x.1 x.2 (Nat.le_refl _) hq
            have : 10 ∉ x.2 := by rw [h5]; exact fun e => hr (List.mem_of_mem_drop e)
            simp [this]
        · rw [if_neg h4, if_neg h4]
          by_cases h5 : c = 96
          · rw [if_pos h5, if_pos h5, raw_line r t hr]
            cases hq : rawL r with
            | none => simp
            | some m =>
              have hm := raw_le r m hq
              have : 10 ∉ r.drop (m + 1) := fun e => hr (List.mem_of_mem_drop e)
              simp only [List.take_append_of_le_length (Nat.le_of_lt hm), List.drop_append_of_le_length (show m + 1 ≤ r.length by omega)]
              simp [this]
          · rw [if_neg h5, if_neg h5, word_line r t hr]
            have hm := word_le r
            have : 10 ∉ r.drop (wordN r) := fun e => hr (List.mem_of_mem_drop e)
            simp only [List.take_append_of_le_length hm, List.drop_append_of_le_length hm]
            simp [this]
end Go.Proofs.YtgkjmmfpbcgmgaaDoor
namespace Go.Proofs.YtgkjmmfpbcgmgaaDoor

def rmk : List UInt8 := [32, 47, 47, 32, 114, 101, 109, 97, 114, 107]
theorem remB_rmk (c : UInt8) (r : List UInt8) : remB (c :: r ++ rmk) = remB (c :: r) := by
  cases r with
  | nil => simp [remB, rmk]
  | cons d r => simp [remB]
theorem skip_true : ∀ l : List UInt8, 10 ∉ l → skipL true l = []
  | [], _ => rfl
  | c :: r, h => by
    rw [skipL, if_neg (fun e => h (by simp [e]))]
    exact skip_true r (fun e => h (by simp [e]))
theorem rmk_no : (10 : UInt8) ∉ rmk := by decide
theorem no_app {l : List UInt8} (h : 10 ∉ l) : 10 ∉ l ++ rmk := fun e => by
  rcases List.mem_append.1 e with e | e
  · exact h e
  · exact rmk_no e
theorem skip_rmk : ∀ (l : List UInt8), 10 ∉ l → skipL false (l ++ rmk) = if skipL false l = [] then [] else skipL false l ++ rmk
  | [], _ => by decide
  | c :: r, h => by
    have hr := remB_rmk c r
    have h2 : 10 ∉ r := fun e => h (by simp [e])
    rw [List.cons_append] at hr ⊢
    rw [skipL, skipL, hr]
    by_cases h1 : remB (c :: r) = true
    · rw [if_pos h1, if_pos h1, skip_true _ (no_app h2), skip_true _ h2]; rfl
    · rw [if_neg h1, if_neg h1]
      by_cases h3 : blkB c = true
      · rw [if_pos h3, if_pos h3]; exact skip_rmk r h2
      · rw [if_neg h3, if_neg h3]; simp
theorem quo_rmk : ∀ (n : Nat) (l : List UInt8), l.length ≤ n → 10 ∉ l → quoL (l ++ rmk) = (quoL l).map fun x => (x.1, x.2 ++ rmk)
  | 0, [], _, _ => by decide
  | n + 1, [], _, _ => by decide
  | n + 1, c :: r, hl, h => by
    have hc : c ≠ 10 := fun e => h (by simp [e])
    have h2 : 10 ∉ r := fun e => h (by simp [e])
    rw [List.cons_append, quoL.eq_def, quoL.eq_def (c :: r)]
    simp only
    by_cases h1 : c = 34
    · subst h1; simp
    · rw [if_neg h1, if_neg h1, if_neg hc, if_neg hc]
      by_cases h3 : c = 92
      · rw [if_pos h3, if_pos h3]
        cases r with
        | nil => simp [mntL, rmk]
        | cons d r' =>
          simp only [List.cons_append]
          cases hm : mntL d with
          | none => simp
          | some e =>
            simp only [quo_rmk n r' (by simp at hl; omega) (fun e => h2 (by simp [e]))]
            cases quoL r' <;> simp
      · rw [if_neg h3, if_neg h3, quo_rmk n r (by simp at hl; omega) h2]
        cases quoL r <;> simp
theorem raw_rmk : ∀ (l : List UInt8), 10 ∉ l → rawL (l ++ rmk) = rawL l
  | [], _ => by decide
  | c :: r, h => by
    have hc : c ≠ 10 := fun e => h (by simp [e])
    rw [List.cons_append, rawL, rawL, if_neg hc, if_neg hc, raw_rmk r (fun e => h (by simp [e]))]
theorem word_rmk : ∀ (l : List UInt8), 10 ∉ l → wordN (l ++ rmk) = wordN l
  | [], _ => by decide
  | c :: r, h => by
    have hr := remB_rmk c r
    rw [List.cons_append] at hr ⊢
    rw [wordN, wordN, wEnd, wEnd, hr, word_rmk r (fun e => h (by simp [e]))]
/-- A token of a line with a remark behind it. -/
theorem tok_rmk (l : List UInt8) (h : 10 ∉ l) : ((tokL l).1 = 1 → tokL (l ++ rmk) = (1, [], [])) ∧ ((tokL l).1 = 6 → (tokL (l ++ rmk)).1 = 6) ∧
    ((tokL l).1 ≠ 1 → (tokL l).1 ≠ 6 → tokL (l ++ rmk) = ((tokL l).1, (tokL l).2.1, (tokL l).2.2 ++ rmk)) := by
  have hs := skip_rmk l h
  obtain ⟨n, hn, hd⟩ := skip_suf false l
  have h0 : 10 ∉ skipL false l := by rw [hd]; exact fun e => h (List.mem_of_mem_drop e)
  unfold tokL
  rw [hs]
  clear hs hd hn
  generalize skipL false l = k at *
  cases k with
  | nil => simp [tokS]
  | cons c r =>
    have hc : c ≠ 10 := fun e => h0 (by simp [e])
    have hr : 10 ∉ r := fun e => h0 (by simp [e])
    rw [if_neg (by simp), List.cons_append, tokS, tokS, if_neg hc, if_neg hc]
    by_cases h2 : c = 40
    · simp [h2]
    · rw [if_neg h2, if_neg h2]
      by_cases h3 : c = 41
      · simp [h3]
      · rw [if_neg h3, if_neg h3]
        by_cases h4 : c = 34
        · rw [if_pos h4, if_pos h4, quo_rmk _ r (Nat.le_refl _) hr]
          cases hq : quoL r with
          | none => simp
          | some x => simp
        · rw [if_neg h4, if_neg h4]
          by_cases h5 : c = 96
          · rw [if_pos h5, if_pos h5, raw_rmk r hr]
            cases hq : rawL r with
            | none => simp
            | some m =>
              have hm := raw_le r m hq
              simp only [List.take_append_of_le_length (Nat.le_of_lt hm), List.drop_append_of_le_length (show m + 1 ≤ r.length by omega)]
              simp
          · rw [if_neg h5, if_neg h5, word_rmk r hr]
            have hm := word_le r
            simp only [List.take_append_of_le_length hm, List.drop_append_of_le_length hm]
            simp
theorem tok_end (l : List UInt8) (h : (tokL l).1 = 1) : (tokL l).2.2 = [] := by
  unfold tokL at *
  generalize skipL false l = k at *
  cases k with
  | nil => rfl
  | cons c r =>
    rw [tokS] at h
    repeat' split at h
    all_goals simp at h
/-- A line with a line's end behind it. -/
theorem row_line : ∀ (f g : Nat) (l t : List UInt8) ws b, 10 ∉ l → l.length < f → (l ++ 10 :: t).length < g →
    rowG g (l ++ 10 :: t) ws b = (rowG f l ws b).map fun r => (r.1, r.2.1, false, t)
  | 0, _, l, _, _, _, _, h, _ => absurd h (by omega)
  | _, 0, l, _, _, _, _, _, h => absurd h (by omega)
  | f + 1, g + 1, l, t, ws, b, h, hf, hg => by
    obtain ⟨t1, t6, tn, t2, t10⟩ := tok_line l t h
    rw [rowG, rowG]
    by_cases h1 : (tokL l).1 = 1
    · rw [if_pos h1, t1 h1]; simp
    · rw [if_neg h1]
      by_cases h6 : (tokL l).1 = 6
      · have h6' := t6 h6
        rw [if_neg (by omega), if_neg (by omega), if_pos (.inl h6'), if_neg t2, if_pos (.inl h6)]
        rfl
      · rw [tn h1 h6]
        simp only
        rw [if_neg h1, if_neg t2, if_neg t2]
        have hl := tok_less h1 h6
        by_cases hb : (tokL l).1 = 6 ∨ b ≠ 0
        · rw [if_pos hb, if_pos hb]; rfl
        · rw [if_neg hb, if_neg hb]
          have hg2 : ((tokL l).2.2 ++ 10 :: t).length < g := by simp at hg ⊢; omega
          split
          · exact row_line f g _ t _ _ t10 (by omega) hg2
          · exact row_line f g _ t _ _ t10 (by omega) hg2
/-- A line with a remark behind it. -/
theorem row_rmk : ∀ (f g : Nat) (l : List UInt8) ws b, 10 ∉ l → l.length < f → (l ++ rmk).length < g →
    rowG g (l ++ rmk) ws b = (rowG f l ws b).map fun r => (r.1, r.2.1, true, [])
  | 0, _, l, _, _, _, h, _ => absurd h (by omega)
  | _, 0, l, _, _, _, _, h => absurd h (by omega)
  | f + 1, g + 1, l, ws, b, h, hf, hg => by
    obtain ⟨t1, t6, tn⟩ := tok_rmk l h
    obtain ⟨_, _, _, t2, t10⟩ := tok_line l [] h
    rw [rowG, rowG]
    by_cases h1 : (tokL l).1 = 1
    · rw [if_pos h1, t1 h1]; simp
    · rw [if_neg h1]
      by_cases h6 : (tokL l).1 = 6
      · have h6' := t6 h6
        rw [if_neg (by omega), if_neg (by omega), if_pos (.inl h6'), if_neg t2, if_pos (.inl h6)]
        rfl
      · rw [tn h1 h6]
        simp only
        rw [if_neg h1, if_neg t2, if_neg t2]
        have hl := tok_less h1 h6
        by_cases hb : (tokL l).1 = 6 ∨ b ≠ 0
        · rw [if_pos hb, if_pos hb]; rfl
        · rw [if_neg hb, if_neg hb]
          have hg2 : ((tokL l).2.2 ++ rmk).length < g := by simp at hg ⊢; omega
          split
          · exact row_rmk f g _ _ _ t10 (by omega) hg2
          · exact row_rmk f g _ _ _ t10 (by omega) hg2
/-- What is read of a line alone ends the text. -/
theorem row_alone : ∀ (f : Nat) (l : List UInt8) ws b r, 10 ∉ l → l.length < f → rowG f l ws b = some r → r.2.2.1 = true ∧ r.2.2.2 = []
  | 0, l, _, _, _, _, h, _ => absurd h (by omega)
  | f + 1, l, ws, b, r, h, hf, hr => by
    obtain ⟨_, _, _, t2, t10⟩ := tok_line l [] h
    rw [rowG] at hr
    by_cases h1 : (tokL l).1 = 1
    · rw [if_pos h1, tok_end l h1] at hr
      simp at hr; subst hr; exact ⟨rfl, rfl⟩
    · rw [if_neg h1, if_neg t2] at hr
      by_cases hb : (tokL l).1 = 6 ∨ b ≠ 0
      · rw [if_pos hb] at hr; cases hr
      · rw [if_neg hb] at hr
        have hl := tok_less h1 (by omega)
        split at hr
        · exact row_alone f _ _ _ r t10 (by omega) hr
        · exact row_alone f _ _ _ r t10 (by omega) hr
theorem row_blank {c : UInt8} (hc : blkB c = true) (m : List UInt8) : rowL (c :: m) = rowL m := by
  have h47 : c ≠ 47 := fun e => by rw [e] at hc; exact absurd hc (by decide)
  have ht : tokL (c :: m) = tokL m := by
    unfold tokL
    rw [skipL, if_neg (by simp [remB, h47]), if_pos hc]
  unfold rowL
  rw [row_fuel (m.length + 1) ((c :: m).length + 1) m [] 0 (by omega) (by simp; omega)]
  rw [rowG, rowG, ht]
theorem row_empty (t : List UInt8) : rowL (10 :: t) = some ([], 0, false, t) := by
  have h : remB (10 :: t) = false := by cases t <;> simp [remB]
  have ht : tokL (10 :: t) = (2, [], t) := by
    unfold tokL
    rw [skipL, if_neg (by rw [h]; simp), if_neg (by decide), tokS]
    simp
  unfold rowL
  rw [rowG, ht]
  simp
theorem row_nil : rowL [] = some ([], 0, true, []) := by decide
/-- what a line alone says: its line, and the block that it leaves open -/
def oneR (l : List UInt8) : Option (List UInt8 × List Ln) := (rowL l).bind fun r => takeD [] r.1 r.2.1 1
theorem par_one (l : List UInt8) (h : 10 ∉ l) : parL l = match oneR l with
    | none => ([], 1, 3)
    | some (blk, x) => if blk = [] then (x, 0, 0) else ([], 1, 3) := by
  unfold parL oneR
  rw [parG]
  cases hr : rowL l with
  | none => rfl
  | some r =>
    obtain ⟨ws, b, last, t⟩ := r
    obtain ⟨h1, h2⟩ := row_alone _ _ _ _ _ h (Nat.lt_succ_self _) hr
    simp only at h1 h2
    subst h1
    simp only [Option.bind_some]
    cases takeD [] ws b 1 with
    | none => rfl
    | some y => simp
theorem take_none (blk : List UInt8) (k : Nat) : takeD blk [] 0 k = some (blk, []) := by simp [takeD]
theorem par_front (l : List UInt8) (h : 10 ∉ l) : parL (32 :: 9 :: (l ++ [10, 10])) = match oneR l with
    | none => ([], 1, 3)
    | some (blk, x) => if blk = [] then (x, 0, 0) else ([], 3, 3) := by
  have hrow : rowL (32 :: 9 :: (l ++ [10, 10])) = (rowL l).map fun r => (r.1, r.2.1, false, [10]) := by
    rw [row_blank (by decide), row_blank (by decide)]
    exact row_line _ _ l [10] [] 0 h (Nat.lt_succ_self _) (Nat.lt_succ_self _)
  unfold parL oneR
  obtain ⟨f, hf⟩ : ∃ f, (32 :: 9 :: (l ++ [10, 10])).length + 1 = f + 3 := ⟨l.length + 2, by simp⟩
  rw [hf, parG, hrow]
  cases rowL l with
  | none => rfl
  | some r =>
    simp only [Option.map_some, Option.bind_some]
    cases takeD [] r.1 r.2.1 1 with
    | none => rfl
    | some y =>
      simp only [Bool.false_eq_true, if_false, List.nil_append]
      rw [parG, row_empty]
      simp only [take_none, Bool.false_eq_true, if_false, List.append_nil]
      rw [parG, row_nil]
      simp [take_none]
theorem par_back (l : List UInt8) (h : 10 ∉ l) : parL (10 :: 13 :: 10 :: (l ++ rmk)) = match oneR l with
    | none => ([], 3, 3)
    | some (blk, x) => if blk = [] then (x.map (shL 2), 0, 0) else ([], 3, 3) := by
  have hrow : rowL (l ++ rmk) = (rowL l).map fun r => (r.1, r.2.1, true, []) := row_rmk _ _ l [] 0 h (Nat.lt_succ_self _) (Nat.lt_succ_self _)
  unfold parL oneR
  obtain ⟨f, hf⟩ : ∃ f, (10 :: 13 :: 10 :: (l ++ rmk)).length + 1 = f + 3 := ⟨(l ++ rmk).length + 1, by simp⟩
  rw [hf, parG, row_empty]
  simp only [take_none, Bool.false_eq_true, if_false, List.append_nil]
  rw [parG, row_blank (by decide), row_empty]
  simp only [take_none, Bool.false_eq_true, if_false, List.append_nil]
  rw [parG, hrow]
  cases rowL l with
  | none => rfl
  | some r =>
    simp only [Option.map_some, Option.bind_some]
    rw [show 1 + 1 + 1 = 1 + 2 from rfl, take_at]
    cases takeD [] r.1 r.2.1 1 with
    | none => rfl
    | some y => simp
theorem one_at {l : List UInt8} {blk : List UInt8} {x : List Ln} (h : oneR l = some (blk, x)) : x.length ≤ 1 ∧ ∀ z ∈ x, z.2.2 = 1 := by
  unfold oneR at h
  cases hr : rowL l with
  | none => rw [hr] at h; cases h
  | some r =>
    rw [hr] at h
    simp only [Option.bind_some] at h
    unfold takeD at h
    repeat' split at h
    all_goals first
      | (simp at h; done)
      | (simp only [Option.some.injEq, Prod.mk.injEq] at h; obtain ⟨_, rfl⟩ := h; simp)
end Go.Proofs.YtgkjmmfpbcgmgaaDoor
namespace Go.Proofs.YtgkjmmfpbcgmgaaDoor
open Go.RowKit

set_option maxHeartbeats 4000000 in
set_option maxRecDepth 100000 in
theorem blanks_walk (s : ByteArray) (w : World) : Calls Tryd.prog 5 #[.string s] w fun e w' => e = .returned (.bool true) ∧ Below w.heap.size w w' := by
  have HF1 := hidM (few_any s 3000 w (by omega))
  have hz1 := fewB_size s 3000
  generalize fewB s 3000 = A at *
  have HEND : Hid (∀ V, Below w.heap.size w V → Calls Tryd.prog 13 #[] V fun e w' => e = .returned (.bool true) ∧ Below w.heap.size w w') := fun V hV => (awake_any V).mono fun e w' ⟨he, hb⟩ => ⟨he, hV.trans (hb.mono hV.size)⟩
  go_enter Tryd.func5, Tryd.ntmps5
  go_wp2_with fail
  refine HF1.out.mono ?_
  rintro _ w0 ⟨rfl, hw⟩
  rw [hw]
  clear hw HF1
  go_wp2
  go_loopw [0, 3, 16, 17, 18, 19, 20, 21, 22, 23, 24, 25] (fun v0 v3 _ _ _ _ _ _ _ _ _ _ wr => ∃ k : Nat, k ≤ A.size ∧ v0 = .string A ∧ v3 = .int .i64 (k : Int) ∧ 10 ∉ A.data.toList.take k ∧ wr = w) (fun _ v3 _ _ _ _ _ _ _ _ _ _ _ => A.size - (intOf v3).toNat)
  case atStart => exact ⟨0, Nat.zero_le _, rfl, rfl, by simp, rfl⟩
  case round =>
    obtain ⟨k, hk, rfl, rfl, hno, hw⟩ := hrel
    have HNO := hidM hno
    clear hno
    have HBW : Hid (Below w.heap.size w wr) := by rw [hw]; exact Below.refl _ _
    have HWW := hidM hw
    clear hw
    by_cases hlt : k < A.size
    · have kk : (k : Int) < (A.size : Int) := by omega
      by_cases hc : A[k] = 10
      · as_aux_lemma =>
          have b1 : (((A[k].toNat : Nat) : Int) == 10) = true := by rw [hc]; rfl
          have s1 : (0 : Int) ≤ (k : Int) := by omega
          have s2 : (k : Int) ≤ (A.size : Int) := by omega
          obtain ⟨B, hB⟩ : ∃ B, A.extract 0 k = B := ⟨_, rfl⟩
          have hzB : B.size ≤ 3000 := by rw [← hB, ByteArray.size_extract]; omega
          have HNL : Hid (10 ∉ B.data.toList) := by unfold Hid; rw [← hB, ext_head]; exact HNO.out
          clear hc
          go_upto_region 7 with fail
          clear HNO
          have hzB2 : B.size ≤ 3000 := hzB
          have e1 : ¬ (9223372036854775807 : Nat) < 2 + B.size := by omega
          have e3 : ¬ (9223372036854775807 : Nat) < 3 + B.size := by omega
          obtain ⟨Q1, hQ1⟩ : ∃ Q, (⟨#[32, 9]⟩ : ByteArray) ++ B = Q := ⟨_, rfl⟩
          have hq1 : Q1.size = 2 + B.size := by rw [← hQ1, ByteArray.size_append]; rfl
          have e2 : ¬ (9223372036854775807 : Nat) < Q1.size + 2 := by omega
          obtain ⟨Q2, hQ2⟩ : ∃ Q, Q1 ++ (⟨#[10, 10]⟩ : ByteArray) = Q := ⟨_, rfl⟩
          have hq2 : Q2.size = Q1.size + 2 := by rw [← hQ2, ByteArray.size_append]; rfl
          obtain ⟨R1, hR1⟩ : ∃ Q, (⟨#[10, 13, 10]⟩ : ByteArray) ++ B = Q := ⟨_, rfl⟩
          have hr1 : R1.size = 3 + B.size := by rw [← hR1, ByteArray.size_append]; rfl
          have e4 : ¬ (9223372036854775807 : Nat) < R1.size + 10 := by omega
          obtain ⟨R2, hR2⟩ : ∃ Q, R1 ++ (⟨#[32, 47, 47, 32, 114, 101, 109, 97, 114, 107]⟩ : ByteArray) = Q := ⟨_, rfl⟩
          have hr2 : R2.size = R1.size + 10 := by rw [← hR2, ByteArray.size_append]; rfl
          have HP1 := hidM (fun V => parse_any B V (by omega))
          have HP2 := hidM (fun V => parse_any Q2 V (by omega))
          have HP3 := hidM (fun V => parse_any R2 V (by omega))
          unfold ParPost at HP1 HP2 HP3
          rw [par_one _ HNL.out] at HP1
          rw [show Q2.data.toList = 32 :: 9 :: (B.data.toList ++ [10, 10]) by rw [← hQ2, ← hQ1]; simp, par_front _ HNL.out] at HP2
          rw [show R2.data.toList = 10 :: 13 :: 10 :: (B.data.toList ++ rmk) by rw [← hR2, ← hR1]; simp [rmk], par_back _ HNL.out] at HP3
          have HSZ := hidM (And.intro hq1 (And.intro hq2 (And.intro hr1 hr2)))
          clear hq1 hq2 hr1 hr2 HNL
          cases hone : oneR B.data.toList with
          | none =>
            rw [hone] at HP1 HP2 HP3
            simp only at HP1 HP2 HP3
            clear hone
            go_wp2_with fail
            refine (HP1.out _).mono ?_
            rintro _ w1 ⟨lv1, rfl, hv1, hb1⟩
            obtain ⟨a1, c1, rfl, hz1⟩ := hv1.view
            have HB1 := hidM (HBW.out.trans (hb1.mono HBW.out.size))
            have HV1a := hidM hz1
            clear hb1 hv1 hz1 HP1
            go_wp2_with fail
            refine (HP2.out _).mono ?_
            rintro _ w2 ⟨lv2, rfl, hv2, hb2⟩
            obtain ⟨a2, c2, rfl, hz2⟩ := hv2.view
            have HB2 := hidM (HB1.out.trans (hb2.mono HB1.out.size))
            have HV1b := hidM (HV1a.out.below hb2)
            have HV2a := hidM hz2
            clear hb2 hv2 hz2 HP2 HB1 HV1a
            go_wp2_with fail
            refine (HP3.out _).mono ?_
            rintro _ w3 ⟨lv3, rfl, hv3, hb3⟩
            obtain ⟨a3, c3, rfl, hz3⟩ := hv3.view
            have HB := hidM (HB2.out.trans (hb3.mono HB2.out.size))
            have HV1 := hidM (HV1b.out.below hb3)
            have HV2 := hidM (HV2a.out.below hb3)
            have HV3 := hidM hz3
            clear hb3 hv3 hz3 HP3 HB2 HV1b HV2a
            go_wp2_with fail
            refine (HEND.out _ HB.out).mono ?_
            rintro _ w4 ⟨rfl, hb4⟩
            go_wp2
            go_ret
            exact ⟨rfl, hb4⟩
          | some y =>
            obtain ⟨blk, x⟩ := y
            rw [hone] at HP1 HP2 HP3
            simp only at HP1 HP2 HP3
            by_cases hbk : blk = []
            · simp only [hbk, if_true] at HP1 HP2 HP3
              go_wp2_with fail
              refine (HP1.out _).mono ?_
              rintro _ w1 ⟨lv1, rfl, hv1, hb1⟩
              obtain ⟨a1, c1, rfl, hz1⟩ := hv1.view
              have HB1 := hidM (HBW.out.trans (hb1.mono HBW.out.size))
              have HV1a := hidM hz1
              clear hb1 hv1 hz1 HP1
              go_wp2_with fail
              refine (HP2.out _).mono ?_
              rintro _ w2 ⟨lv2, rfl, hv2, hb2⟩
              obtain ⟨a2, c2, rfl, hz2⟩ := hv2.view
              have HB2 := hidM (HB1.out.trans (hb2.mono HB1.out.size))
              have HV1b := hidM (HV1a.out.below hb2)
              have HV2a := hidM hz2
              clear hb2 hv2 hz2 HP2 HB1 HV1a
              go_wp2_with fail
              refine (HP3.out _).mono ?_
              rintro _ w3 ⟨lv3, rfl, hv3, hb3⟩
              obtain ⟨a3, c3, rfl, hz3⟩ := hv3.view
              have HB := hidM (HB2.out.trans (hb3.mono HB2.out.size))
              have HV1 := hidM (HV1b.out.below hb3)
              have HV2 := hidM (HV2a.out.below hb3)
              have HV3 := hidM hz3
              clear hb3 hv3 hz3 HP3 HB2 HV1b HV2a
              obtain ⟨hx1, hxa⟩ := one_at hone
              have HXA := hidM hxa
              clear hxa
              obtain ⟨lx, hlx⟩ : ∃ n, n = x.length := ⟨_, rfl⟩
              have hly : (x.map (shL 2)).length = lx := by rw [hlx]; simp
              rw [hly, ← hlx]
              rw [← hlx] at hx1
              have HLX := hidM hlx
              have HLY := hidM hly
              clear hlx hly
              go_wp2_with fail
              refine (awake_any _).mono ?_
              rintro _ w4 ⟨rfl, hb4⟩
              have HX := hidM (HV1.out.below hb4)
              have HY := hidM (HV2.out.below hb4)
              have HZ := hidM (HV3.out.below hb4)
              have HB4 := hidM (HB.out.trans (hb4.mono HB.out.size))
              clear hb4 HV1 HV2 HV3
              go_wp2
              go_loopw [13, 95, 96, 97, 98, 99, 100, 101, 102, 103, 104, 105, 106, 107, 108, 109, 110, 111, 112, 113, 114, 115, 116, 117, 118, 119, 120, 121, 122, 123, 124, 125, 126, 127, 128, 129, 130, 131, 132, 133, 134, 135, 136, 137, 138, 139, 140, 141, 142, 143, 144, 145, 146, 147, 148, 149, 150, 151, 152, 153, 154, 155, 156, 157, 158, 159, 160, 161, 162, 163, 164, 165, 166, 167, 168, 169, 170, 171, 172, 173, 174, 175, 176] (fun _ v95 _ _ _ _ _ _ _ _ _ _ _ _ _ _ _ _ _ _ _ _ _ _ _ _ _ _ _ _ _ _ _ _ _ _ _ _ _ _ _ _ _ _ _ _ _ _ _ _ _ _ _ _ _ _ _ _ _ _ _ _ _ _ _ _ _ _ _ _ _ _ _ _ _ _ _ _ _ _ _ _ _ wr => ∃ k : Nat, k ≤ lx ∧ v95 = .int .i64 (k : Int) ∧ Below w4.heap.size w4 wr) (fun _ v95 _ _ _ _ _ _ _ _ _ _ _ _ _ _ _ _ _ _ _ _ _ _ _ _ _ _ _ _ _ _ _ _ _ _ _ _ _ _ _ _ _ _ _ _ _ _ _ _ _ _ _ _ _ _ _ _ _ _ _ _ _ _ _ _ _ _ _ _ _ _ _ _ _ _ _ _ _ _ _ _ _ _ => lx - (intOf v95).toNat)
              case atStart => exact ⟨0, Nat.zero_le _, rfl, Below.refl _ _⟩
              case round =>
                obtain ⟨k, hk, rfl, hbr⟩ := hrel
                have HBR := hidM hbr
                clear hbr
                by_cases hlt : k < lx
                · have kk : (k : Int) < (lx : Int) := by omega
                  have hkx : k < x.length := by rw [← HLX.out]; exact hlt
                  have hky : k < (x.map (shL 2)).length := by rw [HLY.out]; exact hlt
                  obtain ⟨g1, o1, rfl, _, hat1⟩ := (HX.out.below HBR.out).at hkx
                  obtain ⟨g2, o2, rfl, _, hat2⟩ := (HY.out.below HBR.out).at hkx
                  obtain ⟨g3, o3, rfl, _, hat3⟩ := (HZ.out.below HBR.out).at hky
                  obtain ⟨na1, nc1, u0, u1, u2, _⟩ := hat1 k hkx
                  obtain ⟨na2, nc2, v0, v1, v2, _⟩ := hat2 k hkx
                  obtain ⟨na3, nc3, x0, x1, x2, _⟩ := hat3 k hky
                  clear hat1 hat2 hat3
                  rw [getD_sh hkx] at x0 x1 x2
                  have hat : (x.getD k noL).2.2 = 1 := HXA.out _ (by simp [List.getD, hkx])
                  generalize x.getD k noL = L at *
                  obtain ⟨verb, words, la⟩ := L
                  unfold shL at x0 x1 x2
                  simp only at u0 u1 u2 v0 v1 v2 x0 x1 x2 hat
                  subst hat
                  unfold strV at u0 v0 x0
                  generalize (⟨verb.toArray⟩ : ByteArray) = V at *
                  generalize words.length = nw at *
                  clear hkx hky
                  go_upto_region 17 with fail
                  go_quiet (fail)
                  go_wp2
                  go_roundw
                  case rel => exact ⟨k + 1, by omega, by go_num, below_dn HBR.out _⟩
                  case measure => (show lx - ((k : Int) + 1).toNat < lx - ((k : Int)).toNat); omega
                · have kk : ¬ (k : Int) < (lx : Int) := by omega
                  go_wp2
                  go_ret
                  exact ⟨rfl, HB4.out.trans (HBR.out.mono HB4.out.size)⟩
            · simp only [hbk, if_false] at HP1 HP2 HP3
              go_wp2_with fail
              refine (HP1.out _).mono ?_
              rintro _ w1 ⟨lv1, rfl, hv1, hb1⟩
              obtain ⟨a1, c1, rfl, hz1⟩ := hv1.view
              have HB1 := hidM (HBW.out.trans (hb1.mono HBW.out.size))
              have HV1a := hidM hz1
              clear hb1 hv1 hz1 HP1
              go_wp2_with fail
              refine (HP2.out _).mono ?_
              rintro _ w2 ⟨lv2, rfl, hv2, hb2⟩
              obtain ⟨a2, c2, rfl, hz2⟩ := hv2.view
              have HB2 := hidM (HB1.out.trans (hb2.mono HB1.out.size))
              have HV1b := hidM (HV1a.out.below hb2)
              have HV2a := hidM hz2
              clear hb2 hv2 hz2 HP2 HB1 HV1a
              go_wp2_with fail
              refine (HP3.out _).mono ?_
              rintro _ w3 ⟨lv3, rfl, hv3, hb3⟩
              obtain ⟨a3, c3, rfl, hz3⟩ := hv3.view
              have HB := hidM (HB2.out.trans (hb3.mono HB2.out.size))
              have HV1 := hidM (HV1b.out.below hb3)
              have HV2 := hidM (HV2a.out.below hb3)
              have HV3 := hidM hz3
              clear hb3 hv3 hz3 HP3 HB2 HV1b HV2a
              go_wp2_with fail
              refine (HEND.out _ HB.out).mono ?_
              rintro _ w4 ⟨rfl, hb4⟩
              go_wp2
              go_ret
              exact ⟨rfl, hb4⟩

      · have b1 : (((A[k].toNat : Nat) : Int) == 10) = false := by
          rw [beq_eq_false_iff_ne]
          intro e; apply hc; exact UInt8.toNat_inj.1 (by have : (10 : UInt8).toNat = 10 := rfl; omega)
        have HN2 : Hid (10 ∉ A.data.toList.take (k + 1)) := by
          unfold Hid
          rw [take_one A k hlt]
          intro e
          rcases List.mem_append.1 e with e | e
          · exact HNO.out e
          · exact hc (List.mem_singleton.1 e).symm
        clear hc HNO
        go_wp2
        go_roundw
        case rel => exact ⟨k + 1, by omega, rfl, by go_num, HN2.out, HWW.out⟩
        case measure => (show A.size - ((k : Int) + 1).toNat < A.size - ((k : Int)).toNat); omega
    · as_aux_lemma =>
        have kk : ¬ (k : Int) < (A.size : Int) := by omega
        have HNL0 : Hid (10 ∉ A.data.toList) := by
          have := HNO.out
          rwa [List.take_of_length_le (by rw [sl_len]; omega)] at this
        go_upto_region 7 with fail
        clear HNO kk hlt
        have hzB0 : A.size ≤ 3000 := hz1
        generalize A = B at *
        have hzB := hzB0
        have HNL := HNL0
        clear hzB0 HNL0
        have hzB2 : B.size ≤ 3000 := hzB
        have e1 : ¬ (9223372036854775807 : Nat) < 2 + B.size := by omega
        have e3 : ¬ (9223372036854775807 : Nat) < 3 + B.size := by omega
        obtain ⟨Q1, hQ1⟩ : ∃ Q, (⟨#[32, 9]⟩ : ByteArray) ++ B = Q := ⟨_, rfl⟩
        have hq1 : Q1.size = 2 + B.size := by rw [← hQ1, ByteArray.size_append]; rfl
        have e2 : ¬ (9223372036854775807 : Nat) < Q1.size + 2 := by omega
        obtain ⟨Q2, hQ2⟩ : ∃ Q, Q1 ++ (⟨#[10, 10]⟩ : ByteArray) = Q := ⟨_, rfl⟩
        have hq2 : Q2.size = Q1.size + 2 := by rw [← hQ2, ByteArray.size_append]; rfl
        obtain ⟨R1, hR1⟩ : ∃ Q, (⟨#[10, 13, 10]⟩ : ByteArray) ++ B = Q := ⟨_, rfl⟩
        have hr1 : R1.size = 3 + B.size := by rw [← hR1, ByteArray.size_append]; rfl
        have e4 : ¬ (9223372036854775807 : Nat) < R1.size + 10 := by omega
        obtain ⟨R2, hR2⟩ : ∃ Q, R1 ++ (⟨#[32, 47, 47, 32, 114, 101, 109, 97, 114, 107]⟩ : ByteArray) = Q := ⟨_, rfl⟩
        have hr2 : R2.size = R1.size + 10 := by rw [← hR2, ByteArray.size_append]; rfl
        have HP1 := hidM (fun V => parse_any B V (by omega))
        have HP2 := hidM (fun V => parse_any Q2 V (by omega))
        have HP3 := hidM (fun V => parse_any R2 V (by omega))
        unfold ParPost at HP1 HP2 HP3
        rw [par_one _ HNL.out] at HP1
        rw [show Q2.data.toList = 32 :: 9 :: (B.data.toList ++ [10, 10]) by rw [← hQ2, ← hQ1]; simp, par_front _ HNL.out] at HP2
        rw [show R2.data.toList = 10 :: 13 :: 10 :: (B.data.toList ++ rmk) by rw [← hR2, ← hR1]; simp [rmk], par_back _ HNL.out] at HP3
        have HSZ := hidM (And.intro hq1 (And.intro hq2 (And.intro hr1 hr2)))
        clear hq1 hq2 hr1 hr2 HNL
        cases hone : oneR B.data.toList with
        | none =>
          rw [hone] at HP1 HP2 HP3
          simp only at HP1 HP2 HP3
          clear hone
          go_wp2_with fail
          refine (HP1.out _).mono ?_
          rintro _ w1 ⟨lv1, rfl, hv1, hb1⟩
          obtain ⟨a1, c1, rfl, hz1⟩ := hv1.view
          have HB1 := hidM (HBW.out.trans (hb1.mono HBW.out.size))
          have HV1a := hidM hz1
          clear hb1 hv1 hz1 HP1
          go_wp2_with fail
          refine (HP2.out _).mono ?_
          rintro _ w2 ⟨lv2, rfl, hv2, hb2⟩
          obtain ⟨a2, c2, rfl, hz2⟩ := hv2.view
          have HB2 := hidM (HB1.out.trans (hb2.mono HB1.out.size))
          have HV1b := hidM (HV1a.out.below hb2)
          have HV2a := hidM hz2
          clear hb2 hv2 hz2 HP2 HB1 HV1a
          go_wp2_with fail
          refine (HP3.out _).mono ?_
          rintro _ w3 ⟨lv3, rfl, hv3, hb3⟩
          obtain ⟨a3, c3, rfl, hz3⟩ := hv3.view
          have HB := hidM (HB2.out.trans (hb3.mono HB2.out.size))
          have HV1 := hidM (HV1b.out.below hb3)
          have HV2 := hidM (HV2a.out.below hb3)
          have HV3 := hidM hz3
          clear hb3 hv3 hz3 HP3 HB2 HV1b HV2a
          go_wp2_with fail
          refine (HEND.out _ HB.out).mono ?_
          rintro _ w4 ⟨rfl, hb4⟩
          go_wp2
          go_ret
          exact ⟨rfl, hb4⟩
        | some y =>
          obtain ⟨blk, x⟩ := y
          rw [hone] at HP1 HP2 HP3
          simp only at HP1 HP2 HP3
          by_cases hbk : blk = []
          · simp only [hbk, if_true] at HP1 HP2 HP3
            go_wp2_with fail
            refine (HP1.out _).mono ?_
            rintro _ w1 ⟨lv1, rfl, hv1, hb1⟩
            obtain ⟨a1, c1, rfl, hz1⟩ := hv1.view
            have HB1 := hidM (HBW.out.trans (hb1.mono HBW.out.size))
            have HV1a := hidM hz1
            clear hb1 hv1 hz1 HP1
            go_wp2_with fail
            refine (HP2.out _).mono ?_
            rintro _ w2 ⟨lv2, rfl, hv2, hb2⟩
            obtain ⟨a2, c2, rfl, hz2⟩ := hv2.view
            have HB2 := hidM (HB1.out.trans (hb2.mono HB1.out.size))
            have HV1b := hidM (HV1a.out.below hb2)
            have HV2a := hidM hz2
            clear hb2 hv2 hz2 HP2 HB1 HV1a
            go_wp2_with fail
            refine (HP3.out _).mono ?_
            rintro _ w3 ⟨lv3, rfl, hv3, hb3⟩
            obtain ⟨a3, c3, rfl, hz3⟩ := hv3.view
            have HB := hidM (HB2.out.trans (hb3.mono HB2.out.size))
            have HV1 := hidM (HV1b.out.below hb3)
            have HV2 := hidM (HV2a.out.below hb3)
            have HV3 := hidM hz3
            clear hb3 hv3 hz3 HP3 HB2 HV1b HV2a
            obtain ⟨hx1, hxa⟩ := one_at hone
            have HXA := hidM hxa
            clear hxa
            obtain ⟨lx, hlx⟩ : ∃ n, n = x.length := ⟨_, rfl⟩
            have hly : (x.map (shL 2)).length = lx := by rw [hlx]; simp
            rw [hly, ← hlx]
            rw [← hlx] at hx1
            have HLX := hidM hlx
            have HLY := hidM hly
            clear hlx hly
            go_wp2_with fail
            refine (awake_any _).mono ?_
            rintro _ w4 ⟨rfl, hb4⟩
            have HX := hidM (HV1.out.below hb4)
            have HY := hidM (HV2.out.below hb4)
            have HZ := hidM (HV3.out.below hb4)
            have HB4 := hidM (HB.out.trans (hb4.mono HB.out.size))
            clear hb4 HV1 HV2 HV3
            go_wp2
            go_loopw [13, 95, 96, 97, 98, 99, 100, 101, 102, 103, 104, 105, 106, 107, 108, 109, 110, 111, 112, 113, 114, 115, 116, 117, 118, 119, 120, 121, 122, 123, 124, 125, 126, 127, 128, 129, 130, 131, 132, 133, 134, 135, 136, 137, 138, 139, 140, 141, 142, 143, 144, 145, 146, 147, 148, 149, 150, 151, 152, 153, 154, 155, 156, 157, 158, 159, 160, 161, 162, 163, 164, 165, 166, 167, 168, 169, 170, 171, 172, 173, 174, 175, 176] (fun _ v95 _ _ _ _ _ _ _ _ _ _ _ _ _ _ _ _ _ _ _ _ _ _ _ _ _ _ _ _ _ _ _ _ _ _ _ _ _ _ _ _ _ _ _ _ _ _ _ _ _ _ _ _ _ _ _ _ _ _ _ _ _ _ _ _ _ _ _ _ _ _ _ _ _ _ _ _ _ _ _ _ _ wr => ∃ k : Nat, k ≤ lx ∧ v95 = .int .i64 (k : Int) ∧ Below w4.heap.size w4 wr) (fun _ v95 _ _ _ _ _ _ _ _ _ _ _ _ _ _ _ _ _ _ _ _ _ _ _ _ _ _ _ _ _ _ _ _ _ _ _ _ _ _ _ _ _ _ _ _ _ _ _ _ _ _ _ _ _ _ _ _ _ _ _ _ _ _ _ _ _ _ _ _ _ _ _ _ _ _ _ _ _ _ _ _ _ _ => lx - (intOf v95).toNat)
            case atStart => exact ⟨0, Nat.zero_le _, rfl, Below.refl _ _⟩
            case round =>
              obtain ⟨k, hk, rfl, hbr⟩ := hrel
              have HBR := hidM hbr
              clear hbr
              by_cases hlt : k < lx
              · have kk : (k : Int) < (lx : Int) := by omega
                have hkx : k < x.length := by rw [← HLX.out]; exact hlt
                have hky : k < (x.map (shL 2)).length := by rw [HLY.out]; exact hlt
                obtain ⟨g1, o1, rfl, _, hat1⟩ := (HX.out.below HBR.out).at hkx
                obtain ⟨g2, o2, rfl, _, hat2⟩ := (HY.out.below HBR.out).at hkx
                obtain ⟨g3, o3, rfl, _, hat3⟩ := (HZ.out.below HBR.out).at hky
                obtain ⟨na1, nc1, u0, u1, u2, _⟩ := hat1 k hkx
                obtain ⟨na2, nc2, v0, v1, v2, _⟩ := hat2 k hkx
                obtain ⟨na3, nc3, x0, x1, x2, _⟩ := hat3 k hky
                clear hat1 hat2 hat3
                rw [getD_sh hkx] at x0 x1 x2
                have hat : (x.getD k noL).2.2 = 1 := HXA.out _ (by simp [List.getD, hkx])
                generalize x.getD k noL = L at *
                obtain ⟨verb, words, la⟩ := L
                unfold shL at x0 x1 x2
                simp only at u0 u1 u2 v0 v1 v2 x0 x1 x2 hat
                subst hat
                unfold strV at u0 v0 x0
                generalize (⟨verb.toArray⟩ : ByteArray) = V at *
                generalize words.length = nw at *
                clear hkx hky
                go_upto_region 17 with fail
                go_quiet (fail)
                go_wp2
                go_roundw
                case rel => exact ⟨k + 1, by omega, by go_num, below_dn HBR.out _⟩
                case measure => (show lx - ((k : Int) + 1).toNat < lx - ((k : Int)).toNat); omega
              · have kk : ¬ (k : Int) < (lx : Int) := by omega
                go_wp2
                go_ret
                exact ⟨rfl, HB4.out.trans (HBR.out.mono HB4.out.size)⟩
          · simp only [hbk, if_false] at HP1 HP2 HP3
            go_wp2_with fail
            refine (HP1.out _).mono ?_
            rintro _ w1 ⟨lv1, rfl, hv1, hb1⟩
            obtain ⟨a1, c1, rfl, hz1⟩ := hv1.view
            have HB1 := hidM (HBW.out.trans (hb1.mono HBW.out.size))
            have HV1a := hidM hz1
            clear hb1 hv1 hz1 HP1
            go_wp2_with fail
            refine (HP2.out _).mono ?_
            rintro _ w2 ⟨lv2, rfl, hv2, hb2⟩
            obtain ⟨a2, c2, rfl, hz2⟩ := hv2.view
            have HB2 := hidM (HB1.out.trans (hb2.mono HB1.out.size))
            have HV1b := hidM (HV1a.out.below hb2)
            have HV2a := hidM hz2
            clear hb2 hv2 hz2 HP2 HB1 HV1a
            go_wp2_with fail
            refine (HP3.out _).mono ?_
            rintro _ w3 ⟨lv3, rfl, hv3, hb3⟩
            obtain ⟨a3, c3, rfl, hz3⟩ := hv3.view
            have HB := hidM (HB2.out.trans (hb3.mono HB2.out.size))
            have HV1 := hidM (HV1b.out.below hb3)
            have HV2 := hidM (HV2a.out.below hb3)
            have HV3 := hidM hz3
            clear hb3 hv3 hz3 HP3 HB2 HV1b HV2a
            go_wp2_with fail
            refine (HEND.out _ HB.out).mono ?_
            rintro _ w4 ⟨rfl, hb4⟩
            go_wp2
            go_ret
            exact ⟨rfl, hb4⟩

end Go.Proofs.YtgkjmmfpbcgmgaaDoor
namespace Go.Proofs.YtgkjmmfpbcgmgaaDoor
open Go.ChangeShapes Go.WideShapes Go.WideMaps Go.WideElems

def MI (w : World) : Prop := ∃ m, w.cell? ⟨0, 0, none⟩ = some (.int .i64 m)
theorem mi_of_open {w : World} (h : w.ShapedOpen Tryd.prog) : MI w :=
  cell_of_shapedOpen_int (P := Tryd.prog) (g := 0) (t := 3) (zero := #[.int .i64 0]) (k := .i64) h (of_decide_eq_true (by kernel_rfl)) (by kernel_rfl) rfl (by kernel_rfl) (by kernel_rfl) (by kernel_rfl)

theorem handed_open {H : Type} {enc : TypeId × Value → H} {a : Assume} {C : Checked} {os : Os} {f : FuncId} {fn : Func} {s : ChangeSpec} {conds : List PathCond} {apart fresh handsOn again : Bool} {X : World → Array Value → Prop}
    (hX : ∀ (w w' : World) (args : Array Value), w.heap = w'.heap → X w args → X w' args)
    (own : ownKnob C.prog.godebug = none) (started : os.Started) (noInit : C.prog.inits.idxOf? f = none) (hfn : C.prog.funcs[f]? = some fn)
    (wit : ∃ (w : World) (tape : Tape) (i : Input), w.os = os ∧ (w.forCall tape i).Shaped C.prog ∧ i.vars = [] ∧ Input.okWide C.prog (w.forCall tape i) .any w.heap.size f i ∧
      ((s.pre enc C.prog fn conds apart (w.forCall tape i).memory i.args ∧ X (w.forCall tape i).memory i.args) ∧ sizedMet enc C.prog fn (OpenSpec.ofChange s) apart (w.forCall tape i).memory i.args) ∧ a.holds C.prog (lone (Frame.enter C.prog f i.args .normal) [] (w.forCall tape i)))
    (K : ∀ (W : World) (base : Nat) (args : Array Value) (ds gs : List (DataW H)) (before : List MemPlace), W.ShapedOpen C.prog →
      (∀ (j : Nat) t v, fn.params[j]? = some t → args[j]? = some v → Value.okWide C.prog W .any base t v) →
      DataW.Whole enc C.prog fn.params.toList s.vars apart W args.toList ds gs before →
      conds.all (PathCond.test C.prog ⟨fn.params.toList, ds, s.plain.varTypes C.prog, gs⟩) = true →
      (DataW.weightsEach C.prog (fn.params.toList ++ s.plain.varTypes C.prog) (ds ++ gs)).all (· ≤ reachBytes) = true → X W args →
      Calls C.prog f args W fun e W' => ∃ v, e = .returned v ∧ s.post enc C.prog fn apart fresh handsOn again W args v W') :
    ReturnsInHanded a C os f .any (fun w args => (s.pre enc C.prog fn conds apart w args ∧ X w args) ∧ sizedMet enc C.prog fn (OpenSpec.ofChange s) apart w args) (s.post enc C.prog fn apart fresh handsOn again) := by
  refine returnsInHanded_of_calls own started noInit wit fun w tape i _ hso _ hok hpre _ => ?_
  obtain ⟨_, _, _, g, hg, _, _, _, _, hval⟩ := hok
  obtain rfl : g = fn := Option.some.inj (hg.symm.trans hfn)
  obtain ⟨⟨⟨ds, gs, before, hw, hc⟩, hx⟩, hz⟩ := hpre
  refine (K (w.forCall tape i) w.heap.size i.args ds gs before hso hval (DataW.Whole.of_heap (w' := w.forCall tape i) (by rfl) hw) hc (hz.weights hw) (hX _ _ _ (by rfl) hx)).mono fun e W' ⟨v, he, hp⟩ => ?_
  subst he
  exact ChangeSpec.post_blind hp
end Go.Proofs.YtgkjmmfpbcgmgaaDoor

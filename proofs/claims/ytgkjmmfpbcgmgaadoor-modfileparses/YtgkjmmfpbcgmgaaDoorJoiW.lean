/-
  ModfileJoins: the law's walk.
-/
import Derived.Test.YtgkjmmfpbcgmgaaDoorPthE
namespace Go.Proofs.YtgkjmmfpbcgmgaaDoor
open Go.RowKit

def fewB (s : ByteArray) (n : Nat) : ByteArray := if n < s.size then s.extract 0 n else s
theorem fewB_size (s : ByteArray) (n : Nat) : (fewB s n).size ≤ n := by
  unfold fewB
  split
  · rw [ByteArray.size_extract]; omega
  · omega
set_option maxHeartbeats 1000000 in
theorem few_any (s : ByteArray) (n : Nat) (w : World) (hn : n ≤ 100000) : Calls Tryd.prog 8 #[.string s, .int .i64 (n : Int)] w fun e w' => e = .returned (.string (fewB s n)) ∧ w' = w := by
  by_cases h : n < s.size
  · have c0 : (n : Int) < (s.size : Int) := by omega
    have c1 : (0 : Int) ≤ (n : Int) := by omega
    have c2 : (n : Int) ≤ (s.size : Int) := by omega
    have HF : Hid (fewB s n = s.extract 0 n) := by unfold Hid fewB; rw [if_pos h]
    clear h
    go_enter Tryd.func8, Tryd.ntmps8
    go_wp2
    go_ret
    exact ⟨by rw [HF.out]; rfl, rfl⟩
  · have c0 : ¬ (n : Int) < (s.size : Int) := by omega
    have HF : Hid (fewB s n = s) := by unfold Hid fewB; rw [if_neg h]
    clear h
    go_enter Tryd.func8, Tryd.ntmps8
    go_wp2
    go_ret
    exact ⟨by rw [HF.out]; rfl, rfl⟩
theorem par_e (l : List UInt8) : ((parL l).2.2 = 0 ∧ (parL l).2.1 = 0) ∨ ((parL l).2.2 = 3 ∧ (parL l).1 = []) := par_err _ l [] [] 1 (Nat.lt_succ_self _)
theorem par_app2 (A B : List UInt8) (hA : A.getLast? = some 10) (h : (parL A).2.2 = 0) :
    parL (A ++ B) = if (parL B).2.2 = 0 then ((parL A).1 ++ (parL B).1.map (shL (A.count 10)), 0, 0) else ([], (parL B).2.1 + A.count 10, 3) := by
  have h1 := par_app (A.length + 1) A B [] [] 1 (Nat.lt_succ_self _) (.inr hA) h ((A ++ B).length + 1) (Nat.lt_succ_self _)
  have h2 := par_shift (B.length + 1) B [] [] 1 (A.count 10) (parL A).1 (Nat.lt_succ_self _)
  unfold parL at *
  rw [h1]
  simpa using h2
/-- where lines stand -/
theorem par_at : ∀ (f : Nat) (l blk : List UInt8) (out : List Ln) (k M : Nat), l.length < f → k + l.length ≤ M → (∀ x ∈ out, x.2.2 ≤ M) → (parG f l blk out k).2.1 ≤ M ∧ ∀ x ∈ (parG f l blk out k).1, x.2.2 ≤ M
  | 0, l, _, _, _, _, h, _, _ => absurd h (by omega)
  | f + 1, l, blk, out, k, M, hf, hM, ho => by
    cases hr : rowL l with
    | none => rw [parG_none hf hr]; exact ⟨by show k ≤ M; omega, by simp⟩
    | some r =>
      obtain ⟨ws, b, last, t⟩ := r
      cases ht : takeD blk ws b k with
      | none => rw [parG_bad hf hr ht]; exact ⟨by show k ≤ M; omega, by simp⟩
      | some y =>
        obtain ⟨blk', x⟩ := y
        have hx : ∀ z ∈ x, z.2.2 ≤ M := by
          intro z hz
          unfold takeD at ht
          repeat' split at ht
          all_goals first
            | (simp at ht; done)
            | (simp only [Option.some.injEq, Prod.mk.injEq] at ht; obtain ⟨_, rfl⟩ := ht; simp at hz; try (subst hz; simp; omega))
        have hox : ∀ z ∈ out ++ x, z.2.2 ≤ M := fun z hz => by
          rcases List.mem_append.1 hz with h | h
          · exact ho z h
          · exact hx z h
        cases last with
        | true =>
          rw [parG_last hf hr ht]
          split
          · exact ⟨by simp, hox⟩
          · exact ⟨by show k ≤ M; omega, by simp⟩
        | false =>
          obtain ⟨h1, h2, h3⟩ := parG_next (out := out) hf hr ht
          rw [h1]
          exact par_at f t blk' (out ++ x) (k + 1) M (by simpa using h2) (by omega) hox
theorem parL_at (l : List UInt8) : (parL l).2.1 ≤ l.length + 1 ∧ ∀ x ∈ (parL l).1, x.2.2 ≤ l.length + 1 := par_at _ l [] [] 1 _ (Nat.lt_succ_self _) (by omega) (by simp)
theorem parL_len (l : List UInt8) : (parL l).1.length ≤ l.length + 1 := by
  have := par_len (l.length + 1) l [] [] 1 (Nat.lt_succ_self _)
  unfold parL
  simpa using this
theorem joinB (a : ByteArray) (l : List UInt8) : (a ++ ⟨l.toArray⟩).data.toList = a.data.toList ++ l := by simp
theorem bne_list {a b : ByteArray} (h : a = b) : (a.toList == b.toList) = true := by rw [h]; simp
theorem getD_app_l {X Y : List Ln} {i : Nat} (h : i < X.length) : (X ++ Y).getD i noL = X.getD i noL := by simp [List.getD, List.getElem?_append_left h]
theorem getD_app_r {X Y : List Ln} {i : Nat} (h : ¬ i < X.length) : (X ++ Y).getD i noL = Y.getD (i - X.length) noL := by simp [List.getD, List.getElem?_append_right (Nat.le_of_not_lt h)]
theorem getD_sh {Y : List Ln} {i d : Nat} (h : i < Y.length) : (Y.map (shL d)).getD i noL = shL d (Y.getD i noL) := by simp [List.getD, h]
/-- the joined lines, one by one -/
theorem join_get {X Y : List Ln} {i d : Nat} : (i < X.length → ((X ++ Y.map (shL d)).getD i noL) = X.getD i noL) ∧ (¬ i < X.length → i < X.length + Y.length → ((X ++ Y.map (shL d)).getD i noL) = shL d (Y.getD (i - X.length) noL)) :=
  ⟨getD_app_l, fun h h2 => by rw [getD_app_r h, getD_sh (by omega)]⟩
set_option maxHeartbeats 4000000 in
set_option maxRecDepth 100000 in
theorem joins_walk (a b : ByteArray) (w : World) : Calls Tryd.prog 6 #[.string a, .string b] w fun e w' => e = .returned (.bool true) ∧ Below w.heap.size w w' := by
  have HF1 := hidM (few_any a 2000 w (by omega))
  have HF2 := hidM (few_any b 2000 w (by omega))
  have hz1 := fewB_size a 2000
  have hz2 := fewB_size b 2000
  generalize fewB a 2000 = A0 at *
  generalize fewB b 2000 = B at *
  have e1 : ¬ (9223372036854775807 : Nat) < A0.size + 1 := by omega
  obtain ⟨A, hA⟩ : ∃ A, A0 ++ (⟨#[10]⟩ : ByteArray) = A := ⟨_, rfl⟩
  have hAs : A.size = A0.size + 1 := by rw [← hA, ByteArray.size_append]; rfl
  have hzA : A.size ≤ 2001 := by omega
  have e2 : ¬ (9223372036854775807 : Nat) < A.size + B.size := by omega
  obtain ⟨Z, hZ⟩ : ∃ Z, A ++ B = Z := ⟨_, rfl⟩
  have hZs : Z.size ≤ 4001 := by rw [← hZ, ByteArray.size_append]; omega
  have HLA : Hid (A.data.toList.getLast? = some 10) := by unfold Hid; rw [← hA, joinB]; simp
  have HP1 := hidM (fun V => parse_any A V (by omega))
  have HP2 := hidM (fun V => parse_any B V (by omega))
  have HP3 := hidM (fun V => parse_any Z V (by omega))
  unfold ParPost at HP1 HP2 HP3
  have HJ : Hid ((parL A.data.toList).2.2 = 0 → parL Z.data.toList = if (parL B.data.toList).2.2 = 0 then ((parL A.data.toList).1 ++ (parL B.data.toList).1.map (shL (A.data.toList.count 10)), 0, 0) else ([], (parL B.data.toList).2.1 + A.data.toList.count 10, 3)) := by
    intro h
    have := par_app2 A.data.toList B.data.toList HLA.out h
    rw [← hZ, show (A ++ B).data.toList = A.data.toList ++ B.data.toList by simp]
    exact this
  have HE1 := hidM (par_e A.data.toList)
  have HE2 := hidM (par_e B.data.toList)
  have HA2 : Hid ((parL B.data.toList).2.1 ≤ 2001 ∧ ∀ x ∈ (parL B.data.toList).1, x.2.2 ≤ 2001) := by
    have := parL_at B.data.toList
    rw [sl_len] at this
    exact ⟨by omega, fun x hx => by have := this.2 x hx; omega⟩
  have hl1 : (parL A.data.toList).1.length ≤ 2002 := by have := parL_len A.data.toList; rw [sl_len] at this; omega
  have hl2 : (parL B.data.toList).1.length ≤ 2001 := by have := parL_len B.data.toList; rw [sl_len] at this; omega
  obtain ⟨d, hd⟩ : ∃ d, A.data.toList.count 10 = d := ⟨_, rfl⟩
  have hd2 : d ≤ 2001 := by have := List.count_le_length (l := A.data.toList) (a := 10); rw [sl_len] at this; omega
  rw [hd] at HJ
  have HD := hidM hd
  clear hd HLA hAs
  generalize parL A.data.toList = PA at *
  generalize parL B.data.toList = PB at *
  generalize parL Z.data.toList = PZ at *
  obtain ⟨X, xa, xe⟩ := PA
  obtain ⟨Y, ya, ye⟩ := PB
  obtain ⟨ZZ, za, ze⟩ := PZ
  simp only at HP1 HP2 HP3 HJ HE1 HE2 HA2 hl1 hl2
  have HEND : Hid (∀ V, Below w.heap.size w V → Calls Tryd.prog 13 #[] V fun e w' => e = .returned (.bool true) ∧ Below w.heap.size w w') := fun V hV => (awake_any V).mono fun e w' ⟨he, hb⟩ => ⟨he, hV.trans (hb.mono hV.size)⟩
  go_enter Tryd.func6, Tryd.ntmps6
  go_wp2_with fail
  refine HF1.out.mono ?_
  rintro _ w0 ⟨rfl, hw⟩
  rw [hw]
  clear hw HF1
  go_wp2_with fail
  refine HF2.out.mono ?_
  rintro _ w0b ⟨rfl, hw⟩
  rw [hw]
  clear hw HF2
  go_wp2_with fail
  refine (HP1.out _).mono ?_
  rintro _ w1 ⟨lv1, rfl, hv1, hb1⟩
  obtain ⟨a1, c1, rfl, hq1⟩ := hv1.view
  have HB1 := hidM hb1
  have HV1 := hidM hq1
  clear hb1 hv1 hq1 HP1
  go_wp2_with fail
  refine (HP2.out _).mono ?_
  rintro _ w2 ⟨lv2, rfl, hv2, hb2⟩
  obtain ⟨a2, c2, rfl, hq2⟩ := hv2.view
  have HV1b := hidM (HV1.out.below hb2)
  have HB2 := hidM (HB1.out.trans (hb2.mono HB1.out.size))
  have HV2 := hidM hq2
  clear hb2 hv2 hq2 HP2 HV1 HB1
  go_wp2_with fail
  refine (HP3.out _).mono ?_
  rintro _ w3 ⟨lv3, rfl, hv3, hb3⟩
  obtain ⟨a3, c3, rfl, hq3⟩ := hv3.view
  have HX := hidM (HV1b.out.below hb3)
  have HY := hidM (HV2.out.below hb3)
  have HB := hidM (HB2.out.trans (hb3.mono HB2.out.size))
  have HZ := hidM hq3
  clear hb3 hv3 hq3 HP3 HV1b HB2 HV2
  by_cases hx0 : xe = 0
  · subst hx0
    have HJ2 := hidM (HJ.out rfl)
    clear HJ HE1
    obtain ⟨lx, hlx⟩ : ∃ n, n = X.length := ⟨_, rfl⟩
    obtain ⟨ly, hly⟩ : ∃ n, n = Y.length := ⟨_, rfl⟩
    obtain ⟨lz, hlz⟩ : ∃ n, n = ZZ.length := ⟨_, rfl⟩
    rw [← hlx] at hl1
    rw [← hly] at hl2
    rw [← hlx, ← hly, ← hlz]
    have HLX := hidM hlx
    have HLY := hidM hly
    have HLZ := hidM hlz
    clear hlx hly hlz
    go_wp2
    go_loopw [14, 15, 51, 52, 53, 54, 55, 56, 57, 58, 59, 60, 61, 62] (fun v14 v15 _ _ _ _ _ _ _ _ _ _ _ _ wr => ∃ k j : Nat, k ≤ A.size ∧ j ≤ k ∧ v15 = .int .i64 (k : Int) ∧ v14 = .int .i64 (j : Int) ∧ (A.data.toList.take k).count 10 = j ∧ wr = w3) (fun _ v15 _ _ _ _ _ _ _ _ _ _ _ _ _ => A.size - (intOf v15).toNat)
    case atStart => exact ⟨0, 0, Nat.zero_le _, Nat.zero_le _, rfl, rfl, rfl, rfl⟩
    case round =>
      obtain ⟨k, j, hk, hjk, rfl, rfl, hcnt, rfl⟩ := hrel
      have HC := hidM hcnt
      clear hcnt
      by_cases hlt : k < A.size
      · have kk : (k : Int) < (A.size : Int) := by omega
        have HTK : Hid (A.data.toList.take (k + 1) = A.data.toList.take k ++ [A[k]]) := take_one A k hlt
        by_cases hc : A[k] = 10
        · have b1 : (((A[k].toNat : Nat) : Int) == 10) = true := by rw [hc]; rfl
          have HN : Hid ((A.data.toList.take (k + 1)).count 10 = j + 1) := by unfold Hid; rw [HTK.out, List.count_append, HC.out, hc]; rfl
          clear hc HTK
          go_wp2
          go_roundw
          case rel => exact ⟨k + 1, j + 1, by omega, by omega, by go_num, by go_num, HN.out, trivial⟩
          case measure => (show A.size - ((k : Int) + 1).toNat < A.size - ((k : Int)).toNat); omega
        · have b1 : (((A[k].toNat : Nat) : Int) == 10) = false := by
            rw [beq_eq_false_iff_ne]
            intro e; apply hc; exact UInt8.toNat_inj.1 (by have : (10 : UInt8).toNat = 10 := rfl; omega)
          have HN : Hid ((A.data.toList.take (k + 1)).count 10 = j) := by unfold Hid; rw [HTK.out, List.count_append, HC.out, List.count_eq_zero.2 (by simpa using Ne.symm hc)]; rfl
          clear hc HTK
          go_wp2
          go_roundw
          case rel => exact ⟨k + 1, j, by omega, by omega, by go_num, rfl, HN.out, trivial⟩
          case measure => (show A.size - ((k : Int) + 1).toNat < A.size - ((k : Int)).toNat); omega
      · have kk : ¬ (k : Int) < (A.size : Int) := by omega
        obtain ⟨W3, hW3⟩ : ∃ V : World, V = wr := ⟨_, rfl⟩
        subst hW3
        have hjd : j = d := by
          have := HC.out
          rw [List.take_of_length_le (by rw [sl_len]; omega)] at this
          rw [← HD.out, this]
        subst hjd
        clear HC HD
        by_cases hy0 : ye = 0
        · subst hy0
          rw [if_pos rfl] at HJ2
          have hze : ze = 0 := by have := HJ2.out; simp only [Prod.mk.injEq] at this; exact this.2.2
          have HZZ : Hid (ZZ = X ++ Y.map (shL j)) := by have := HJ2.out; simp only [Prod.mk.injEq] at this; exact this.1
          have hlen : lz = lx + ly := by rw [HLZ.out, HZZ.out, HLX.out, HLY.out]; simp
          have b2 : ((lz : Int) != (lx : Int) + (ly : Int)) = false := by rw [hlen]; simp
          subst hze
          have hlz2 : lz ≤ 4003 := by omega
          have HLEN := hidM hlen
          clear HJ2 HE2 hlen
          have HB0 := hidM HB.out
          go_wp2
          go_loopw [16, 17, 97, 98, 99, 100, 101, 102, 103, 104, 105, 106, 107, 108, 109, 110, 111, 112, 113, 114, 115, 116, 117, 118, 119, 120, 121, 122, 123, 124, 125, 126, 127, 128, 129, 130, 131, 132, 133, 134, 135, 136, 137, 138, 139, 140, 141, 142, 143, 144, 145, 146, 147, 148, 149, 150, 151, 152, 153, 154, 155, 156, 157, 158, 159, 160] (fun _ _ v97 _ _ _ _ _ _ _ _ _ _ _ _ _ _ _ _ _ _ _ _ _ _ _ _ _ _ _ _ _ _ _ _ _ _ _ _ _ _ _ _ _ _ _ _ _ _ _ _ _ _ _ _ _ _ _ _ _ _ _ _ _ _ _ wr => ∃ k : Nat, k ≤ lz ∧ v97 = .int .i64 (k : Int) ∧ Below W3.heap.size W3 wr) (fun _ _ v97 _ _ _ _ _ _ _ _ _ _ _ _ _ _ _ _ _ _ _ _ _ _ _ _ _ _ _ _ _ _ _ _ _ _ _ _ _ _ _ _ _ _ _ _ _ _ _ _ _ _ _ _ _ _ _ _ _ _ _ _ _ _ _ _ => lz - (intOf v97).toNat)
          case atStart => exact ⟨0, Nat.zero_le _, rfl, Below.refl _ _⟩
          case round =>
            obtain ⟨k, hk, rfl, hbr⟩ := hrel
            have HBR := hidM hbr
            clear hbr
            by_cases hlt2 : k < lz
            · have kk2 : (k : Int) < (lz : Int) := by omega
              have hkz : k < ZZ.length := by rw [← HLZ.out]; exact hlt2
              obtain ⟨g, off, rfl, hg, hat⟩ := (HZ.out.below HBR.out).at hkz
              obtain ⟨na, nc, z0, z1, z2, _⟩ := hat k hkz
              clear hat
              have HJG := hidM (join_get (X := X) (Y := Y) (i := k) (d := j))
              rw [← HZZ.out, ← HLX.out, ← HLY.out] at HJG
              generalize ZZ.getD k noL = L at *
              obtain ⟨verb, words, la⟩ := L
              simp only at z0 z1 z2
              unfold strV at z0
              obtain ⟨V, hV⟩ : ∃ V : ByteArray, V = ⟨verb.toArray⟩ := ⟨_, rfl⟩
              rw [← hV] at z0
              have HVV := hidM hV
              clear hV
              generalize words.length = nw at *
              obtain ⟨y0, y2⟩ : (wr.alloc (.cells #[.string V, .slice na nw nc, .int .i64 (la : Int)] 37)).cell? ⟨wr.heap.size, 0, none⟩ = some (.string V) ∧ (wr.alloc (.cells #[.string V, .slice na nw nc, .int .i64 (la : Int)] 37)).cell? ⟨wr.heap.size, 2, none⟩ = some (.int .i64 (la : Int)) :=
                ⟨World.cell?_alloc_mark wr _ 37 (0, 0) 0, World.cell?_alloc_mark wr _ 37 (0, 0) 2⟩
              have HB3 : Hid (Below wr.heap.size wr (wr.alloc (.cells #[.string V, .slice na nw nc, .int .i64 (la : Int)] 37))) := (Below.refl _ wr).alloc (Nat.le_refl _) _
              have HB4 := hidM (HBR.out.trans (HB3.out.mono HBR.out.size))
              go_upto_region 21 with fail
              generalize wr.alloc (.cells #[.string V, .slice na nw nc, .int .i64 (la : Int)] 37) = W4 at *
              generalize wr.heap.size = g4 at *
              clear z0 z1 z2 HB3
              by_cases hkx : k < lx
              · have kx : (k : Int) < (lx : Int) := by omega
                have hkx2 : k < X.length := by rw [← HLX.out]; exact hkx
                have hL := HJG.out.1 hkx
                obtain ⟨g5, off5, rfl, hg5, hat5⟩ := (HX.out.below HB4.out).at hkx2
                obtain ⟨na5, nc5, u0, u1, u2, _⟩ := hat5 k hkx2
                clear hat5 HJG
                rw [← hL] at u0 u1 u2
                simp only at u0 u1 u2
                unfold strV at u0
                rw [← HVV.out] at u0
                have r1 : ¬ (lx : Int) ≤ (k : Int) := by omega
                clear hL
                go_quiet (fail)
                go_wp2
                go_roundw
                case rel => exact ⟨k + 1, by omega, by go_num, below_dn HB4.out _⟩
                case measure => (show lz - ((k : Int) + 1).toNat < lz - ((k : Int)).toNat); omega
              · have kx : ¬ (k : Int) < (lx : Int) := by omega
                have kx3 : (lx : Int) ≤ (k : Int) := by omega
                have hlen := HLEN.out
                have hL := HJG.out.2 hkx (by omega)
                obtain ⟨jj, hjj⟩ : ∃ jj, jj = k - lx := ⟨_, rfl⟩
                have r2 : (k : Int) - (lx : Int) = (jj : Int) := by omega
                have r3 : (jj : Int) < (ly : Int) := by omega
                have hjy : jj < Y.length := by rw [← HLY.out]; omega
                rw [← hjj] at hL
                obtain ⟨g5, off5, rfl, hg5, hat5⟩ := (HY.out.below HB4.out).at hjy
                obtain ⟨na5, nc5, u0, u1, u2, _⟩ := hat5 jj hjy
                have hy7 : (Y.getD jj noL).2.2 ≤ 2001 := HA2.out.2 _ (by simp [List.getD, hjy])
                clear hat5 HJG hlen hjj
                generalize Y.getD jj noL = LY at *
                obtain ⟨yverb, ywords, yat⟩ := LY
                unfold shL at hL
                simp only [Prod.mk.injEq] at hL u0 u1 u2 hy7
                obtain ⟨rfl, rfl, hla⟩ := hL
                unfold strV at u0
                rw [← HVV.out] at u0
                have r4 : (yat : Int) + (j : Int) = (la : Int) := by omega
                have HLA := hidM hla
                clear hla
                go_quiet (fail)
                go_wp2
                go_roundw
                case rel => exact ⟨k + 1, by omega, by go_num, below_dn HB4.out _⟩
                case measure => (show lz - ((k : Int) + 1).toNat < lz - ((k : Int)).toNat); omega
            · have kk2 : ¬ (k : Int) < (lz : Int) := by omega
              go_wp2_with fail
              refine (HEND.out _ (HB0.out.trans (HBR.out.mono HB0.out.size))).mono ?_
              rintro _ w9 ⟨rfl, hb9⟩
              go_wp2
              go_ret
              exact ⟨rfl, hb9⟩
        · have h3 : ye = 3 ∧ Y = [] := by rcases HE2.out with h | h; exact absurd h.1 hy0; exact h
          obtain ⟨rfl, rfl⟩ := h3
          rw [if_neg (by simp)] at HJ2
          obtain ⟨rfl, hza, rfl⟩ : ZZ = [] ∧ za = ya + j ∧ ze = 3 := by have := HJ2.out; simpa using this
          have hlz0 : lz = 0 := HLZ.out
          subst hlz0
          have hya := HA2.out.1
          have r4 : (ya : Int) + (j : Int) = (za : Int) := by omega
          clear HJ2 hza HE2
          go_wp2_with fail
          refine (HEND.out _ HB.out).mono ?_
          rintro _ w9 ⟨rfl, hb9⟩
          go_wp2
          go_ret
          exact ⟨rfl, hb9⟩
  · have h3 : xe = 3 ∧ X = [] := by rcases HE1.out with h | h; exact absurd h.1 hx0; exact h
    obtain ⟨rfl, rfl⟩ := h3
    clear HE1 HE2 HJ HA2
    go_wp2_with fail
    refine (HEND.out _ HB.out).mono ?_
    rintro _ w4 ⟨rfl, hb4⟩
    go_wp2
    go_ret
    exact ⟨rfl, hb4⟩
end Go.Proofs.YtgkjmmfpbcgmgaaDoor

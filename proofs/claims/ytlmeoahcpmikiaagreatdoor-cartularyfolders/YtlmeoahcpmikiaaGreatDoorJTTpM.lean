/-
  Taken over from another program: TpA.
  Taken over from another program: TreH.
  Taken over from another program: TreI.
  Taken over from another program: TpM.
-/
import Derived.Test.YtlmeoahcpmikiaaGreatDoorTTreG
namespace Go.Proofs.YtlmeoahcpmikiaaGreatDoor.T
open Go.RowKit
def splitC (c : UInt8) : List UInt8 → Option (List UInt8 × List UInt8)
  | [] => none
  | b :: l => if b = c then some ([], l) else (splitC c l).map fun x => (b :: x.1, x.2)
theorem split_none {c : UInt8} {l : List UInt8} (h : splitC c l = none) : Lib.indexByte l c = -1 ∧ c ∉ l := by
  induction l with
  | nil => exact ⟨rfl, by simp⟩
  | cons b l ih =>
    unfold splitC at h
    by_cases hb : b = c
    · rw [if_pos hb] at h; cases h
    · rw [if_neg hb, Option.map_eq_none_iff] at h
      have := ih h
      refine ⟨?_, by simp [this.2, Ne.symm hb]⟩
      unfold Lib.indexByte
      rw [if_neg (by simpa using hb), this.1]
      rfl
theorem split_some {c : UInt8} {l p q : List UInt8} (h : splitC c l = some (p, q)) : Lib.indexByte l c = (p.length : Int) ∧ l = p ++ c :: q ∧ c ∉ p := by
  induction l generalizing p with
  | nil => cases h
  | cons b l ih =>
    unfold splitC at h
    by_cases hb : b = c
    · rw [if_pos hb] at h
      obtain ⟨rfl, rfl⟩ := Prod.mk.inj (Option.some.inj h)
      refine ⟨?_, by rw [hb]; rfl, by simp⟩
      unfold Lib.indexByte
      rw [if_pos (by simpa using hb)]; rfl
    · rw [if_neg hb, Option.map_eq_some_iff] at h
      obtain ⟨⟨p', q'⟩, hx, he⟩ := h
      obtain ⟨rfl, rfl⟩ := Prod.mk.inj he
      obtain ⟨h1, h2, h3⟩ := ih hx
      refine ⟨?_, by rw [h2]; rfl, by simp [h3, Ne.symm hb]⟩
      unfold Lib.indexByte
      rw [if_neg (by simpa using hb), h1, if_neg (by simp)]
      simp
/-- what Cut answers at one byte -/
def cutR (c : UInt8) (l : List UInt8) : List UInt8 × List UInt8 × Bool :=
  match splitC c l with
  | none => (l, [], false)
  | some (p, q) => (p, q, true)
theorem ext_head (s : ByteArray) (k : Nat) : (s.extract 0 k).data.toList = s.data.toList.take k := by simp
theorem ext_tail (s : ByteArray) (k : Nat) : (s.extract k s.size).data.toList = s.data.toList.drop k := by
  rw [ByteArray.data_extract, Array.toList_extract, List.extract_eq_take_drop]
  rw [List.take_of_length_le]
  rw [List.length_drop]; simp
theorem ba_of {s : ByteArray} {l : List UInt8} (h : s.data.toList = l) : s = ⟨l.toArray⟩ := by
  subst h; rfl
set_option maxHeartbeats 1600000 in
theorem cut_in (s : ByteArray) (c : UInt8) (w : World) (hs : s.size ≤ 9223372036854775807) :
    Calls Tryz.prog 152 #[.string s, .string ⟨#[c]⟩] w fun e w' => e = .returned (.tuple #[.string ⟨(cutR c s.data.toList).1.toArray⟩, .string ⟨(cutR c s.data.toList).2.1.toArray⟩, .bool (cutR c s.data.toList).2.2]) ∧ ∃ m, w' = w.drewN m := by
  cases h : splitC c s.data.toList with
  | none =>
    have h1 := (split_none h).1
    have HR : Hid (cutR c s.data.toList = (s.data.toList, [], false)) := by unfold Hid cutR; rw [h]
    have HI : Hid (Calls Tryz.prog 208 #[.string s, .string ⟨#[c]⟩] w fun e w' => e = .returned (.int .i64 (-1)) ∧ w' = w) := by
      have := Tryz.stringslite_Index_one s c w
      rw [h1] at this
      exact this
    clear h h1
    go_enter Tryz.func152, Tryz.ntmps152
    go_wp2_with (go_at_call 208; with_reducible refine HI.out.mono ?_; rintro e w' ⟨rfl, rfl⟩)
    go_ret3
    exact ⟨by rw [HR.out]; rfl, 0, rfl⟩
  | some x =>
    obtain ⟨p, q⟩ := x
    obtain ⟨h1, h2, h3⟩ := split_some h
    have HR : Hid (cutR c s.data.toList = (p, q, true)) := by unfold Hid cutR; rw [h]
    have HI : Hid (Calls Tryz.prog 208 #[.string s, .string ⟨#[c]⟩] w fun e w' => e = .returned (.int .i64 (p.length : Int)) ∧ w' = w) := by
      have := Tryz.stringslite_Index_one s c w
      rw [h1] at this
      exact this
    have hl : p.length + 1 ≤ s.size := by
      have : s.data.toList.length = s.size := by simp
      rw [h2] at this; simp at this; omega
    have HP : Hid (s.extract 0 p.length = ⟨p.toArray⟩) := ba_of (by rw [ext_head, h2, List.take_left])
    have HQ : Hid (s.extract (p.length + 1) s.size = ⟨q.toArray⟩) := ba_of (by rw [ext_tail, h2, List.drop_append, List.drop_of_length_le (by omega)]; simp)
    clear h h1 h2 h3
    generalize p.length = n at *
    have c1 : (0 : Int) ≤ (n : Int) := by omega
    have c2 : (n : Int) ≤ (s.size : Int) := by omega
    have c4 : (n : Int) + 1 ≤ (s.size : Int) := by omega
    have c5 : (0 : Int) ≤ (n : Int) + 1 := by omega
    go_enter Tryz.func152, Tryz.ntmps152
    go_wp2_with (go_at_call 208; with_reducible refine HI.out.mono ?_; rintro e w' ⟨rfl, rfl⟩)
    go_quiet (fail)
    go_wp2
    go_ret3
    exact ⟨by rw [HR.out, ← HP.out, ← HQ.out]; rfl, nq, rfl⟩
theorem cut_any (s : ByteArray) (c : UInt8) (w : World) (hs : s.size ≤ 9223372036854775807) :
    Calls Tryz.prog 99 #[.string s, .string ⟨#[c]⟩] w fun e w' => e = .returned (.tuple #[.string ⟨(cutR c s.data.toList).1.toArray⟩, .string ⟨(cutR c s.data.toList).2.1.toArray⟩, .bool (cutR c s.data.toList).2.2]) ∧ ∃ m, w' = w.drewN m := by
  have HC := hidM (cut_in s c w hs)
  generalize (cutR c s.data.toList).1.toArray = A at *
  generalize (cutR c s.data.toList).2.1.toArray = B at *
  generalize (cutR c s.data.toList).2.2 = D at *
  go_enter Tryz.func99, Tryz.ntmps99
  go_wp2_with fail
  refine HC.out.mono ?_
  rintro _ w1 ⟨rfl, m, rfl⟩
  go_wp2
  go_ret3
  exact ⟨rfl, m, rfl⟩
/-- what first says: its error, the entry, what stands behind it -/
def firstR (l : List UInt8) : Int × EntB × List UInt8 :=
  match splitC 0 l with
  | none => (6, noE, [])
  | some (h, r) => if r.length < 20 then (6, noE, []) else
    match splitC 32 h with
    | none => (3, noE, [])
    | some (d, nm) => match modeR d with
      | none => (3, noE, [])
      | some m => (0, (m, ⟨nm.toArray⟩, ⟨(hexL (r.take 20)).toArray⟩), r.drop 20)
theorem entry29 : (Tryz.prog.info? 47).map (·.size) = some 3 := by kernel_rfl
theorem ones29 (m : Int) (a c : ByteArray) : (#[.int .i64 m, .string a, .string c] : Array Value).all (·.oneCell') = true := by simp [Value.oneCell']
theorem results_ctt {fn : Func} {p t u : Tmp} {ty : TypeId} {P : Program} (h : fn.results = #[.cell p ty, .tmp t, .tmp u]) (tmps : Array Value) (w : World) (g : Nat) (cs : Array Value)
    (hp : tmps.getD p undef = .pointer (some ⟨g, 0, none⟩)) (hr : (loadVar ty ⟨g, 0, none⟩).run P w = .ok (.agg cs) w) :
    (results fn tmps).run P w = .ok (.tuple #[.agg cs, tmps.getD t undef, tmps.getD u undef]) w := by
  have hp' : tmps[p]?.getD undef = .pointer (some ⟨g, 0, none⟩) := by simpa using hp
  simp only [results, h]
  simp [hp', asAddr, hr, Result.andThen]
theorem box3_set {V : World} {B : Nat} {a b c x y z : Value} (h : V.heap[B]? = some (.cells #[a, b, c] 47 (0, 0))) :
    (((V.setCell ⟨B, 0, none⟩ x).setCell ⟨B, 1, none⟩ y).setCell ⟨B, 2, none⟩ z).heap[B]? = some (.cells #[x, y, z] 47 (0, 0)) := by
  have h1 : (V.setCell ⟨B, 0, none⟩ x).heap[B]? = some (.cells #[x, b, c] 47 (0, 0)) := by
    rw [setCell_eq_setRow V _ 0 #[a, b, c] 47 (0, 0) x h]
    exact setRow_heap V _ _ _ 47 (0, 0) h
  have h2 : ((V.setCell ⟨B, 0, none⟩ x).setCell ⟨B, 1, none⟩ y).heap[B]? = some (.cells #[x, y, c] 47 (0, 0)) := by
    rw [setCell_eq_setRow _ _ 1 #[x, b, c] 47 (0, 0) y h1]
    exact setRow_heap _ _ _ _ 47 (0, 0) h1
  rw [setCell_eq_setRow _ _ 2 #[x, y, c] 47 (0, 0) z h2]
  exact setRow_heap _ _ _ _ 47 (0, 0) h2
theorem box_kept {V w' : World} {B : Nat} {o : Obj} (h : V.heap[B]? = some o) (hb : Below V.heap.size V w') : w'.heap[B]? = some o :=
  (hb.block B (Array.getElem?_eq_some_iff.1 h).1).trans h
theorem below_setRow {B g : Nat} {w wr : World} {c : Array Value} (h : Below B w wr) (hg : B ≤ g) : Below B w (wr.setRow g c) :=
  h.trans ⟨rfl, rfl, rfl, by simp, fun k hk => setRow_other wr g k c (by omega)⟩
/-- what first answers -/
def firstV (x : Int × EntB × List UInt8) : Value := .tuple #[.agg #[.int .i64 x.2.1.1, .string x.2.1.2.1, .string x.2.1.2.2], .string ⟨x.2.2.toArray⟩, .int .i64 x.1]
set_option maxHeartbeats 2000000 in
set_option maxRecDepth 100000 in
theorem first_any (s : ByteArray) (w : World) (hG : GT w) (hs : s.size ≤ 140737488355328) :
    Calls Tryz.prog 52 #[.string s] w fun e w' => e = .returned (firstV (firstR s.data.toList)) ∧ Below w.heap.size w w' := by
  have HX := hidM (heap_alloc_new w (.cells #[.int .i64 0, .string ⟨#[]⟩, .string ⟨#[]⟩] 47))
  have HB0 : Hid (Below w.heap.size w (w.alloc (.cells #[.int .i64 0, .string ⟨#[]⟩, .string ⟨#[]⟩] 47))) := (Below.refl _ w).alloc (Nat.le_refl _) _
  have HG0 := hidM (hG.below HB0.out)
  have HC1 := hidM (fun V => cut_any s 0 V (by omega))
  have hz := zero29
  have hG' : Hid (∀ n, GT ((w.alloc (.cells #[.int .i64 0, .string ⟨#[]⟩, .string ⟨#[]⟩] 47)).drewN n)) := fun n => HG0.out.below (below_drewN (Below.refl _ _) n)
  have HGD : Hid (∀ (V : World) n, GT V → GT (V.drewN n)) := fun V n h => h.below (below_drewN (Below.refl _ _) n)
  clear hG HG0
  cases h1 : splitC 0 s.data.toList with
  | none =>
    have HR : Hid (firstR s.data.toList = (6, noE, [])) := by unfold Hid firstR; rw [h1]
    have HK : Hid (cutR 0 s.data.toList = (s.data.toList, [], false)) := by unfold Hid cutR; rw [h1]
    rw [HK.out] at HC1
    clear h1 HK
    go_enter Tryz.func52, Tryz.ntmps52
    go_wp2_with fail
    refine (HC1.out _).mono ?_
    rintro _ w1 ⟨rfl, m1, rfl⟩
    clear HC1
    have HX1 : Hid (((w.alloc (.cells #[.int .i64 0, .string ⟨#[]⟩, .string ⟨#[]⟩] 47)).drewN m1).heap[w.heap.size]? = some (.cells #[.int .i64 0, .string ⟨#[]⟩, .string ⟨#[]⟩] 47 (0, 0))) := HX.out
    have HB1 := hidM (below_drewN HB0.out m1)
    have HG1 := hidM (hG'.out m1)
    clear HX HB0 hG'
    generalize (w.alloc (.cells #[.int .i64 0, .string ⟨#[]⟩, .string ⟨#[]⟩] 47)).drewN m1 = W1 at *

    go_wp2_with (refine wpList_store_row rfl 47 (.tmp 2) (.tmp 26) rfl w.heap.size #[.int .i64 0, .string ⟨#[]⟩, .string ⟨#[]⟩] rfl rfl 47 #[.int .i64 0, .string ⟨#[]⟩, .string ⟨#[]⟩] HX1.out entry29 rfl (ones29 _ _ _) ?_)
    exact bodyPost_ret (results_ctt rfl _ _ w.heap.size _ rfl (run_loadVar_row _ w.heap.size 47 47 _ (0, 0) _ (setRow_heap _ _ _ _ 47 _ HX1.out) Tryz.underlying47 rfl entry29)) rfl ⟨by rw [HR.out]; rfl, below_setRow HB1.out (Nat.le_refl _)⟩
  | some x =>
    obtain ⟨h, r⟩ := x
    obtain ⟨-, q2, -⟩ := split_some h1
    have HK : Hid (cutR 0 s.data.toList = (h, r, true)) := by unfold Hid cutR; rw [h1]
    have hsz : h.length + r.length + 1 = s.size := by
      rw [← len_size s, q2]; simp; omega
    rw [HK.out] at HC1
    simp only at HC1
    clear HK q2
    obtain ⟨R, hR⟩ : ∃ R : ByteArray, R = ⟨r.toArray⟩ := ⟨_, rfl⟩
    obtain ⟨H, hH⟩ : ∃ H : ByteArray, H = ⟨h.toArray⟩ := ⟨_, rfl⟩
    have hRl : R.data.toList = r := by rw [hR]
    have hHl : H.data.toList = h := by rw [hH]
    have hRz : R.size = r.length := by rw [← hRl]; exact (len_size R).symm
    have hHz : H.size = h.length := by rw [← hHl]; exact (len_size H).symm
    rw [← hR, ← hH] at HC1
    by_cases hr : r.length < 20
    · have HR : Hid (firstR s.data.toList = (6, noE, [])) := by unfold Hid firstR; rw [h1]; exact if_pos hr
      have g1 : (R.size : Int) < 20 := by omega
      clear h1 hsz hRl hHl hRz hHz hr hR hH
      go_enter Tryz.func52, Tryz.ntmps52
      go_wp2_with fail
      refine (HC1.out _).mono ?_
      rintro _ w1 ⟨rfl, m1, rfl⟩
      clear HC1
      have HX1 : Hid (((w.alloc (.cells #[.int .i64 0, .string ⟨#[]⟩, .string ⟨#[]⟩] 47)).drewN m1).heap[w.heap.size]? = some (.cells #[.int .i64 0, .string ⟨#[]⟩, .string ⟨#[]⟩] 47 (0, 0))) := HX.out
      have HB1 := hidM (below_drewN HB0.out m1)
      have HG1 := hidM (hG'.out m1)
      clear HX HB0 hG'
      generalize (w.alloc (.cells #[.int .i64 0, .string ⟨#[]⟩, .string ⟨#[]⟩] 47)).drewN m1 = W1 at *

      go_wp2_with (refine wpList_store_row rfl 47 (.tmp 2) (.tmp 26) rfl w.heap.size #[.int .i64 0, .string ⟨#[]⟩, .string ⟨#[]⟩] rfl rfl 47 #[.int .i64 0, .string ⟨#[]⟩, .string ⟨#[]⟩] HX1.out entry29 rfl (ones29 _ _ _) ?_)
      exact bodyPost_ret (results_ctt rfl _ _ w.heap.size _ rfl (run_loadVar_row _ w.heap.size 47 47 _ (0, 0) _ (setRow_heap _ _ _ _ 47 _ HX1.out) Tryz.underlying47 rfl entry29)) rfl ⟨by rw [HR.out]; rfl, below_setRow HB1.out (Nat.le_refl _)⟩
    · have g1 : ¬ (R.size : Int) < 20 := by omega
      have HC2 := hidM (fun V => cut_any H 32 V (by omega))
      cases h2 : splitC 32 h with
      | none =>
        have HR : Hid (firstR s.data.toList = (3, noE, [])) := by unfold Hid firstR; rw [h1]; simp only [hr, if_false]; rw [h2]
        have HK2 : Hid (cutR 32 H.data.toList = (h, [], false)) := by unfold Hid cutR; rw [hHl, h2]
        rw [HK2.out] at HC2
        simp only at HC2
        rw [← hH] at HC2
        have HMO := hidM (fun V (hV : GT V) => modeOf_any H V hV)
        generalize (modeR H.data.toList).getD 0 = mm at *
        generalize (modeR H.data.toList).isSome = mk at *
        clear h1 h2 hsz hRl hHl hRz hHz hr hR hH HK2
        go_enter Tryz.func52, Tryz.ntmps52
        go_wp2_with fail
        refine (HC1.out _).mono ?_
        rintro _ w1 ⟨rfl, m1, rfl⟩
        clear HC1
        have HX1 : Hid (((w.alloc (.cells #[.int .i64 0, .string ⟨#[]⟩, .string ⟨#[]⟩] 47)).drewN m1).heap[w.heap.size]? = some (.cells #[.int .i64 0, .string ⟨#[]⟩, .string ⟨#[]⟩] 47 (0, 0))) := HX.out
        have HB1 := hidM (below_drewN HB0.out m1)
        have HG1 := hidM (hG'.out m1)
        clear HX HB0 hG'
        generalize (w.alloc (.cells #[.int .i64 0, .string ⟨#[]⟩, .string ⟨#[]⟩] 47)).drewN m1 = W1 at *

        go_wp2_with fail
        refine (HC2.out _).mono ?_
        rintro _ w2 ⟨rfl, m2, rfl⟩
        clear HC2
        have HX2 : Hid ((W1.drewN m2).heap[w.heap.size]? = some (.cells #[.int .i64 0, .string ⟨#[]⟩, .string ⟨#[]⟩] 47 (0, 0))) := HX1.out
        have HB2 := hidM (below_drewN HB1.out m2)
        have HG2 := hidM (HGD.out W1 m2 HG1.out)
        clear HX1 HB1 HG1
        generalize W1.drewN m2 = W2 at *
        go_wp2_with fail
        refine (HMO.out _ HG2.out).mono ?_
        rintro _ w3 ⟨rfl, hb3⟩
        have HX3 := hidM (box_kept HX2.out hb3)
        have HB3 := hidM (HB2.out.trans (hb3.mono HB2.out.size))
        clear hb3 HX2 HB2 HG2 HMO
        go_wp2_with (refine wpList_store_row rfl 47 (.tmp 2) (.tmp 44) rfl w.heap.size #[.int .i64 0, .string ⟨#[]⟩, .string ⟨#[]⟩] rfl rfl 47 #[.int .i64 0, .string ⟨#[]⟩, .string ⟨#[]⟩] HX3.out entry29 rfl (ones29 _ _ _) ?_)
        exact bodyPost_ret (results_ctt rfl _ _ w.heap.size _ rfl (run_loadVar_row _ w.heap.size 47 47 _ (0, 0) _ (setRow_heap _ _ _ _ 47 _ HX3.out) Tryz.underlying47 rfl entry29)) rfl ⟨by rw [HR.out]; rfl, below_setRow HB3.out (Nat.le_refl _)⟩
      | some y =>
        obtain ⟨d, nm⟩ := y
        obtain ⟨D, hD⟩ : ∃ D : ByteArray, D = ⟨d.toArray⟩ := ⟨_, rfl⟩
        obtain ⟨M, hM⟩ : ∃ M : ByteArray, M = ⟨nm.toArray⟩ := ⟨_, rfl⟩
        have hDl : D.data.toList = d := by rw [hD]
        have HK2 : Hid (cutR 32 H.data.toList = (d, nm, true)) := by unfold Hid cutR; rw [hHl, h2]
        rw [HK2.out] at HC2
        simp only at HC2
        rw [← hD, ← hM] at HC2
        have HMO := hidM (fun V (hV : GT V) => modeOf_any D V hV)
        rw [hDl] at HMO
        cases hm : modeR d with
        | none =>
          have HR : Hid (firstR s.data.toList = (3, noE, [])) := by unfold Hid firstR; rw [h1]; simp only [hr, if_false]; rw [h2]; simp only; rw [hm]
          rw [hm] at HMO
          simp only [Option.getD, Option.isSome] at HMO
          clear h1 h2 hsz hRl hHl hRz hHz hr hR hH HK2 hD hM hDl hm
          go_enter Tryz.func52, Tryz.ntmps52
          go_wp2_with fail
          refine (HC1.out _).mono ?_
          rintro _ w1 ⟨rfl, m1, rfl⟩
          clear HC1
          have HX1 : Hid (((w.alloc (.cells #[.int .i64 0, .string ⟨#[]⟩, .string ⟨#[]⟩] 47)).drewN m1).heap[w.heap.size]? = some (.cells #[.int .i64 0, .string ⟨#[]⟩, .string ⟨#[]⟩] 47 (0, 0))) := HX.out
          have HB1 := hidM (below_drewN HB0.out m1)
          have HG1 := hidM (hG'.out m1)
          clear HX HB0 hG'
          generalize (w.alloc (.cells #[.int .i64 0, .string ⟨#[]⟩, .string ⟨#[]⟩] 47)).drewN m1 = W1 at *

          go_wp2_with fail
          refine (HC2.out _).mono ?_
          rintro _ w2 ⟨rfl, m2, rfl⟩
          clear HC2
          have HX2 : Hid ((W1.drewN m2).heap[w.heap.size]? = some (.cells #[.int .i64 0, .string ⟨#[]⟩, .string ⟨#[]⟩] 47 (0, 0))) := HX1.out
          have HB2 := hidM (below_drewN HB1.out m2)
          have HG2 := hidM (HGD.out W1 m2 HG1.out)
          clear HX1 HB1 HG1
          generalize W1.drewN m2 = W2 at *
          go_wp2_with fail
          refine (HMO.out _ HG2.out).mono ?_
          rintro _ w3 ⟨rfl, hb3⟩
          have HX3 := hidM (box_kept HX2.out hb3)
          have HB3 := hidM (HB2.out.trans (hb3.mono HB2.out.size))
          clear hb3 HX2 HB2 HG2 HMO
          go_wp2_with (refine wpList_store_row rfl 47 (.tmp 2) (.tmp 44) rfl w.heap.size #[.int .i64 0, .string ⟨#[]⟩, .string ⟨#[]⟩] rfl rfl 47 #[.int .i64 0, .string ⟨#[]⟩, .string ⟨#[]⟩] HX3.out entry29 rfl (ones29 _ _ _) ?_)
          exact bodyPost_ret (results_ctt rfl _ _ w.heap.size _ rfl (run_loadVar_row _ w.heap.size 47 47 _ (0, 0) _ (setRow_heap _ _ _ _ 47 _ HX3.out) Tryz.underlying47 rfl entry29)) rfl ⟨by rw [HR.out]; rfl, below_setRow HB3.out (Nat.le_refl _)⟩
        | some m =>
          have HR : Hid (firstR s.data.toList = (0, (m, ⟨nm.toArray⟩, ⟨(hexL (r.take 20)).toArray⟩), r.drop 20)) := by unfold Hid firstR; rw [h1]; simp only [hr, if_false]; rw [h2]; simp only; rw [hm]
          rw [hm] at HMO
          simp only [Option.getD, Option.isSome] at HMO
          have g2 : (20 : Int) ≤ (R.size : Int) := by omega
          have HHX := hidM (fun V => hex_any (R.extract 0 20) V (by rw [ByteArray.size_extract]; omega))
          have HE1 : Hid ((R.extract 0 20).data.toList = r.take 20) := by unfold Hid; rw [ext_head, hRl]
          have HE2 : Hid (R.extract 20 R.size = ⟨(r.drop 20).toArray⟩) := ba_of (by rw [ext_tail, hRl])
          rw [HE1.out] at HHX
          rw [← hM] at HR
          generalize (⟨(hexL (r.take 20)).toArray⟩ : ByteArray) = X at *
          clear h1 h2 hsz hRl hHl hRz hHz hr hR hH HK2 hD hM hDl hm HE1
          go_enter Tryz.func52, Tryz.ntmps52
          go_wp2_with fail
          refine (HC1.out _).mono ?_
          rintro _ w1 ⟨rfl, m1, rfl⟩
          clear HC1
          have HX1 : Hid (((w.alloc (.cells #[.int .i64 0, .string ⟨#[]⟩, .string ⟨#[]⟩] 47)).drewN m1).heap[w.heap.size]? = some (.cells #[.int .i64 0, .string ⟨#[]⟩, .string ⟨#[]⟩] 47 (0, 0))) := HX.out
          have HB1 := hidM (below_drewN HB0.out m1)
          have HG1 := hidM (hG'.out m1)
          clear HX HB0 hG'
          generalize (w.alloc (.cells #[.int .i64 0, .string ⟨#[]⟩, .string ⟨#[]⟩] 47)).drewN m1 = W1 at *

          go_wp2_with fail
          refine (HC2.out _).mono ?_
          rintro _ w2 ⟨rfl, m2, rfl⟩
          clear HC2
          have HX2 : Hid ((W1.drewN m2).heap[w.heap.size]? = some (.cells #[.int .i64 0, .string ⟨#[]⟩, .string ⟨#[]⟩] 47 (0, 0))) := HX1.out
          have HB2 := hidM (below_drewN HB1.out m2)
          have HG2 := hidM (HGD.out W1 m2 HG1.out)
          clear HX1 HB1 HG1
          generalize W1.drewN m2 = W2 at *
          go_wp2_with fail
          refine (HMO.out _ HG2.out).mono ?_
          rintro _ w3 ⟨rfl, hb3⟩
          have HX3 := hidM (box_kept HX2.out hb3)
          have HB3 := hidM (HB2.out.trans (hb3.mono HB2.out.size))
          clear hb3 HX2 HB2 HG2 HMO
          go_upto_region 8 with fail
          go_region_with (go_at_call 49; refine (HHX.out _).mono ?_; rintro _ w4 ⟨rfl, hb4⟩; have HX4 := hidM (box_kept (V := w3.drew) HX3.out hb4); have HB4 := hidM (HB3.out.drew.trans (hb4.mono HB3.out.size)); have c0 : w4.cell? ⟨w.heap.size, 0, none⟩ = some (.int .i64 0) := (by rw [cell_of_row _ _ _ _ 47 (0, 0) HX4.out]; rfl); have c1 : w4.cell? ⟨w.heap.size, 1, none⟩ = some (.string ⟨#[]⟩) := (by rw [cell_of_row _ _ _ _ 47 (0, 0) HX4.out]; rfl); have c2 : w4.cell? ⟨w.heap.size, 2, none⟩ = some (.string ⟨#[]⟩) := (by rw [cell_of_row _ _ _ _ 47 (0, 0) HX4.out]; rfl); have f0 : w4.frozen? ⟨w.heap.size, 0, none⟩ = false := (by simp [World.frozen?, HX4.out]); have f1 : w4.frozen? ⟨w.heap.size, 1, none⟩ = false := (by simp [World.frozen?, HX4.out]); have f2 : w4.frozen? ⟨w.heap.size, 2, none⟩ = false := (by simp [World.frozen?, HX4.out]))
          have HX5 := hidM (box3_set (x := .int .i64 m) (y := .string M) (z := .string X) HX4.out)
          have HB5 : Hid (Below w.heap.size w (((w4.setCell ⟨w.heap.size, 0, none⟩ (.int .i64 m)).setCell ⟨w.heap.size, 1, none⟩ (.string M)).setCell ⟨w.heap.size, 2, none⟩ (.string X))) :=
            ((HB4.out.setCell (Nat.le_refl _) _).setCell (Nat.le_refl _) _).setCell (Nat.le_refl _) _
          generalize ((w4.setCell ⟨w.heap.size, 0, none⟩ (.int .i64 m)).setCell ⟨w.heap.size, 1, none⟩ (.string M)).setCell ⟨w.heap.size, 2, none⟩ (.string X) = W5 at *
          go_wp2
          exact bodyPost_ret (results_ctt rfl _ _ w.heap.size _ rfl (run_loadVar_row _ w.heap.size 47 47 _ (0, 0) _ HX5.out Tryz.underlying47 rfl entry29)) rfl ⟨by rw [HR.out]; unfold firstV; simp only; rw [← HE2.out]; rfl, HB5.out⟩
end Go.Proofs.YtlmeoahcpmikiaaGreatDoor.T
namespace Go.Proofs.YtlmeoahcpmikiaaGreatDoor.T
open Go.RowKit Go.WideMaps Go.Maps
theorem bcells_app (out : List UInt8) (s : ByteArray) : Lib.byteCells out ++ Lib.strCells s = Lib.byteCells (out ++ s.data.toList) := by
  simp [Lib.byteCells, Lib.strCells]
theorem builder_below {T e : TypeId} {B b : Nat} {bs : List Value} {w w' : World} (h : Lib.IsBuilder T e B b bs w) (hb : Below w.heap.size w w') : Lib.IsBuilder T e B b bs w' := by
  have one : ∀ p, Lib.BuilderAt T e B b p bs w → Lib.BuilderAt T e B b p bs w' := by
    rintro p ⟨hB, v, hb1, hown, hne⟩
    refine ⟨hB, v, (hb.block b (Array.getElem?_eq_some_iff.1 hb1).1).trans hb1, ⟨hown.1, ?_⟩, hne⟩
    rcases hown.2 with h | ⟨g, cap, cur, h1, h2, h3, h4⟩
    · exact .inl h
    · exact .inr ⟨g, cap, cur, h1, h2, (hb.block g (Array.getElem?_eq_some_iff.1 h3).1).trans h3, h4⟩
  rcases h with h | h
  · exact .inl (one _ h)
  · exact .inr (one _ h)
theorem form_next {es : List EntB} {k : Nat} (hk : k < es.length) : formL (es.take (k + 1)) = formL (es.take k) ++ entL (es.getD k noE) := by
  unfold formL
  rw [List.take_succ_eq_append_getElem hk, List.flatMap_append, List.getD_eq_getElem?_getD, List.getElem?_eq_getElem hk]
  simp
theorem unhexL_len (l : List UInt8) : (unhexL l).length = l.length / 2 := by unfold unhexL; rw [unhexN_len]
theorem octZ_len {m : Int} (h : m ∈ modesL) : (octZ m).length ≤ 6 := by
  simp only [modesL, List.mem_cons, List.not_mem_nil, or_false] at h
  have hk : ∀ n : Nat, n < 262144 → (octZ (n : Int)).length ≤ 6 := fun n hn => by
    unfold octZ
    rw [if_neg (by omega)]
    exact octN_len n 6 (by decide) (by omega)
  rcases h with rfl | rfl | rfl | rfl | rfl
  · exact hk 16384 (by decide)
  · exact hk 33188 (by decide)
  · exact hk 33261 (by decide)
  · exact hk 40960 (by decide)
  · exact hk 57344 (by decide)
theorem entL_len {e : EntB} (h : rightB e.1 e.2.1.data.toList e.2.2.data.toList = true) : (entL e).length ≤ 200 ∧ (octZ e.1).length ≤ 6 ∧ e.2.1.size ≤ 100 ∧ e.2.2.size = 40 ∧ hexed e.2.2.data.toList = true := by
  unfold rightB at h
  simp only [Bool.and_eq_true, decide_eq_true_eq] at h
  obtain ⟨⟨h1, h2⟩, h3⟩ := h
  have h4 := octZ_len h1
  unfold nameB at h2
  simp only [decide_eq_true_eq] at h2
  have h5 : e.2.1.size ≤ 100 := by have := h2.2.1; rw [Array.length_toList] at this; exact this
  unfold idB at h3
  simp only [Bool.and_eq_true, decide_eq_true_eq] at h3
  have h6 : e.2.2.size = 40 := by have := h3.2; rw [Array.length_toList] at this; exact this
  refine ⟨?_, h4, h5, h6, ?_⟩
  · unfold entL
    have h7 : e.2.1.data.toList.length = e.2.1.size := Array.length_toList
    simp only [List.length_append, List.length_cons, List.length_nil, unhexL_len, h3.2, h7]
    omega
  · unfold hexed
    rw [h3.1, h3.2]
    rfl
theorem form_len {es : List EntB} (h : ∀ i, i < es.length → rightB (es.getD i noE).1 (es.getD i noE).2.1.data.toList (es.getD i noE).2.2.data.toList = true) : ∀ k, k ≤ es.length → (formL (es.take k)).length ≤ 200 * k
  | 0, _ => by simp [formL]
  | k + 1, hk => by
    rw [form_next (by omega), List.length_append]
    have h1 := form_len h k (by omega)
    have h2 := (entL_len (h k (by omega))).1
    omega
theorem step_right {es : List EntB} {i : Nat} (h : stepB es i = true) : rightB (es.getD i noE).1 (es.getD i noE).2.1.data.toList (es.getD i noE).2.2.data.toList = true := by
  unfold stepB at h
  simp only [Bool.and_eq_true] at h
  exact h.1.1
theorem chk_steps {es : List EntB} (h : checkV es = 0) : es.length ≤ 500 ∧ ∀ i, i < es.length → stepB es i = true := by
  unfold checkV at h
  split at h
  · cases h
  · unfold checkZ at h
    split at h
    · rename_i h1 h2
      exact ⟨by omega, fun i hi => List.all_eq_true.1 h2 i (List.mem_range.2 hi)⟩
    · cases h
theorem zero49 (w : World) : (zeroValue 76).run Tryz.prog w = .ok (.agg #[.pointer none, .slice none 0 0]) w := by kernel_rfl
set_option maxHeartbeats 8000000 in
set_option maxRecDepth 100000 in
theorem format_good (b off cap len : Nat) (es : List EntB) (w : World) (hG : GT w) (hl : es.length = len) (hb : b < w.heap.size) (hE : EntsAt w b off es) (hO : ∀ e ∈ es, OkE e) (hc : checkV es = 0) :
    Calls Tryz.prog 6 #[.slice (some ⟨b, off, none⟩) len cap] w fun e w' => e = .returned (.tuple #[.string ⟨(formL es).toArray⟩, .int .i64 0]) ∧ Below w.heap.size w w' := by
  obtain ⟨h500, hst⟩ := chk_steps hc
  have HST : Hid (∀ i, i < es.length → rightB (es.getD i noE).1 (es.getD i noE).2.1.data.toList (es.getD i noE).2.2.data.toList = true) := fun i hi => step_right (hst i hi)
  have HCK : Hid (Calls Tryz.prog 25 #[.slice (some ⟨b, off, none⟩) len cap] w fun e w' => e = .returned (.int .i64 0) ∧ Below w.heap.size w w') := by
    have h := check_any (some ⟨b, off, none⟩) cap es w hG (.inr ⟨b, off, rfl, hb, hE⟩) hO
    rw [hc, hl] at h
    exact h
  have HG := hidM hG
  have HE := hidM hE
  have HO := hidM hO
  have HL := hidM hl
  have l500 : len ≤ 500 := by omega
  have hz := zero49
  clear hG hE hO hl hc hst h500
  go_enter Tryz.func6, Tryz.ntmps6
  go_wp2_with fail
  refine HCK.out.mono ?_
  rintro _ w1 ⟨rfl, hb1⟩
  have HW1 := hidM hb1
  have HG1 := hidM (HG.out.below hb1)
  have HE1 := hidM (HE.out.below hb1 hb)
  have hb1' : b < w1.heap.size := Nat.lt_of_lt_of_le hb hb1.size
  clear hb1 HCK HE
  have HF0 : Hid (Lib.IsBuilder 76 5 w1.heap.size w1.heap.size (Lib.byteCells (formL (es.take 0))) (w1.alloc (.cells #[.pointer none, .slice none 0 0] 76))) := Lib.fresh_isBuilder 76 5 w1
  have HB0 : Hid (Below w1.heap.size w1 (w1.alloc (.cells #[.pointer none, .slice none 0 0] 76))) := (Below.refl _ w1).alloc (Nat.le_refl _) _
  go_wp2
  generalize w1.alloc (.cells #[.pointer none, .slice none 0 0] 76) = w2 at *
  obtain ⟨B, hB⟩ : ∃ B, B = w1.heap.size := ⟨_, rfl⟩
  rw [← hB] at HF0 HB0 hb1'
  simp only [← hB]
  have HBB := hidM hB
  clear hB
  go_loopw [7, 8, 9, 17] (fun _ _ _ iv wr => ∃ k : Nat, k ≤ len ∧ iv = .int .i64 (k : Int) ∧ Lib.IsBuilder 76 5 B B (Lib.byteCells (formL (es.take k))) wr ∧ Below B w1 wr ∧ B ≤ wr.heap.size) (fun _ _ _ i _ => len - (intOf i).toNat)
  case atStart => exact ⟨0, Nat.zero_le _, rfl, HF0.out, HB0.out, by have h := HB0.out.size; rw [← HBB.out] at h; exact h⟩
  case round =>
    obtain ⟨k, hk, rfl, hI, hbr, hbs⟩ := hrel
    clear HF0 HB0
    have HI := hidM hI
    have HBR := hidM hbr
    have HBs : Hid (B ≤ w1.heap.size) := by unfold Hid; rw [HBB.out]; exact Nat.le_refl _
    clear hI hbr
    by_cases hlt : k < len
    · have gk : (k : Int) < (len : Int) := by omega
      have HBR' : Hid (Below w1.heap.size w1 wr) := by have h := HBR.out; rw [HBB.out] at h; exact h
      obtain ⟨c0, c1, c2⟩ := (HE1.out.below HBR'.out (by rw [← HBB.out]; exact hb1')) k (by rw [HL.out]; exact hlt)
      have hri := HST.out k (by rw [HL.out]; exact hlt)
      obtain ⟨_, len1, len2, len3, hhx⟩ := entL_len hri
      have hfl := form_len HST.out k (by have := HL.out; omega)
      obtain ⟨m, hm⟩ : ∃ m, m = (es.getD k noE).1 := ⟨_, rfl⟩
      obtain ⟨nm, hnm⟩ : ∃ nm, nm = (es.getD k noE).2.1 := ⟨_, rfl⟩
      obtain ⟨id, hid⟩ : ∃ id, id = (es.getD k noE).2.2 := ⟨_, rfl⟩
      have okk := HO.out (es.getD k noE) (getD_mem (by rw [HL.out]; exact hlt))
      rw [← hm] at c0 len1
      rw [← hnm] at c1 len2
      rw [← hid] at c2 len3 hhx
      have okm : -9223372036854775808 ≤ m ∧ m ≤ 9223372036854775807 := by rw [hm]; exact ⟨okk.1, okk.2.1⟩
      obtain ⟨U, hU⟩ : ∃ U : ByteArray, U = ⟨(unhexL id.data.toList).toArray⟩ := ⟨_, rfl⟩
      obtain ⟨O, hOo⟩ : ∃ O : ByteArray, O = ⟨(octZ m).toArray⟩ := ⟨_, rfl⟩
      have oU : U.size ≤ 20 := by
        rw [hU]
        show (unhexL id.data.toList).toArray.size ≤ 20
        rw [List.size_toArray, unhexL_len, Array.length_toList]
        show id.size / 2 ≤ 20
        omega
      have oO : O.size ≤ 6 := by rw [hOo]; show (octZ m).toArray.size ≤ 6; rw [List.size_toArray]; exact len1
      have HEN : Hid (entL (es.getD k noE) = O.data.toList ++ [32] ++ nm.data.toList ++ [0] ++ U.data.toList) := by unfold Hid entL; rw [← hm, ← hnm, ← hid, hU, hOo]
      have HZ := zero29
      have HX0 : Hid (EBox (wr.alloc (.cells #[.int .i64 m, .string nm, .string id] 47)) wr.heap.size m nm id) := heap_alloc_new wr _
      have HA0 : Hid (Below wr.heap.size wr (wr.alloc (.cells #[.int .i64 m, .string nm, .string id] 47))) := (Below.refl _ wr).alloc (Nat.le_refl _) _
      have x2 := HX0.out.c2
      have hz29 := zero29
      clear hm hnm hid okk hri HZ
      go_wp2_with fail
      generalize wr.alloc (.cells #[.int .i64 m, .string nm, .string id] 47) = w3 at *
      have HUN : Hid (Calls Tryz.prog 26 #[.string id] w3 fun e w' => e = .returned (.tuple #[.string U, .bool true]) ∧ Below w3.heap.size w3 w') := by rw [hU]; exact unhex_yes id w3 (by omega) hhx
      refine HUN.out.mono ?_
      rintro _ w4 ⟨rfl, hb4⟩
      obtain ⟨X, hX⟩ : ∃ X, X = wr.heap.size := ⟨_, rfl⟩
      rw [← hX] at HX0
      simp only [← hX]
      have HX4 := hidM (HX0.out.below hb4)
      have HA4 : Hid (Below wr.heap.size wr w4) := HA0.out.trans (hb4.mono HA0.out.size)
      have HI4 := hidM (builder_below HI.out HA4.out)
      have HB4 : Hid (Below B w1 w4) := HBR.out.trans (HA4.out.mono hbs)
      have hBw4 : B ≤ w4.heap.size := Nat.le_trans hbs HA4.out.size
      have HG4 : Hid (GT w4) := HG1.out.below (HBR'.out.trans (HA4.out.mono HBR'.out.size))
      have HD : Hid (Below w4.heap.size w4 w4) := Below.refl _ _
      clear hb4 HUN x2 HX0 HA0 hX c0 c1 c2 hU HI HA4 HBR HBR'
      have d0 : (w4.drew).cell? ⟨X, 0, none⟩ = some (.int .i64 m) := HX4.out.c0
      have d1 : (w4.drew).cell? ⟨X, 1, none⟩ = some (.string nm) := HX4.out.c1
      have H24 : Hid (∀ V, Hid (Below w4.heap.size w4 V) → Calls Tryz.prog 28 #[.int .i64 m] V fun e w' => e = .returned (.string O) ∧ (w'.cell? ⟨X, 1, none⟩ = some (.string nm) ∧ Hid (Below w4.heap.size w4 w') ∧ Lib.IsBuilder 76 5 B B (Lib.byteCells (formL (es.take k))) w')) := fun V hV => by
        rw [hOo]
        refine (written_any m V (HG4.out.below hV.out) okm.1 okm.2).mono ?_
        rintro e w' ⟨h1, h2⟩
        have h3 := hV.out.trans (h2.mono hV.out.size)
        exact ⟨h1, (HX4.out.below h3).c1, h3, builder_below HI4.out h3⟩
      obtain ⟨T1, hT1⟩ : ∃ T1 : ByteArray, (O ++ ⟨#[32]⟩ : ByteArray) = T1 := ⟨_, rfl⟩
      obtain ⟨T2, hT2⟩ : ∃ T2 : ByteArray, T1 ++ nm = T2 := ⟨_, rfl⟩
      obtain ⟨T3, hT3⟩ : ∃ T3 : ByteArray, (T2 ++ ⟨#[0]⟩ : ByteArray) = T3 := ⟨_, rfl⟩
      obtain ⟨T4, hT4⟩ : ∃ T4 : ByteArray, T3 ++ U = T4 := ⟨_, rfl⟩
      have s1 : T1.size = O.size + 1 := by rw [← hT1, ByteArray.size_append]; rfl
      have s2 : T2.size = T1.size + nm.size := by rw [← hT2, ByteArray.size_append]
      have s3 : T3.size = T2.size + 1 := by rw [← hT3, ByteArray.size_append]; rfl
      have s4 : T4.size = T3.size + U.size := by rw [← hT4, ByteArray.size_append]
      have v1 : ¬ 9223372036854775807 < O.size + 1 := by omega
      have v2 : ¬ 9223372036854775807 < T1.size + nm.size := by omega
      have v3 : ¬ 9223372036854775807 < T2.size + 1 := by omega
      have v4 : ¬ 9223372036854775807 < T3.size + U.size := by omega
      have HT4 : Hid (T4.data.toList = O.data.toList ++ [32] ++ nm.data.toList ++ [0] ++ U.data.toList) := by
        unfold Hid
        rw [← hT4, ← hT3, ← hT2, ← hT1]
        simp [ByteArray.data_append]
      have H23 : Hid (∀ V, Lib.IsBuilder 76 5 B B (Lib.byteCells (formL (es.take k))) V → B ≤ V.heap.size → Calls Tryz.prog 27 #[.pointer (some ⟨B, 0, none⟩), .string T4] V fun e w' => e = .returned (.tuple #[.int .i64 T4.size, .nilIface]) ∧ (Lib.BuilderAt 76 5 B B (.pointer (some ⟨B, 0, none⟩)) (Lib.byteCells (formL (es.take k)) ++ Lib.strCells T4) w' ∧ Below B V w')) := fun V hV hB => Tryz.Builder_WriteString B B _ T4 V hV (by rw [Lib.byteCells_length]; omega) hB
      clear s1 s2 s3 s4 hOo
      go_wp2_with fail
      refine wp_region_noPanic ?_
      refine wp_region_any (by kernel_rfl) ?_
      change wpAny _ _ _ _ _ _ _ (World.drew _)
      refine wpAny_take (i := 0) (v := ?_) rfl (by kernel_rfl) (by kernel_rfl) (by kernel_rfl) (fun _ _ _ h => h) (Or.inl ⟨by kernel_rfl, ?_⟩) ?_
      rotate_left
      · intro w
        go_simp
        try with_reducible rfl
      change wpAny _ _ _ _ _ _ (⟨#[_,_,_,_,_,_,_,_,_,_,_,_,_,_,_,_,_,_,_,_,_,_,_,_,_,_,_,_,_,_,_,_,_,_,_,_,_,_,_,_], _⟩ : Act) _
      refine wpAny_take (i := 4) (v := ?_) rfl (by kernel_rfl) (by kernel_rfl) (by kernel_rfl) (fun _ _ _ h => h) (Or.inl ⟨by kernel_rfl, ?_⟩) ?_
      rotate_left
      · intro w
        go_simp
        try with_reducible rfl
      change wpAny _ _ _ _ _ _ (⟨#[_,_,_,_,_,_,_,_,_,_,_,_,_,_,_,_,_,_,_,_,_,_,_,_,_,_,_,_,_,_,_,_,_,_,_,_,_,_,_,_], _⟩ : Act) _
      refine wpAny_take (i := 8) (v := ?_) rfl (by kernel_rfl) (by kernel_rfl) (by kernel_rfl) (fun _ _ _ h => h) (Or.inl ⟨by kernel_rfl, ?_⟩) ?_
      rotate_left
      · intro w
        go_simp
        try with_reducible rfl
      change wpAny _ _ _ _ _ _ (⟨#[_,_,_,_,_,_,_,_,_,_,_,_,_,_,_,_,_,_,_,_,_,_,_,_,_,_,_,_,_,_,_,_,_,_,_,_,_,_,_,_], _⟩ : Act) _
      refine wpAny_ready (rs := [1, 5]) (by kernel_rfl) (by simp) (AllReady.cons rfl (fun K hK => ?_) (AllReady.cons rfl (fun K hK => ?_) AllReady.nil))
      · go_simp
        refine hK _ _ ?_
        clear hK K
        refine wpAny_ready (rs := [2, 5]) (by kernel_rfl) (by simp) (AllReady.cons rfl (fun K hK => ?_) (AllReady.cons rfl (fun K hK => ?_) AllReady.nil))
        · go_simp
          with_reducible refine (H24.out _ (BD.drew HD)).mono ?_
          rintro _ w5 ⟨rfl, hS5⟩
          refine hK _ _ ?_
          clear hK K
          obtain ⟨x1, HB5, HI5⟩ := hS5
          refine wpAny_take (i := 3) (v := ?_) rfl (by kernel_rfl) (by kernel_rfl) (by kernel_rfl) (fun _ _ _ h => h) (Or.inl ⟨by kernel_rfl, ?_⟩) ?_
          rotate_left
          · intro w
            go_simp
            try with_reducible rfl
          change wpAny _ _ _ _ _ _ (⟨#[_,_,_,_,_,_,_,_,_,_,_,_,_,_,_,_,_,_,_,_,_,_,_,_,_,_,_,_,_,_,_,_,_,_,_,_,_,_,_,_], _⟩ : Act) _
          refine wpAny_ready (rs := [5]) (by kernel_rfl) (by simp) (AllReady.cons rfl (fun K hK => ?_) AllReady.nil)
          go_simp
          refine hK _ _ ?_
          clear hK K
          refine wpAny_take (i := 6) (v := ?_) rfl (by kernel_rfl) (by kernel_rfl) (by kernel_rfl) (fun _ _ _ h => h) (Or.inl ⟨by kernel_rfl, ?_⟩) ?_
          rotate_left
          · intro w
            go_simp
            try with_reducible rfl
          change wpAny _ _ _ _ _ _ (⟨#[_,_,_,_,_,_,_,_,_,_,_,_,_,_,_,_,_,_,_,_,_,_,_,_,_,_,_,_,_,_,_,_,_,_,_,_,_,_,_,_], _⟩ : Act) _
          refine wpAny_take (i := 7) (v := ?_) rfl (by kernel_rfl) (by kernel_rfl) (by kernel_rfl) (fun _ _ _ h => h) (Or.inl ⟨by kernel_rfl, ?_⟩) ?_
          rotate_left
          · intro w
            go_simp
            try with_reducible rfl
          change wpAny _ _ _ _ _ _ (⟨#[_,_,_,_,_,_,_,_,_,_,_,_,_,_,_,_,_,_,_,_,_,_,_,_,_,_,_,_,_,_,_,_,_,_,_,_,_,_,_,_], _⟩ : Act) _
          refine wpAny_take (i := 9) (v := ?_) rfl (by kernel_rfl) (by kernel_rfl) (by kernel_rfl) (fun _ _ _ h => h) (Or.inl ⟨by kernel_rfl, ?_⟩) ?_
          rotate_left
          · intro w
            go_simp
            try with_reducible rfl
          change wpAny _ _ _ _ _ _ (⟨#[_,_,_,_,_,_,_,_,_,_,_,_,_,_,_,_,_,_,_,_,_,_,_,_,_,_,_,_,_,_,_,_,_,_,_,_,_,_,_,_], _⟩ : Act) _
          refine wpAny_ready (rs := [10]) (by kernel_rfl) (by simp) (AllReady.cons rfl (fun K hK => ?_) AllReady.nil)
          go_simp
          with_reducible refine (H23.out _ HI5 (Nat.le_trans hBw4 HB5.out.size)).mono ?_
          rintro _ w6 ⟨rfl, hI6, hB6⟩
          refine hK _ _ ?_
          clear hK K
          refine wpAny_done (by kernel_rfl) ?_ _
          refine NoPanic.normal ?_
          have HR6 : Hid (Below B w1 w6) := HB4.out.trans ((HB5.out.mono hBw4).trans hB6)
          have HI6 : Hid (Lib.IsBuilder 76 5 B B (Lib.byteCells (formL (es.take (k + 1)))) w6) := by
            have h := hI6
            rw [bcells_app, HT4.out] at h
            rw [form_next (by rw [HL.out]; exact hlt), HEN.out]
            exact .inr h
          clear hI6 hB6
          go_wp2
          go_roundw
          case rel => exact ⟨k + 1, hlt, by go_num, HI6.out, HR6.out, Nat.le_trans HBs.out HR6.out.size⟩
          case measure => simp [intOf]; omega
        · go_simp
          refine hK _ _ ?_
          clear hK K
          refine wpAny_ready (rs := [2]) (by kernel_rfl) (by simp) (AllReady.cons rfl (fun K hK => ?_) AllReady.nil)
          go_simp
          with_reducible refine (H24.out _ (BD.drew HD)).mono ?_
          rintro _ w5 ⟨rfl, hS5⟩
          refine hK _ _ ?_
          clear hK K
          obtain ⟨x1, HB5, HI5⟩ := hS5
          refine wpAny_take (i := 3) (v := ?_) rfl (by kernel_rfl) (by kernel_rfl) (by kernel_rfl) (fun _ _ _ h => h) (Or.inl ⟨by kernel_rfl, ?_⟩) ?_
          rotate_left
          · intro w
            go_simp
            try with_reducible rfl
          change wpAny _ _ _ _ _ _ (⟨#[_,_,_,_,_,_,_,_,_,_,_,_,_,_,_,_,_,_,_,_,_,_,_,_,_,_,_,_,_,_,_,_,_,_,_,_,_,_,_,_], _⟩ : Act) _
          refine wpAny_take (i := 6) (v := ?_) rfl (by kernel_rfl) (by kernel_rfl) (by kernel_rfl) (fun _ _ _ h => h) (Or.inl ⟨by kernel_rfl, ?_⟩) ?_
          rotate_left
          · intro w
            go_simp
            try with_reducible rfl
          change wpAny _ _ _ _ _ _ (⟨#[_,_,_,_,_,_,_,_,_,_,_,_,_,_,_,_,_,_,_,_,_,_,_,_,_,_,_,_,_,_,_,_,_,_,_,_,_,_,_,_], _⟩ : Act) _
          refine wpAny_take (i := 7) (v := ?_) rfl (by kernel_rfl) (by kernel_rfl) (by kernel_rfl) (fun _ _ _ h => h) (Or.inl ⟨by kernel_rfl, ?_⟩) ?_
          rotate_left
          · intro w
            go_simp
            try with_reducible rfl
          change wpAny _ _ _ _ _ _ (⟨#[_,_,_,_,_,_,_,_,_,_,_,_,_,_,_,_,_,_,_,_,_,_,_,_,_,_,_,_,_,_,_,_,_,_,_,_,_,_,_,_], _⟩ : Act) _
          refine wpAny_take (i := 9) (v := ?_) rfl (by kernel_rfl) (by kernel_rfl) (by kernel_rfl) (fun _ _ _ h => h) (Or.inl ⟨by kernel_rfl, ?_⟩) ?_
          rotate_left
          · intro w
            go_simp
            try with_reducible rfl
          change wpAny _ _ _ _ _ _ (⟨#[_,_,_,_,_,_,_,_,_,_,_,_,_,_,_,_,_,_,_,_,_,_,_,_,_,_,_,_,_,_,_,_,_,_,_,_,_,_,_,_], _⟩ : Act) _
          refine wpAny_ready (rs := [10]) (by kernel_rfl) (by simp) (AllReady.cons rfl (fun K hK => ?_) AllReady.nil)
          go_simp
          with_reducible refine (H23.out _ HI5 (Nat.le_trans hBw4 HB5.out.size)).mono ?_
          rintro _ w6 ⟨rfl, hI6, hB6⟩
          refine hK _ _ ?_
          clear hK K
          refine wpAny_done (by kernel_rfl) ?_ _
          refine NoPanic.normal ?_
          have HR6 : Hid (Below B w1 w6) := HB4.out.trans ((HB5.out.mono hBw4).trans hB6)
          have HI6 : Hid (Lib.IsBuilder 76 5 B B (Lib.byteCells (formL (es.take (k + 1)))) w6) := by
            have h := hI6
            rw [bcells_app, HT4.out] at h
            rw [form_next (by rw [HL.out]; exact hlt), HEN.out]
            exact .inr h
          clear hI6 hB6
          go_wp2
          go_roundw
          case rel => exact ⟨k + 1, hlt, by go_num, HI6.out, HR6.out, Nat.le_trans HBs.out HR6.out.size⟩
          case measure => simp [intOf]; omega
      · go_simp
        refine hK _ _ ?_
        clear hK K
        refine wpAny_ready (rs := [1]) (by kernel_rfl) (by simp) (AllReady.cons rfl (fun K hK => ?_) AllReady.nil)
        go_simp
        refine hK _ _ ?_
        clear hK K
        refine wpAny_ready (rs := [2]) (by kernel_rfl) (by simp) (AllReady.cons rfl (fun K hK => ?_) AllReady.nil)
        go_simp
        with_reducible refine (H24.out _ (BD.drew HD)).mono ?_
        rintro _ w5 ⟨rfl, hS5⟩
        refine hK _ _ ?_
        clear hK K
        obtain ⟨x1, HB5, HI5⟩ := hS5
        refine wpAny_take (i := 3) (v := ?_) rfl (by kernel_rfl) (by kernel_rfl) (by kernel_rfl) (fun _ _ _ h => h) (Or.inl ⟨by kernel_rfl, ?_⟩) ?_
        rotate_left
        · intro w
          go_simp
          try with_reducible rfl
        change wpAny _ _ _ _ _ _ (⟨#[_,_,_,_,_,_,_,_,_,_,_,_,_,_,_,_,_,_,_,_,_,_,_,_,_,_,_,_,_,_,_,_,_,_,_,_,_,_,_,_], _⟩ : Act) _
        refine wpAny_take (i := 6) (v := ?_) rfl (by kernel_rfl) (by kernel_rfl) (by kernel_rfl) (fun _ _ _ h => h) (Or.inl ⟨by kernel_rfl, ?_⟩) ?_
        rotate_left
        · intro w
          go_simp
          try with_reducible rfl
        change wpAny _ _ _ _ _ _ (⟨#[_,_,_,_,_,_,_,_,_,_,_,_,_,_,_,_,_,_,_,_,_,_,_,_,_,_,_,_,_,_,_,_,_,_,_,_,_,_,_,_], _⟩ : Act) _
        refine wpAny_take (i := 7) (v := ?_) rfl (by kernel_rfl) (by kernel_rfl) (by kernel_rfl) (fun _ _ _ h => h) (Or.inl ⟨by kernel_rfl, ?_⟩) ?_
        rotate_left
        · intro w
          go_simp
          try with_reducible rfl
        change wpAny _ _ _ _ _ _ (⟨#[_,_,_,_,_,_,_,_,_,_,_,_,_,_,_,_,_,_,_,_,_,_,_,_,_,_,_,_,_,_,_,_,_,_,_,_,_,_,_,_], _⟩ : Act) _
        refine wpAny_take (i := 9) (v := ?_) rfl (by kernel_rfl) (by kernel_rfl) (by kernel_rfl) (fun _ _ _ h => h) (Or.inl ⟨by kernel_rfl, ?_⟩) ?_
        rotate_left
        · intro w
          go_simp
          try with_reducible rfl
        change wpAny _ _ _ _ _ _ (⟨#[_,_,_,_,_,_,_,_,_,_,_,_,_,_,_,_,_,_,_,_,_,_,_,_,_,_,_,_,_,_,_,_,_,_,_,_,_,_,_,_], _⟩ : Act) _
        refine wpAny_ready (rs := [10]) (by kernel_rfl) (by simp) (AllReady.cons rfl (fun K hK => ?_) AllReady.nil)
        go_simp
        with_reducible refine (H23.out _ HI5 (Nat.le_trans hBw4 HB5.out.size)).mono ?_
        rintro _ w6 ⟨rfl, hI6, hB6⟩
        refine hK _ _ ?_
        clear hK K
        refine wpAny_done (by kernel_rfl) ?_ _
        refine NoPanic.normal ?_
        have HR6 : Hid (Below B w1 w6) := HB4.out.trans ((HB5.out.mono hBw4).trans hB6)
        have HI6 : Hid (Lib.IsBuilder 76 5 B B (Lib.byteCells (formL (es.take (k + 1)))) w6) := by
          have h := hI6
          rw [bcells_app, HT4.out] at h
          rw [form_next (by rw [HL.out]; exact hlt), HEN.out]
          exact .inr h
        clear hI6 hB6
        go_wp2
        go_roundw
        case rel => exact ⟨k + 1, hlt, by go_num, HI6.out, HR6.out, Nat.le_trans HBs.out HR6.out.size⟩
        case measure => simp [intOf]; omega
    · have gk : ¬ (k : Int) < (len : Int) := by omega
      have HST9 : Hid (Calls Tryz.prog 29 #[.pointer (some ⟨B, 0, none⟩)] wr fun e w' => e = .returned (.string ⟨(formL es).toArray⟩) ∧ Below B wr w') := by
        have h := Tryz.Builder_String_any B B _ wr HI.out hbs
        rw [List.take_of_length_le (by have := HL.out; omega)] at h
        exact h
      go_wp2_with fail
      refine HST9.out.mono ?_
      rintro _ w9 ⟨rfl, hb9⟩
      have HB9 : Hid (Below w.heap.size w w9) := by
        have h1 : Below w1.heap.size w1 w9 := by have h := HBR.out.trans hb9; rw [HBB.out] at h; exact h
        exact HW1.out.trans (h1.mono HW1.out.size)
      clear hb9 HST9
      go_wp2
      go_ret2
      exact ⟨rfl, HB9.out⟩
end Go.Proofs.YtlmeoahcpmikiaaGreatDoor.T
namespace Go.Proofs.YtlmeoahcpmikiaaGreatDoor.T
open Go.RowKit Go.WideMaps Go.Maps
/-- what Format says -/
def formT (es : List EntB) : List UInt8 := if checkV es = 0 then formL es else []
set_option maxHeartbeats 1000000 in
set_option maxRecDepth 100000 in
theorem format_bad (a : Option Addr) (cap : Nat) (es : List EntB) (w : World) (hG : GT w) (hE : EntsIn w a es) (hO : ∀ e ∈ es, OkE e) (hc : checkV es ≠ 0) :
    Calls Tryz.prog 6 #[.slice a es.length cap] w fun e w' => e = .returned (.tuple #[.string ⟨#[]⟩, .int .i64 (checkV es)]) ∧ Below w.heap.size w w' := by
  have HCK := hidM (check_any a cap es w hG hE hO)
  have e0 : (checkV es == 0) = false := by simp; exact hc
  clear hG hE hO hc
  generalize checkV es = c at *
  generalize es.length = len at *
  go_enter Tryz.func6, Tryz.ntmps6
  go_wp2_with fail
  refine HCK.out.mono ?_
  rintro _ w1 ⟨rfl, hb1⟩
  have HB := hidM hb1
  clear hb1 HCK
  go_wp2
  go_ret2
  exact ⟨rfl, HB.out⟩
set_option maxHeartbeats 1000000 in
set_option maxRecDepth 100000 in
theorem format_nil (a : Option Addr) (cap : Nat) (w : World) :
    Calls Tryz.prog 6 #[.slice a 0 cap] w fun e w' => e = .returned (.tuple #[.string ⟨#[]⟩, .int .i64 0]) ∧ Below w.heap.size w w' := by
  have hz := zero49
  go_enter Tryz.func6, Tryz.ntmps6
  go_wp2_with fail
  refine (check_nil a cap w).mono ?_
  rintro _ w1 ⟨rfl, hb1⟩
  have HB := hidM hb1
  have HF0 : Hid (Lib.IsBuilder 76 5 w1.heap.size w1.heap.size (Lib.byteCells []) (w1.alloc (.cells #[.pointer none, .slice none 0 0] 76))) := Lib.fresh_isBuilder 76 5 w1
  have HB0 : Hid (Below w1.heap.size w1 (w1.alloc (.cells #[.pointer none, .slice none 0 0] 76))) := (Below.refl _ w1).alloc (Nat.le_refl _) _
  have HS := hidM (Tryz.Builder_String_any w1.heap.size w1.heap.size [] _ HF0.out HB0.out.size)
  clear hb1
  go_wp2
  refine wp_loop_rounds 1 ?_
  rw [rounds_succ]
  go_wp2_with fail
  refine HS.out.mono ?_
  rintro _ w3 ⟨rfl, hb3⟩
  have HB3 : Hid (Below w.heap.size w w3) := HB.out.trans ((HB0.out.trans hb3).mono HB.out.size)
  clear hb3 HS
  go_wp2
  go_ret2
  exact ⟨rfl, HB3.out⟩
theorem treeFormat_any (a : Option Addr) (cap : Nat) (es : List EntB) (w : World) (hG : GT w) (hE : EntsIn w a es) (hO : ∀ e ∈ es, OkE e) :
    Calls Tryz.prog 6 #[.slice a es.length cap] w fun e w' => e = .returned (.tuple #[.string ⟨(formT es).toArray⟩, .int .i64 (checkV es)]) ∧ Below w.heap.size w w' := by
  by_cases hc : checkV es = 0
  · have hf : formT es = formL es := by unfold formT; rw [if_pos hc]
    rw [hf, hc]
    rcases hE with rfl | ⟨b, off, rfl, h1, h2⟩
    · exact format_nil a cap w
    · exact format_good b off cap es.length es w hG rfl h1 h2 hO hc
  · have hf : formT es = [] := by unfold formT; rw [if_neg hc]
    rw [hf]
    exact format_bad a cap es w hG hE hO hc
end Go.Proofs.YtlmeoahcpmikiaaGreatDoor.T
namespace Go.Proofs.YtlmeoahcpmikiaaGreatDoor.T
open Go.RowKit
theorem splitC_app {c : UInt8} {q : List UInt8} : ∀ {p : List UInt8}, c ∉ p → splitC c (p ++ c :: q) = some (p, q)
  | [], _ => by simp [splitC]
  | b :: p, h => by
    have h1 : b ≠ c := fun e => h (by simp [e])
    have h2 : c ∉ p := fun e => h (by simp [e])
    rw [List.cons_append]
    unfold splitC
    rw [if_neg h1, splitC_app h2]; rfl
theorem first_shape (l : List UInt8) : (∃ h r d nm m, splitC 0 l = some (h, r) ∧ 20 ≤ r.length ∧ splitC 32 h = some (d, nm) ∧ modeR d = some m ∧ firstR l = (0, (m, ⟨nm.toArray⟩, ⟨(hexL (r.take 20)).toArray⟩), r.drop 20)) ∨ (((firstR l).1 = 6 ∨ (firstR l).1 = 3) ∧ firstR l = ((firstR l).1, noE, [])) := by
  unfold firstR
  cases h1 : splitC 0 l with
  | none => exact Or.inr ⟨Or.inl rfl, rfl⟩
  | some x =>
    obtain ⟨h, r⟩ := x
    simp only
    by_cases hr : r.length < 20
    · rw [if_pos hr]; exact Or.inr ⟨Or.inl rfl, rfl⟩
    · rw [if_neg hr]
      cases h2 : splitC 32 h with
      | none => exact Or.inr ⟨Or.inr rfl, rfl⟩
      | some y =>
        obtain ⟨d, nm⟩ := y
        simp only
        cases hm : modeR d with
        | none => exact Or.inr ⟨Or.inr rfl, rfl⟩
        | some m => exact Or.inl ⟨h, r, d, nm, m, rfl, by omega, h2, hm, rfl⟩
theorem modeR_eq {d : List UInt8} {m : Int} (h : modeR d = some m) : m ∈ modesL ∧ octZ m = d := by
  unfold modeR at h
  exact ⟨List.mem_of_find?_eq_some h, by simpa using List.find?_some h⟩
theorem modeR_self {m : Int} (h : m ∈ modesL) : modeR (octZ m) = some m := by
  cases hm : modeR (octZ m) with
  | none =>
    have := modeR_of m
    rw [hm, decide_eq_true h] at this
    cases this
  | some x =>
    have := (modeR_eq hm).2
    rw [octZ_inj this]
theorem first_less {l : List UInt8} (h : (firstR l).1 = 0) : (firstR l).2.2.length < l.length := by
  rcases first_shape l with ⟨hd, r, d, nm, m, h1, h2, h3, h4, h5⟩ | ⟨h1 | h1, _⟩
  · rw [h5]
    obtain ⟨-, e1, -⟩ := split_some h1
    have : l.length = hd.length + r.length + 1 := by rw [e1]; simp; omega
    show (r.drop 20).length < l.length
    rw [List.length_drop]
    omega
  · rw [h] at h1; cases h1
  · rw [h] at h1; cases h1
theorem dig_hexV {a : UInt8} (h : isDig a = true) : digN (hexV a) = a := by
  have key : ∀ n : Fin 256, isDig (UInt8.ofNat n.val) = true → digN (hexV (UInt8.ofNat n.val)) = UInt8.ofNat n.val := by decide +kernel
  have := key ⟨a.toNat, UInt8.toNat_lt a⟩
  simp only [UInt8.ofNat_toNat] at this
  exact this h
theorem hex_unhex : ∀ (n : Nat) (l : List UInt8), l.length = 2 * n → l.all isDig = true → hexL (unhexL l) = l
  | 0, l, h, _ => by
    have : l = [] := List.length_eq_zero_iff.1 (by omega)
    subst this; rfl
  | n + 1, [], h, _ => by simp at h
  | n + 1, [_], h, _ => by simp at h; omega
  | n + 1, a :: b :: l, h, hd => by
    simp only [List.all_cons, Bool.and_eq_true] at hd
    rw [unhexL_cons]
    have ha := hexV_lt a
    have hb := hexV_lt b
    have e : (UInt8.ofNat (hexV a * 16 + hexV b)).toNat = hexV a * 16 + hexV b := by rw [UInt8.toNat_ofNat']; omega
    show hex2 (UInt8.ofNat (hexV a * 16 + hexV b)) ++ hexL (unhexL l) = _
    rw [hex_unhex n l (by simp at h; omega) hd.2.2]
    unfold hex2
    rw [e, show (hexV a * 16 + hexV b) / 16 = hexV a by omega, show (hexV a * 16 + hexV b) % 16 = hexV b by omega, dig_hexV hd.1, dig_hexV hd.2.1]
    rfl
theorem right_parts {e : EntB} (h : rightB e.1 e.2.1.data.toList e.2.2.data.toList = true) : e.1 ∈ modesL ∧ nameB e.2.1.data.toList = true ∧ e.2.2.data.toList.length = 40 ∧ e.2.2.data.toList.all isDig = true := by
  unfold rightB at h
  simp only [Bool.and_eq_true, decide_eq_true_eq] at h
  have h2 := h.2
  unfold idB at h2
  simp only [Bool.and_eq_true, decide_eq_true_eq] at h2
  exact ⟨h.1.1, h.1.2, h2.2, h2.1⟩
theorem octZ_dig {m : Int} (h : m ∈ modesL) : ∀ c ∈ octZ m, 48 ≤ c.toNat ∧ c.toNat ≤ 55 := by
  have h0 : ¬ m < 0 := by
    simp only [modesL, List.mem_cons, List.not_mem_nil, or_false] at h
    omega
  unfold octZ
  rw [if_neg h0]
  exact octN_dig _
theorem first_ent {e : EntB} (h : rightB e.1 e.2.1.data.toList e.2.2.data.toList = true) (r : List UInt8) : firstR (entL e ++ r) = (0, e, r) := by
  obtain ⟨hm, hn, hl, hd⟩ := right_parts h
  have hnz : (0 : UInt8) ∉ e.2.1.data.toList := by
    unfold nameB at hn
    exact (of_decide_eq_true hn).2.2.2.1
  have hoz : (0 : UInt8) ∉ octZ e.1 := fun hc => by have := (octZ_dig hm 0 hc).1; simp at this
  have hob : (32 : UInt8) ∉ octZ e.1 := fun hc => by have := (octZ_dig hm 32 hc).1; simp at this
  have e1 : entL e ++ r = (octZ e.1 ++ 32 :: e.2.1.data.toList) ++ 0 :: (unhexL e.2.2.data.toList ++ r) := by
    unfold entL; simp
  have h1 : splitC 0 (entL e ++ r) = some (octZ e.1 ++ 32 :: e.2.1.data.toList, unhexL e.2.2.data.toList ++ r) := by
    rw [e1]
    refine splitC_app ?_
    intro hc
    rcases List.mem_append.1 hc with hc | hc
    · exact hoz hc
    · rcases List.mem_cons.1 hc with hc | hc
      · cases hc
      · exact hnz hc
  have hul : (unhexL e.2.2.data.toList).length = 20 := by rw [unhexL_len, hl]
  have h3 : splitC 32 (octZ e.1 ++ 32 :: e.2.1.data.toList) = some (octZ e.1, e.2.1.data.toList) := splitC_app hob
  unfold firstR
  rw [h1]
  simp only
  rw [if_neg (by rw [List.length_append]; omega), h3]
  simp only
  rw [modeR_self hm]
  simp only
  rw [List.take_append_of_le_length (by omega), List.take_of_length_le (by omega), hex_unhex 20 _ hl hd, List.drop_append_of_le_length (by omega), List.drop_of_length_le (by omega), List.nil_append]
/-- what Parse says of what is left and of what was read -/
def parseF (l : List UInt8) (acc : List EntB) : Int × List EntB :=
  if l = [] then (checkV acc, if checkV acc = 0 then acc else [])
  else if _h : (firstR l).1 = 0 then
    if acc.length = 500 then (2, []) else parseF (firstR l).2.2 (acc ++ [(firstR l).2.1])
  else ((firstR l).1, [])
termination_by l.length
decreasing_by exact first_less _h
theorem parse_nil (acc : List EntB) : parseF [] acc = (checkV acc, if checkV acc = 0 then acc else []) := by
  rw [parseF, if_pos rfl]
theorem parse_bad {l : List UInt8} {acc : List EntB} (hl : l ≠ []) (h : (firstR l).1 ≠ 0) : parseF l acc = ((firstR l).1, []) := by
  rw [parseF, if_neg hl, dif_neg h]
theorem parse_full {l : List UInt8} {acc : List EntB} (hl : l ≠ []) (h : (firstR l).1 = 0) (h5 : acc.length = 500) : parseF l acc = (2, []) := by
  rw [parseF, if_neg hl, dif_pos h, if_pos h5]
theorem parse_more {l : List UInt8} {acc : List EntB} (hl : l ≠ []) (h : (firstR l).1 = 0) (h5 : acc.length ≠ 500) : parseF l acc = parseF (firstR l).2.2 (acc ++ [(firstR l).2.1]) := by
  rw [parseF, if_neg hl, dif_pos h, if_neg h5]
theorem ent_ne {e : EntB} {r : List UInt8} : entL e ++ r ≠ [] := by unfold entL; simp
theorem parse_back : ∀ (es acc : List EntB), (∀ e ∈ es, rightB e.1 e.2.1.data.toList e.2.2.data.toList = true) → acc.length ≤ 500 →
    parseF (formL es) acc = if 500 < acc.length + es.length then (2, []) else (checkV (acc ++ es), if checkV (acc ++ es) = 0 then acc ++ es else []) := by
  intro es
  induction es with
  | nil =>
    intro acc _ ha
    rw [if_neg (by simp; omega)]
    show parseF [] acc = _
    rw [parse_nil, List.append_nil]
  | cons e es ih =>
    intro acc hr ha
    have hf := first_ent (hr e (by simp)) (formL es)
    have hc : formL (e :: es) = entL e ++ formL es := by simp [formL]
    rw [hc]
    have h1 : (firstR (entL e ++ formL es)).1 = 0 := by rw [hf]
    by_cases h5 : acc.length = 500
    · rw [parse_full ent_ne h1 h5, if_pos (by simp; omega)]
    · rw [parse_more ent_ne h1 h5, hf]
      simp only
      rw [ih _ (fun x hx => hr x (by simp [hx])) (by simp; omega)]
      simp only [List.length_append, List.length_cons, List.length_nil, List.append_assoc, List.singleton_append]
      rw [show acc.length + (0 + 1) + es.length = acc.length + (es.length + 1) by omega]
/-- entries that first makes keep to the bounds -/
theorem first_ok {l : List UInt8} (hl : l.length ≤ 140737488355328) : OkE (firstR l).2.1 := by
  rcases first_shape l with ⟨hd, r, d, nm, m, h1, h2, h3, h4, h5⟩ | ⟨_, h5⟩
  · rw [h5]
    have hm := (modeR_eq h4).1
    obtain ⟨-, e1, -⟩ := split_some h1
    obtain ⟨-, e2, -⟩ := split_some h3
    have hln : nm.length ≤ l.length := by rw [e1, e2]; simp; omega
    have hx : (hexL (r.take 20)).length ≤ 40 := by rw [hexL_len, List.length_take]; omega
    refine ⟨?_, ?_, ?_, ?_⟩
    · simp only [modesL, List.mem_cons, List.not_mem_nil, or_false] at hm; show -9223372036854775808 ≤ m; omega
    · simp only [modesL, List.mem_cons, List.not_mem_nil, or_false] at hm; show m ≤ 9223372036854775807; omega
    · show nm.toArray.size ≤ _; rw [List.size_toArray]; omega
    · show (hexL (r.take 20)).toArray.size ≤ _; rw [List.size_toArray]; omega
  · rw [h5]
    show OkE noE
    refine ⟨by decide, by decide, by decide, by decide⟩
end Go.Proofs.YtlmeoahcpmikiaaGreatDoor.T

/-
  Walks of tree: Cut at one byte, first.
-/
import Derived.Test.YtccohagdfpcplaaDoorTreG
namespace Go.Proofs.YtccohagdfpcplaaDoor
open Go.RowKit

def splitC (c : UInt8) : List UInt8 → Option (List UInt8 × List UInt8)
  | [] => none
  | b :: l => if b = c then some ([], l) else (splitC c l).map fun x => (b :: x.1, x.2)
theorem split_none {c : UInt8} {l : List UInt8} (h : splitC c l = none) : Lib.indexByte l c = -1 ∧ c ∉ l := by
  induction l with
  | nil => exact ⟨rfl, by simp⟩
  | cons b l ih =>
    unfold splitC at h
    by_cases hb : b = c
    · rw [if_pos hb] at h; cases h
    · rw [if_neg hb, Option.map_eq_none_iff] at h
      have := ih h
      refine ⟨?_, by simp [this.2, Ne.symm hb]⟩
      unfold Lib.indexByte
      rw [if_neg (by simpa using hb), this.1]
      rfl
theorem split_some {c : UInt8} {l p q : List UInt8} (h : splitC c l = some (p, q)) : Lib.indexByte l c = (p.length : Int) ∧ l = p ++ c :: q ∧ c ∉ p := by
  induction l generalizing p with
  | nil => cases h
  | cons b l ih =>
    unfold splitC at h
    by_cases hb : b = c
    · rw [if_pos hb] at h
      obtain ⟨rfl, rfl⟩ := Prod.mk.inj (Option.some.inj h)
      refine ⟨?_, by rw [hb]; rfl, by simp⟩
      unfold Lib.indexByte
      rw [if_pos (by simpa using hb)]; rfl
    · rw [if_neg hb, Option.map_eq_some_iff] at h
      obtain ⟨⟨p', q'⟩, hx, he⟩ := h
      obtain ⟨rfl, rfl⟩ := Prod.mk.inj he
      obtain ⟨h1, h2, h3⟩ := ih hx
      refine ⟨?_, by rw [h2]; rfl, by simp [h3, Ne.symm hb]⟩
      unfold Lib.indexByte
      rw [if_neg (by simpa using hb), h1, if_neg (by simp)]
      simp
/-- what Cut answers at one byte -/
def cutR (c : UInt8) (l : List UInt8) : List UInt8 × List UInt8 × Bool :=
  match splitC c l with
  | none => (l, [], false)
  | some (p, q) => (p, q, true)

theorem ext_head (s : ByteArray) (k : Nat) : (s.extract 0 k).data.toList = s.data.toList.take k := by simp
theorem ext_tail (s : ByteArray) (k : Nat) : (s.extract k s.size).data.toList = s.data.toList.drop k := by
  rw [ByteArray.data_extract, Array.toList_extract, List.extract_eq_take_drop]
  rw [List.take_of_length_le]
  rw [List.length_drop]; simp
theorem ba_of {s : ByteArray} {l : List UInt8} (h : s.data.toList = l) : s = ⟨l.toArray⟩ := by
  subst h; rfl

set_option maxHeartbeats 1600000 in
theorem cut_in (s : ByteArray) (c : UInt8) (w : World) (hs : s.size ≤ 9223372036854775807) :
    Calls Tryd.prog 55 #[.string s, .string ⟨#[c]⟩] w fun e w' => e = .returned (.tuple #[.string ⟨(cutR c s.data.toList).1.toArray⟩, .string ⟨(cutR c s.data.toList).2.1.toArray⟩, .bool (cutR c s.data.toList).2.2]) ∧ ∃ m, w' = w.drewN m := by
  cases h : splitC c s.data.toList with
  | none =>
    have h1 := (split_none h).1
    have HR : Hid (cutR c s.data.toList = (s.data.toList, [], false)) := by unfold Hid cutR; rw [h]
    have HI : Hid (Calls Tryd.prog 51 #[.string s, .string ⟨#[c]⟩] w fun e w' => e = .returned (.int .i64 (-1)) ∧ w' = w) := by
      have := Tryd.stringslite_Index_one s c w
      rw [h1] at this
      exact this
    clear h h1
    go_enter Tryd.func55, Tryd.ntmps55
    go_wp2_with (go_at_call 51; with_reducible refine HI.out.mono ?_; rintro e w' ⟨rfl, rfl⟩)
    go_ret3
    exact ⟨by rw [HR.out]; rfl, 0, rfl⟩
  | some x =>
    obtain ⟨p, q⟩ := x
    obtain ⟨h1, h2, h3⟩ := split_some h
    have HR : Hid (cutR c s.data.toList = (p, q, true)) := by unfold Hid cutR; rw [h]
    have HI : Hid (Calls Tryd.prog 51 #[.string s, .string ⟨#[c]⟩] w fun e w' => e = .returned (.int .i64 (p.length : Int)) ∧ w' = w) := by
      have := Tryd.stringslite_Index_one s c w
      rw [h1] at this
      exact this
    have hl : p.length + 1 ≤ s.size := by
      have : s.data.toList.length = s.size := by simp
      rw [h2] at this; simp at this; omega
    have HP : Hid (s.extract 0 p.length = ⟨p.toArray⟩) := ba_of (by rw [ext_head, h2, List.take_left])
    have HQ : Hid (s.extract (p.length + 1) s.size = ⟨q.toArray⟩) := ba_of (by rw [ext_tail, h2, List.drop_append, List.drop_of_length_le (by omega)]; simp)
    clear h h1 h2 h3
    generalize p.length = n at *
    have c1 : (0 : Int) ≤ (n : Int) := by omega
    have c2 : (n : Int) ≤ (s.size : Int) := by omega
    have c4 : (n : Int) + 1 ≤ (s.size : Int) := by omega
    have c5 : (0 : Int) ≤ (n : Int) + 1 := by omega
    go_enter Tryd.func55, Tryd.ntmps55
    go_wp2_with (go_at_call 51; with_reducible refine HI.out.mono ?_; rintro e w' ⟨rfl, rfl⟩)
    go_quiet (fail)
    go_wp2
    go_ret3
    exact ⟨by rw [HR.out, ← HP.out, ← HQ.out]; rfl, nq, rfl⟩
theorem cut_any (s : ByteArray) (c : UInt8) (w : World) (hs : s.size ≤ 9223372036854775807) :
    Calls Tryd.prog 47 #[.string s, .string ⟨#[c]⟩] w fun e w' => e = .returned (.tuple #[.string ⟨(cutR c s.data.toList).1.toArray⟩, .string ⟨(cutR c s.data.toList).2.1.toArray⟩, .bool (cutR c s.data.toList).2.2]) ∧ ∃ m, w' = w.drewN m := by
  have HC := hidM (cut_in s c w hs)
  generalize (cutR c s.data.toList).1.toArray = A at *
  generalize (cutR c s.data.toList).2.1.toArray = B at *
  generalize (cutR c s.data.toList).2.2 = D at *
  go_enter Tryd.func47, Tryd.ntmps47
  go_wp2_with fail
  refine HC.out.mono ?_
  rintro _ w1 ⟨rfl, m, rfl⟩
  go_wp2
  go_ret3
  exact ⟨rfl, m, rfl⟩


/-- what first says: its error, the entry, what stands behind it -/
def firstR (l : List UInt8) : Int × EntB × List UInt8 :=
  match splitC 0 l with
  | none => (6, noE, [])
  | some (h, r) => if r.length < 20 then (6, noE, []) else
    match splitC 32 h with
    | none => (3, noE, [])
    | some (d, nm) => match modeR d with
      | none => (3, noE, [])
      | some m => (0, (m, ⟨nm.toArray⟩, ⟨(hexL (r.take 20)).toArray⟩), r.drop 20)
theorem entry29 : (Tryd.prog.info? 29).map (·.size) = some 3 := by kernel_rfl
theorem ones29 (m : Int) (a c : ByteArray) : (#[.int .i64 m, .string a, .string c] : Array Value).all (·.oneCell') = true := by simp [Value.oneCell']
theorem results_ctt {fn : Func} {p t u : Tmp} {ty : TypeId} {P : Program} (h : fn.results = #[.cell p ty, .tmp t, .tmp u]) (tmps : Array Value) (w : World) (g : Nat) (cs : Array Value)
    (hp : tmps.getD p undef = .pointer (some ⟨g, 0, none⟩)) (hr : (loadVar ty ⟨g, 0, none⟩).run P w = .ok (.agg cs) w) :
    (results fn tmps).run P w = .ok (.tuple #[.agg cs, tmps.getD t undef, tmps.getD u undef]) w := by
  have hp' : tmps[p]?.getD undef = .pointer (some ⟨g, 0, none⟩) := by simpa using hp
  simp only [results, h]
  simp [hp', asAddr, hr, Result.andThen]
theorem box3_set {V : World} {B : Nat} {a b c x y z : Value} (h : V.heap[B]? = some (.cells #[a, b, c] 29 (0, 0))) :
    (((V.setCell ⟨B, 0, none⟩ x).setCell ⟨B, 1, none⟩ y).setCell ⟨B, 2, none⟩ z).heap[B]? = some (.cells #[x, y, z] 29 (0, 0)) := by
  have h1 : (V.setCell ⟨B, 0, none⟩ x).heap[B]? = some (.cells #[x, b, c] 29 (0, 0)) := by
    rw [setCell_eq_setRow V _ 0 #[a, b, c] 29 (0, 0) x h]
    exact setRow_heap V _ _ _ 29 (0, 0) h
  have h2 : ((V.setCell ⟨B, 0, none⟩ x).setCell ⟨B, 1, none⟩ y).heap[B]? = some (.cells #[x, y, c] 29 (0, 0)) := by
    rw [setCell_eq_setRow _ _ 1 #[x, b, c] 29 (0, 0) y h1]
    exact setRow_heap _ _ _ _ 29 (0, 0) h1
  rw [setCell_eq_setRow _ _ 2 #[x, y, c] 29 (0, 0) z h2]
  exact setRow_heap _ _ _ _ 29 (0, 0) h2
theorem box_kept {V w' : World} {B : Nat} {o : Obj} (h : V.heap[B]? = some o) (hb : Below V.heap.size V w') : w'.heap[B]? = some o :=
  (hb.block B (Array.getElem?_eq_some_iff.1 h).1).trans h
theorem below_setRow {B g : Nat} {w wr : World} {c : Array Value} (h : Below B w wr) (hg : B ≤ g) : Below B w (wr.setRow g c) :=
  h.trans ⟨rfl, rfl, rfl, by simp, fun k hk => setRow_other wr g k c (by omega)⟩
/-- what first answers -/
def firstV (x : Int × EntB × List UInt8) : Value := .tuple #[.agg #[.int .i64 x.2.1.1, .string x.2.1.2.1, .string x.2.1.2.2], .string ⟨x.2.2.toArray⟩, .int .i64 x.1]
set_option maxHeartbeats 2000000 in
set_option maxRecDepth 100000 in
theorem first_any (s : ByteArray) (w : World) (hG : GT w) (hs : s.size ≤ 140737488355328) :
    Calls Tryd.prog 34 #[.string s] w fun e w' => e = .returned (firstV (firstR s.data.toList)) ∧ Below w.heap.size w w' := by
  have HX := hidM (heap_alloc_new w (.cells #[.int .i64 0, .string ⟨#[]⟩, .string ⟨#[]⟩] 29))
  have HB0 : Hid (Below w.heap.size w (w.alloc (.cells #[.int .i64 0, .string ⟨#[]⟩, .string ⟨#[]⟩] 29))) := (Below.refl _ w).alloc (Nat.le_refl _) _
  have HG0 := hidM (hG.below HB0.out)
  have HC1 := hidM (fun V => cut_any s 0 V (by omega))
  have hz := zero29
  have hG' : Hid (∀ n, GT ((w.alloc (.cells #[.int .i64 0, .string ⟨#[]⟩, .string ⟨#[]⟩] 29)).drewN n)) := fun n => HG0.out.below (below_drewN (Below.refl _ _) n)
  have HGD : Hid (∀ (V : World) n, GT V → GT (V.drewN n)) := fun V n h => h.below (below_drewN (Below.refl _ _) n)
  clear hG HG0
  cases h1 : splitC 0 s.data.toList with
  | none =>
    have HR : Hid (firstR s.data.toList = (6, noE, [])) := by unfold Hid firstR; rw [h1]
    have HK : Hid (cutR 0 s.data.toList = (s.data.toList, [], false)) := by unfold Hid cutR; rw [h1]
    rw [HK.out] at HC1
    clear h1 HK
    go_enter Tryd.func34, Tryd.ntmps34
    go_wp2_with fail
    refine (HC1.out _).mono ?_
    rintro _ w1 ⟨rfl, m1, rfl⟩
    clear HC1
    have HX1 : Hid (((w.alloc (.cells #[.int .i64 0, .string ⟨#[]⟩, .string ⟨#[]⟩] 29)).drewN m1).heap[w.heap.size]? = some (.cells #[.int .i64 0, .string ⟨#[]⟩, .string ⟨#[]⟩] 29 (0, 0))) := HX.out
    have HB1 := hidM (below_drewN HB0.out m1)
    have HG1 := hidM (hG'.out m1)
    clear HX HB0 hG'
    generalize (w.alloc (.cells #[.int .i64 0, .string ⟨#[]⟩, .string ⟨#[]⟩] 29)).drewN m1 = W1 at *

    go_wp2_with (refine wpList_store_row rfl 29 (.tmp 2) (.tmp 26) rfl w.heap.size #[.int .i64 0, .string ⟨#[]⟩, .string ⟨#[]⟩] rfl rfl 29 #[.int .i64 0, .string ⟨#[]⟩, .string ⟨#[]⟩] HX1.out entry29 rfl (ones29 _ _ _) ?_)
    exact bodyPost_ret (results_ctt rfl _ _ w.heap.size _ rfl (run_loadVar_row _ w.heap.size 29 29 _ (0, 0) _ (setRow_heap _ _ _ _ 29 _ HX1.out) Tryd.underlying29 rfl entry29)) rfl ⟨by rw [HR.out]; rfl, below_setRow HB1.out (Nat.le_refl _)⟩
  | some x =>
    obtain ⟨h, r⟩ := x
    obtain ⟨-, q2, -⟩ := split_some h1
    have HK : Hid (cutR 0 s.data.toList = (h, r, true)) := by unfold Hid cutR; rw [h1]
    have hsz : h.length + r.length + 1 = s.size := by
      rw [← len_size s, q2]; simp; omega
    rw [HK.out] at HC1
    simp only at HC1
    clear HK q2
    obtain ⟨R, hR⟩ : ∃ R : ByteArray, R = ⟨r.toArray⟩ := ⟨_, rfl⟩
    obtain ⟨H, hH⟩ : ∃ H : ByteArray, H = ⟨h.toArray⟩ := ⟨_, rfl⟩
    have hRl : R.data.toList = r := by rw [hR]
    have hHl : H.data.toList = h := by rw [hH]
    have hRz : R.size = r.length := by rw [← hRl]; exact (len_size R).symm
    have hHz : H.size = h.length := by rw [← hHl]; exact (len_size H).symm
    rw [← hR, ← hH] at HC1
    by_cases hr : r.length < 20
    · have HR : Hid (firstR s.data.toList = (6, noE, [])) := by unfold Hid firstR; rw [h1]; exact if_pos hr
      have g1 : (R.size : Int) < 20 := by omega
      clear h1 hsz hRl hHl hRz hHz hr hR hH
      go_enter Tryd.func34, Tryd.ntmps34
      go_wp2_with fail
      refine (HC1.out _).mono ?_
      rintro _ w1 ⟨rfl, m1, rfl⟩
      clear HC1
      have HX1 : Hid (((w.alloc (.cells #[.int .i64 0, .string ⟨#[]⟩, .string ⟨#[]⟩] 29)).drewN m1).heap[w.heap.size]? = some (.cells #[.int .i64 0, .string ⟨#[]⟩, .string ⟨#[]⟩] 29 (0, 0))) := HX.out
      have HB1 := hidM (below_drewN HB0.out m1)
      have HG1 := hidM (hG'.out m1)
      clear HX HB0 hG'
      generalize (w.alloc (.cells #[.int .i64 0, .string ⟨#[]⟩, .string ⟨#[]⟩] 29)).drewN m1 = W1 at *

      go_wp2_with (refine wpList_store_row rfl 29 (.tmp 2) (.tmp 26) rfl w.heap.size #[.int .i64 0, .string ⟨#[]⟩, .string ⟨#[]⟩] rfl rfl 29 #[.int .i64 0, .string ⟨#[]⟩, .string ⟨#[]⟩] HX1.out entry29 rfl (ones29 _ _ _) ?_)
      exact bodyPost_ret (results_ctt rfl _ _ w.heap.size _ rfl (run_loadVar_row _ w.heap.size 29 29 _ (0, 0) _ (setRow_heap _ _ _ _ 29 _ HX1.out) Tryd.underlying29 rfl entry29)) rfl ⟨by rw [HR.out]; rfl, below_setRow HB1.out (Nat.le_refl _)⟩
    · have g1 : ¬ (R.size : Int) < 20 := by omega
      have HC2 := hidM (fun V => cut_any H 32 V (by omega))
      cases h2 : splitC 32 h with
      | none =>
        have HR : Hid (firstR s.data.toList = (3, noE, [])) := by unfold Hid firstR; rw [h1]; simp only [hr, if_false]; rw [h2]
        have HK2 : Hid (cutR 32 H.data.toList = (h, [], false)) := by unfold Hid cutR; rw [hHl, h2]
        rw [HK2.out] at HC2
        simp only at HC2
        rw [← hH] at HC2
        have HMO := hidM (fun V (hV : GT V) => modeOf_any H V hV)
        generalize (modeR H.data.toList).getD 0 = mm at *
        generalize (modeR H.data.toList).isSome = mk at *
        clear h1 h2 hsz hRl hHl hRz hHz hr hR hH HK2
        go_enter Tryd.func34, Tryd.ntmps34
        go_wp2_with fail
        refine (HC1.out _).mono ?_
        rintro _ w1 ⟨rfl, m1, rfl⟩
        clear HC1
        have HX1 : Hid (((w.alloc (.cells #[.int .i64 0, .string ⟨#[]⟩, .string ⟨#[]⟩] 29)).drewN m1).heap[w.heap.size]? = some (.cells #[.int .i64 0, .string ⟨#[]⟩, .string ⟨#[]⟩] 29 (0, 0))) := HX.out
        have HB1 := hidM (below_drewN HB0.out m1)
        have HG1 := hidM (hG'.out m1)
        clear HX HB0 hG'
        generalize (w.alloc (.cells #[.int .i64 0, .string ⟨#[]⟩, .string ⟨#[]⟩] 29)).drewN m1 = W1 at *

        go_wp2_with fail
        refine (HC2.out _).mono ?_
        rintro _ w2 ⟨rfl, m2, rfl⟩
        clear HC2
        have HX2 : Hid ((W1.drewN m2).heap[w.heap.size]? = some (.cells #[.int .i64 0, .string ⟨#[]⟩, .string ⟨#[]⟩] 29 (0, 0))) := HX1.out
        have HB2 := hidM (below_drewN HB1.out m2)
        have HG2 := hidM (HGD.out W1 m2 HG1.out)
        clear HX1 HB1 HG1
        generalize W1.drewN m2 = W2 at *
        go_wp2_with fail
        refine (HMO.out _ HG2.out).mono ?_
        rintro _ w3 ⟨rfl, hb3⟩
        have HX3 := hidM (box_kept HX2.out hb3)
        have HB3 := hidM (HB2.out.trans (hb3.mono HB2.out.size))
        clear hb3 HX2 HB2 HG2 HMO
        go_wp2_with (refine wpList_store_row rfl 29 (.tmp 2) (.tmp 44) rfl w.heap.size #[.int .i64 0, .string ⟨#[]⟩, .string ⟨#[]⟩] rfl rfl 29 #[.int .i64 0, .string ⟨#[]⟩, .string ⟨#[]⟩] HX3.out entry29 rfl (ones29 _ _ _) ?_)
        exact bodyPost_ret (results_ctt rfl _ _ w.heap.size _ rfl (run_loadVar_row _ w.heap.size 29 29 _ (0, 0) _ (setRow_heap _ _ _ _ 29 _ HX3.out) Tryd.underlying29 rfl entry29)) rfl ⟨by rw [HR.out]; rfl, below_setRow HB3.out (Nat.le_refl _)⟩
      | some y =>
        obtain ⟨d, nm⟩ := y
        obtain ⟨D, hD⟩ : ∃ D : ByteArray, D = ⟨d.toArray⟩ := ⟨_, rfl⟩
        obtain ⟨M, hM⟩ : ∃ M : ByteArray, M = ⟨nm.toArray⟩ := ⟨_, rfl⟩
        have hDl : D.data.toList = d := by rw [hD]
        have HK2 : Hid (cutR 32 H.data.toList = (d, nm, true)) := by unfold Hid cutR; rw [hHl, h2]
        rw [HK2.out] at HC2
        simp only at HC2
        rw [← hD, ← hM] at HC2
        have HMO := hidM (fun V (hV : GT V) => modeOf_any D V hV)
        rw [hDl] at HMO
        cases hm : modeR d with
        | none =>
          have HR : Hid (firstR s.data.toList = (3, noE, [])) := by unfold Hid firstR; rw [h1]; simp only [hr, if_false]; rw [h2]; simp only; rw [hm]
          rw [hm] at HMO
          simp only [Option.getD, Option.isSome] at HMO
          clear h1 h2 hsz hRl hHl hRz hHz hr hR hH HK2 hD hM hDl hm
          go_enter Tryd.func34, Tryd.ntmps34
          go_wp2_with fail
          refine (HC1.out _).mono ?_
          rintro _ w1 ⟨rfl, m1, rfl⟩
          clear HC1
          have HX1 : Hid (((w.alloc (.cells #[.int .i64 0, .string ⟨#[]⟩, .string ⟨#[]⟩] 29)).drewN m1).heap[w.heap.size]? = some (.cells #[.int .i64 0, .string ⟨#[]⟩, .string ⟨#[]⟩] 29 (0, 0))) := HX.out
          have HB1 := hidM (below_drewN HB0.out m1)
          have HG1 := hidM (hG'.out m1)
          clear HX HB0 hG'
          generalize (w.alloc (.cells #[.int .i64 0, .string ⟨#[]⟩, .string ⟨#[]⟩] 29)).drewN m1 = W1 at *

          go_wp2_with fail
          refine (HC2.out _).mono ?_
          rintro _ w2 ⟨rfl, m2, rfl⟩
          clear HC2
          have HX2 : Hid ((W1.drewN m2).heap[w.heap.size]? = some (.cells #[.int .i64 0, .string ⟨#[]⟩, .string ⟨#[]⟩] 29 (0, 0))) := HX1.out
          have HB2 := hidM (below_drewN HB1.out m2)
          have HG2 := hidM (HGD.out W1 m2 HG1.out)
          clear HX1 HB1 HG1
          generalize W1.drewN m2 = W2 at *
          go_wp2_with fail
          refine (HMO.out _ HG2.out).mono ?_
          rintro _ w3 ⟨rfl, hb3⟩
          have HX3 := hidM (box_kept HX2.out hb3)
          have HB3 := hidM (HB2.out.trans (hb3.mono HB2.out.size))
          clear hb3 HX2 HB2 HG2 HMO
          go_wp2_with (refine wpList_store_row rfl 29 (.tmp 2) (.tmp 44) rfl w.heap.size #[.int .i64 0, .string ⟨#[]⟩, .string ⟨#[]⟩] rfl rfl 29 #[.int .i64 0, .string ⟨#[]⟩, .string ⟨#[]⟩] HX3.out entry29 rfl (ones29 _ _ _) ?_)
          exact bodyPost_ret (results_ctt rfl _ _ w.heap.size _ rfl (run_loadVar_row _ w.heap.size 29 29 _ (0, 0) _ (setRow_heap _ _ _ _ 29 _ HX3.out) Tryd.underlying29 rfl entry29)) rfl ⟨by rw [HR.out]; rfl, below_setRow HB3.out (Nat.le_refl _)⟩
        | some m =>
          have HR : Hid (firstR s.data.toList = (0, (m, ⟨nm.toArray⟩, ⟨(hexL (r.take 20)).toArray⟩), r.drop 20)) := by unfold Hid firstR; rw [h1]; simp only [hr, if_false]; rw [h2]; simp only; rw [hm]
          rw [hm] at HMO
          simp only [Option.getD, Option.isSome] at HMO
          have g2 : (20 : Int) ≤ (R.size : Int) := by omega
          have HHX := hidM (fun V => hex_any (R.extract 0 20) V (by rw [ByteArray.size_extract]; omega))
          have HE1 : Hid ((R.extract 0 20).data.toList = r.take 20) := by unfold Hid; rw [ext_head, hRl]
          have HE2 : Hid (R.extract 20 R.size = ⟨(r.drop 20).toArray⟩) := ba_of (by rw [ext_tail, hRl])
          rw [HE1.out] at HHX
          rw [← hM] at HR
          generalize (⟨(hexL (r.take 20)).toArray⟩ : ByteArray) = X at *
          clear h1 h2 hsz hRl hHl hRz hHz hr hR hH HK2 hD hM hDl hm HE1
          go_enter Tryd.func34, Tryd.ntmps34
          go_wp2_with fail
          refine (HC1.out _).mono ?_
          rintro _ w1 ⟨rfl, m1, rfl⟩
          clear HC1
          have HX1 : Hid (((w.alloc (.cells #[.int .i64 0, .string ⟨#[]⟩, .string ⟨#[]⟩] 29)).drewN m1).heap[w.heap.size]? = some (.cells #[.int .i64 0, .string ⟨#[]⟩, .string ⟨#[]⟩] 29 (0, 0))) := HX.out
          have HB1 := hidM (below_drewN HB0.out m1)
          have HG1 := hidM (hG'.out m1)
          clear HX HB0 hG'
          generalize (w.alloc (.cells #[.int .i64 0, .string ⟨#[]⟩, .string ⟨#[]⟩] 29)).drewN m1 = W1 at *

          go_wp2_with fail
          refine (HC2.out _).mono ?_
          rintro _ w2 ⟨rfl, m2, rfl⟩
          clear HC2
          have HX2 : Hid ((W1.drewN m2).heap[w.heap.size]? = some (.cells #[.int .i64 0, .string ⟨#[]⟩, .string ⟨#[]⟩] 29 (0, 0))) := HX1.out
          have HB2 := hidM (below_drewN HB1.out m2)
          have HG2 := hidM (HGD.out W1 m2 HG1.out)
          clear HX1 HB1 HG1
          generalize W1.drewN m2 = W2 at *
          go_wp2_with fail
          refine (HMO.out _ HG2.out).mono ?_
          rintro _ w3 ⟨rfl, hb3⟩
          have HX3 := hidM (box_kept HX2.out hb3)
          have HB3 := hidM (HB2.out.trans (hb3.mono HB2.out.size))
          clear hb3 HX2 HB2 HG2 HMO
          go_upto_region 8 with fail
          go_region_with (go_at_call 48; refine (HHX.out _).mono ?_; rintro _ w4 ⟨rfl, hb4⟩; have HX4 := hidM (box_kept (V := w3.drew) HX3.out hb4); have HB4 := hidM (HB3.out.drew.trans (hb4.mono HB3.out.size)); have c0 : w4.cell? ⟨w.heap.size, 0, none⟩ = some (.int .i64 0) := (by rw [cell_of_row _ _ _ _ 29 (0, 0) HX4.out]; rfl); have c1 : w4.cell? ⟨w.heap.size, 1, none⟩ = some (.string ⟨#[]⟩) := (by rw [cell_of_row _ _ _ _ 29 (0, 0) HX4.out]; rfl); have c2 : w4.cell? ⟨w.heap.size, 2, none⟩ = some (.string ⟨#[]⟩) := (by rw [cell_of_row _ _ _ _ 29 (0, 0) HX4.out]; rfl); have f0 : w4.frozen? ⟨w.heap.size, 0, none⟩ = false := (by simp [World.frozen?, HX4.out]); have f1 : w4.frozen? ⟨w.heap.size, 1, none⟩ = false := (by simp [World.frozen?, HX4.out]); have f2 : w4.frozen? ⟨w.heap.size, 2, none⟩ = false := (by simp [World.frozen?, HX4.out]))
          have HX5 := hidM (box3_set (x := .int .i64 m) (y := .string M) (z := .string X) HX4.out)
          have HB5 : Hid (Below w.heap.size w (((w4.setCell ⟨w.heap.size, 0, none⟩ (.int .i64 m)).setCell ⟨w.heap.size, 1, none⟩ (.string M)).setCell ⟨w.heap.size, 2, none⟩ (.string X))) :=
            ((HB4.out.setCell (Nat.le_refl _) _).setCell (Nat.le_refl _) _).setCell (Nat.le_refl _) _
          generalize ((w4.setCell ⟨w.heap.size, 0, none⟩ (.int .i64 m)).setCell ⟨w.heap.size, 1, none⟩ (.string M)).setCell ⟨w.heap.size, 2, none⟩ (.string X) = W5 at *
          go_wp2
          exact bodyPost_ret (results_ctt rfl _ _ w.heap.size _ rfl (run_loadVar_row _ w.heap.size 29 29 _ (0, 0) _ HX5.out Tryd.underlying29 rfl entry29)) rfl ⟨by rw [HR.out]; unfold firstV; simp only; rw [← HE2.out]; rfl, HB5.out⟩
end Go.Proofs.YtccohagdfpcplaaDoor

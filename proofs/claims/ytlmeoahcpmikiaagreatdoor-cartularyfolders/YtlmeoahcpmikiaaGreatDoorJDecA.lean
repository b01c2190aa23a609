/-
  Taken over from another program: CutA.
  Taken over from another program: DecA.
-/
import Derived.Test.YtlmeoahcpmikiaaGreatDoorJObjB
import Derived.Test.YtlmeoahcpmikiaaGreatDoorJNumA
import Derived.Laws.ResultCell
namespace Go.Proofs.YtlmeoahcpmikiaaGreatDoor
open Go.RowKit
def splitC (c : UInt8) : List UInt8 → Option (List UInt8 × List UInt8)
  | [] => none
  | b :: l => if b = c then some ([], l) else (splitC c l).map fun x => (b :: x.1, x.2)
theorem split_none {c : UInt8} {l : List UInt8} (h : splitC c l = none) : Lib.indexByte l c = -1 ∧ c ∉ l := by
  induction l with
  | nil => exact ⟨rfl, by simp⟩
  | cons b l ih =>
    unfold splitC at h
    by_cases hb : b = c
    · rw [if_pos hb] at h; cases h
    · rw [if_neg hb, Option.map_eq_none_iff] at h
      have := ih h
      refine ⟨?_, by simp [this.2, Ne.symm hb]⟩
      unfold Lib.indexByte
      rw [if_neg (by simpa using hb), this.1]
      rfl
theorem split_some {c : UInt8} {l p q : List UInt8} (h : splitC c l = some (p, q)) : Lib.indexByte l c = (p.length : Int) ∧ l = p ++ c :: q ∧ c ∉ p := by
  induction l generalizing p with
  | nil => cases h
  | cons b l ih =>
    unfold splitC at h
    by_cases hb : b = c
    · rw [if_pos hb] at h
      obtain ⟨rfl, rfl⟩ := Prod.mk.inj (Option.some.inj h)
      refine ⟨?_, by rw [hb]; rfl, by simp⟩
      unfold Lib.indexByte
      rw [if_pos (by simpa using hb)]; rfl
    · rw [if_neg hb, Option.map_eq_some_iff] at h
      obtain ⟨⟨p', q'⟩, hx, he⟩ := h
      obtain ⟨rfl, rfl⟩ := Prod.mk.inj he
      obtain ⟨h1, h2, h3⟩ := ih hx
      refine ⟨?_, by rw [h2]; rfl, by simp [h3, Ne.symm hb]⟩
      unfold Lib.indexByte
      rw [if_neg (by simpa using hb), h1, if_neg (by simp)]
      simp
/-- what Cut answers at one byte -/
def cutR (c : UInt8) (l : List UInt8) : List UInt8 × List UInt8 × Bool :=
  match splitC c l with
  | none => (l, [], false)
  | some (p, q) => (p, q, true)
theorem ext_head (s : ByteArray) (k : Nat) : (s.extract 0 k).data.toList = s.data.toList.take k := by simp
theorem ext_tail (s : ByteArray) (k : Nat) : (s.extract k s.size).data.toList = s.data.toList.drop k := by
  rw [ByteArray.data_extract, Array.toList_extract, List.extract_eq_take_drop]
  rw [List.take_of_length_le]
  rw [List.length_drop]; simp
theorem ba_of {s : ByteArray} {l : List UInt8} (h : s.data.toList = l) : s = ⟨l.toArray⟩ := by
  subst h; rfl
set_option maxHeartbeats 1600000 in
theorem cut_in (s : ByteArray) (c : UInt8) (w : World) (hs : s.size ≤ 9223372036854775807) :
    Calls Tryz.prog 152 #[.string s, .string ⟨#[c]⟩] w fun e w' => e = .returned (.tuple #[.string ⟨(cutR c s.data.toList).1.toArray⟩, .string ⟨(cutR c s.data.toList).2.1.toArray⟩, .bool (cutR c s.data.toList).2.2]) ∧ ∃ m, w' = w.drewN m := by
  cases h : splitC c s.data.toList with
  | none =>
    have h1 := (split_none h).1
    have HR : Hid (cutR c s.data.toList = (s.data.toList, [], false)) := by unfold Hid cutR; rw [h]
    have HI : Hid (Calls Tryz.prog 208 #[.string s, .string ⟨#[c]⟩] w fun e w' => e = .returned (.int .i64 (-1)) ∧ w' = w) := by
      have := Tryz.stringslite_Index_one s c w
      rw [h1] at this
      exact this
    clear h h1
    go_enter Tryz.func152, Tryz.ntmps152
    go_wp2_with (go_at_call 208; with_reducible refine HI.out.mono ?_; rintro e w' ⟨rfl, rfl⟩)
    go_ret3
    exact ⟨by rw [HR.out]; rfl, 0, rfl⟩
  | some x =>
    obtain ⟨p, q⟩ := x
    obtain ⟨h1, h2, h3⟩ := split_some h
    have HR : Hid (cutR c s.data.toList = (p, q, true)) := by unfold Hid cutR; rw [h]
    have HI : Hid (Calls Tryz.prog 208 #[.string s, .string ⟨#[c]⟩] w fun e w' => e = .returned (.int .i64 (p.length : Int)) ∧ w' = w) := by
      have := Tryz.stringslite_Index_one s c w
      rw [h1] at this
      exact this
    have hl : p.length + 1 ≤ s.size := by
      have : s.data.toList.length = s.size := by simp
      rw [h2] at this; simp at this; omega
    have HP : Hid (s.extract 0 p.length = ⟨p.toArray⟩) := ba_of (by rw [ext_head, h2, List.take_left])
    have HQ : Hid (s.extract (p.length + 1) s.size = ⟨q.toArray⟩) := ba_of (by rw [ext_tail, h2, List.drop_append, List.drop_of_length_le (by omega)]; simp)
    clear h h1 h2 h3
    generalize p.length = n at *
    have c1 : (0 : Int) ≤ (n : Int) := by omega
    have c2 : (n : Int) ≤ (s.size : Int) := by omega
    have c4 : (n : Int) + 1 ≤ (s.size : Int) := by omega
    have c5 : (0 : Int) ≤ (n : Int) + 1 := by omega
    go_enter Tryz.func152, Tryz.ntmps152
    go_wp2_with (go_at_call 208; with_reducible refine HI.out.mono ?_; rintro e w' ⟨rfl, rfl⟩)
    go_quiet (fail)
    go_wp2
    go_ret3
    exact ⟨by rw [HR.out, ← HP.out, ← HQ.out]; rfl, nq, rfl⟩
theorem cut_any (s : ByteArray) (c : UInt8) (w : World) (hs : s.size ≤ 9223372036854775807) :
    Calls Tryz.prog 99 #[.string s, .string ⟨#[c]⟩] w fun e w' => e = .returned (.tuple #[.string ⟨(cutR c s.data.toList).1.toArray⟩, .string ⟨(cutR c s.data.toList).2.1.toArray⟩, .bool (cutR c s.data.toList).2.2]) ∧ ∃ m, w' = w.drewN m := by
  have HC := hidMO (cut_in s c w hs)
  generalize (cutR c s.data.toList).1.toArray = A at *
  generalize (cutR c s.data.toList).2.1.toArray = B at *
  generalize (cutR c s.data.toList).2.2 = D at *
  go_enter Tryz.func99, Tryz.ntmps99
  go_wp2_with fail
  refine HC.out.mono ?_
  rintro _ w1 ⟨rfl, m, rfl⟩
  go_wp2
  go_ret3
  exact ⟨rfl, m, rfl⟩
def kindL (l : List UInt8) : Nat := if l = nm 1 then 1 else if l = nm 2 then 2 else if l = nm 3 then 3 else if l = nm 4 then 4 else 0
theorem kindL_at (k : Nat) (h : k < 5) (l : List UInt8) (he : nm k = l) : kindL l = k := by
  subst he
  have : ∀ k, k < 5 → kindL (nm k) = k := by decide
  exact this k h
theorem kindL_no (l : List UInt8) (h : ∀ j, j < 5 → nm j ≠ l) : kindL l = 0 := by
  unfold kindL
  rw [if_neg (Ne.symm (h 1 (by decide))), if_neg (Ne.symm (h 2 (by decide))), if_neg (Ne.symm (h 3 (by decide))), if_neg (Ne.symm (h 4 (by decide)))]
set_option maxHeartbeats 1600000 in
theorem kind_any (s : ByteArray) (w : World) (hN : NamesAt w) :
    Calls Tryz.prog 115 #[.string s] w fun e w' => e = .returned (.int .i64 (kindL s.data.toList : Nat)) ∧ w' = w := by
  have HN := hidMO hN
  clear hN
  go_enter Tryz.func115, Tryz.ntmps115
  go_wp2
  go_loopw [3, 4] (fun _ i wr => ∃ (k : Nat), k ≤ 5 ∧ i = .int .i64 k ∧ (∀ j, j < k → nm j ≠ s.data.toList) ∧ wr = w) (fun _ i _ => 5 - (intOf i).toNat)
  case atStart => exact ⟨0, by decide, rfl, fun j hj => by omega, rfl⟩
  case round =>
    obtain ⟨k, hk, rfl, hd, rfl⟩ := hrel
    have HD := hidMO hd
    clear hd
    by_cases hlt : k < 5
    · have kk : (k : Int) < 5 := by omega
      have hc := HN.out.2 k hlt
      have k0 : (0 : Int) ≤ (k : Int) := by omega
      by_cases he : nm k = s.data.toList
      · have HK := hidMO (kindL_at k hlt _ he)
        have e1 : (⟨(nm k).toArray⟩ : ByteArray) = s := by rw [he]
        rw [e1] at hc
        clear e1 he
        go_wp2
        go_ret
        exact ⟨by rw [HK.out]; rfl, rfl⟩
      · have e1 : ((⟨(nm k).toArray⟩ : ByteArray).toList == s.toList) = false := by
          rw [ByteArray.toList_eq, ByteArray.toList_eq]; exact beq_false_of_ne he
        have HX : Hid (∀ j, j < k + 1 → nm j ≠ s.data.toList) := fun j hj => by
          by_cases h : j < k
          · exact HD.out j h
          · have : j = k := by omega
            rw [this]; exact he
        clear he
        generalize (⟨(nm k).toArray⟩ : ByteArray) = X at *
        go_wp2
        go_roundw
        case rel => exact ⟨k + 1, by omega, by go_num, HX.out, trivial⟩
        case measure => (show 5 - ((k : Int) + 1).toNat < 5 - ((k : Int)).toNat); omega
    · obtain rfl : k = 5 := by omega
      have HK := hidMO (kindL_no _ HD.out)
      go_wp2
      go_ret
      exact ⟨by rw [HK.out]; rfl, rfl⟩
end Go.Proofs.YtlmeoahcpmikiaaGreatDoor
namespace Go.Proofs.YtlmeoahcpmikiaaGreatDoor
open Go.RowKit
theorem box2 (w : World) (m : Nat) (x0 x1 v0 v1 : Value) : ((((w.alloc (.cells #[x0, x1] 29)).drewN m).setCell ⟨w.heap.size, 0, none⟩ v0).setCell ⟨w.heap.size, 1, none⟩ v1).heap[w.heap.size]? = some (.cells #[v0, v1] 29 (0, 0)) := by
  have h1 : ((w.alloc (.cells #[x0, x1] 29)).drewN m).heap[w.heap.size]? = some (.cells #[x0, x1] 29 (0, 0)) := heap_alloc_new w _
  simp only [World.setCell, Array.getElem?_modify, if_pos, h1]
  rfl
theorem below2 (w : World) (m : Nat) (x0 x1 v0 v1 : Value) : Below w.heap.size w ((((w.alloc (.cells #[x0, x1] 29)).drewN m).setCell ⟨w.heap.size, 0, none⟩ v0).setCell ⟨w.heap.size, 1, none⟩ v1) :=
  ((below_drewN ((Below.refl _ _).alloc (Nat.le_refl _) _) m).setCell (p := ⟨w.heap.size, 0, none⟩) (Nat.le_refl _) _).setCell (p := ⟨w.heap.size, 1, none⟩) (Nat.le_refl _) _
theorem results_box {fn : Func} {p u : Tmp} {ty : TypeId} {P : Program} (h : fn.results = #[.cell p ty, .tmp u]) (tmps : Array Value) (w : World) (g : Nat) (cs : Array Value)
    (hp : tmps.getD p undef = .pointer (some ⟨g, 0, none⟩)) (hr : (loadVar ty ⟨g, 0, none⟩).run P w = .ok (.agg cs) w) :
    (results fn tmps).run P w = .ok (.tuple #[.agg cs, tmps.getD u undef]) w := by
  rw [results_cell_tmp h, hp]
  simp [asAddr, hr, Result.andThen]
theorem size52 : (Tryz.prog.info? 29).map (·.size) = some 2 := by kernel_rfl
noncomputable def decQ (E F T : Bool) (k n : Nat) (D : List UInt8) : Nat × List UInt8 × Nat :=
  if (E && F && T) = false then (0, [], 3) else if k = 0 then (0, [], 10) else if 65000 < n then (0, [], 2)
  else if D.length < n then (0, [], 6) else if n < D.length then (0, [], 3) else (k, D, 0)
noncomputable def decR (l : List UInt8) : Nat × List UInt8 × Nat :=
  decQ (cutR 0 l).2.2 (cutR 32 (cutR 0 l).1).2.2 (numT (cutR 32 (cutR 0 l).1).2.1) (kindL (cutR 32 (cutR 0 l).1).1) (numV (cutR 32 (cutR 0 l).1).2.1) (cutR 0 l).2.1
theorem cutR_len (c : UInt8) (l : List UInt8) : (cutR c l).1.length ≤ l.length ∧ (cutR c l).2.1.length ≤ l.length := by
  unfold cutR
  split
  · simp
  · rename_i p q h
    have := (split_some h).2.1
    rw [this]; simp; omega
set_option maxHeartbeats 3200000 in
theorem decode_any (s : ByteArray) (w : World) (hs : s.size ≤ 9223372036854775807) (hN : NamesAt w) :
    Calls Tryz.prog 197 #[.string s] w fun e w' => e = .returned (.tuple #[.agg #[.int .i64 ((decR s.data.toList).1 : Nat), .string ⟨(decR s.data.toList).2.1.toArray⟩], .int .i64 ((decR s.data.toList).2.2 : Nat)]) ∧ Below w.heap.size w w' := by
  have HB : Hid (Below w.heap.size w (w.alloc (.cells #[.int .i64 0, .string ⟨#[]⟩] 29))) := (Below.refl _ _).alloc (Nat.le_refl _) _
  have HN := hidMO (hN.below HB.out)
  have HG : Hid ((w.alloc (.cells #[.int .i64 0, .string ⟨#[]⟩] 29)).heap[w.heap.size]? = some (.cells #[.int .i64 0, .string ⟨#[]⟩] 29 (0, 0))) := heap_alloc_new w _
  have HR : Hid (decR s.data.toList = decQ (cutR 0 s.data.toList).2.2 (cutR 32 (cutR 0 s.data.toList).1).2.2 (numT (cutR 32 (cutR 0 s.data.toList).1).2.1) (kindL (cutR 32 (cutR 0 s.data.toList).1).1) (numV (cutR 32 (cutR 0 s.data.toList).1).2.1) (cutR 0 s.data.toList).2.1) := rfl
  have hl : s.data.toList.length = s.size := by simp
  have hl1 := (cutR_len 0 s.data.toList).1
  have hl2 := (cutR_len 0 s.data.toList).2
  have H1 : Hid (∀ W, Calls Tryz.prog 99 #[.string s, .string ⟨#[0]⟩] W fun e w' => e = .returned (.tuple #[.string ⟨(cutR 0 s.data.toList).1.toArray⟩, .string ⟨(cutR 0 s.data.toList).2.1.toArray⟩, .bool (cutR 0 s.data.toList).2.2]) ∧ ∃ m, w' = W.drewN m) := fun W => cut_any s 0 W hs
  generalize hA : cutR 0 s.data.toList = A at *
  obtain ⟨a1, a2, E⟩ := A
  simp only at HR H1 hl1 hl2
  have H2 : Hid (∀ W, Calls Tryz.prog 99 #[.string ⟨a1.toArray⟩, .string ⟨#[32]⟩] W fun e w' => e = .returned (.tuple #[.string ⟨(cutR 32 a1).1.toArray⟩, .string ⟨(cutR 32 a1).2.1.toArray⟩, .bool (cutR 32 a1).2.2]) ∧ ∃ m, w' = W.drewN m) := fun W => cut_any ⟨a1.toArray⟩ 32 W (by show a1.toArray.size ≤ _; rw [List.size_toArray]; omega)
  generalize cutR 32 a1 = B at *
  obtain ⟨b1, b2, F⟩ := B
  simp only at HR H2
  have H3 : Hid (∀ W, Calls Tryz.prog 236 #[.string ⟨b2.toArray⟩] W fun e w' => e = .returned (.tuple #[.int .i64 (numV b2 : Nat), .bool (numT b2)]) ∧ w' = W) := fun W => number_any ⟨b2.toArray⟩ W
  have H4 : Hid (∀ W, NamesAt W → Calls Tryz.prog 115 #[.string ⟨b1.toArray⟩] W fun e w' => e = .returned (.int .i64 (kindL b1 : Nat)) ∧ w' = W) := fun W h => kind_any ⟨b1.toArray⟩ W h
  have hDL : Hid ((⟨a2.toArray⟩ : ByteArray).size = a2.length) := by unfold Hid; show a2.toArray.size = _; simp
  have hDD : Hid (a2 = (⟨a2.toArray⟩ : ByteArray).data.toList) := rfl
  have hn9 : numV b2 ≤ 999999999 := by unfold numV; split; exact num_le _ (by assumption); omega
  generalize numV b2 = n at *
  generalize numT b2 = T at *
  generalize kindL b1 = k at *
  generalize (⟨a1.toArray⟩ : ByteArray) = X1 at *
  generalize (⟨b1.toArray⟩ : ByteArray) = Y1 at *
  generalize (⟨b2.toArray⟩ : ByteArray) = Y2 at *
  have hd1 : a2.length ≤ 9223372036854775807 := by omega
  clear hN hA hl hl1 hl2
  go_enter Tryz.func197, Tryz.ntmps197
  go_wp2_with fail
  refine (H1.out _).mono ?_
  rintro _ w1 ⟨rfl, m1, rfl⟩
  go_wp2_with fail
  refine (H2.out _).mono ?_
  rintro _ w1 ⟨rfl, m2, rfl⟩
  go_wp2_with fail
  refine (H3.out _).mono ?_
  rintro _ w1 ⟨rfl, rfl⟩
  have HLD : Hid (∀ m v0 v1, (loadVar 29 ⟨w.heap.size, 0, none⟩).run Tryz.prog ((((w.alloc (.cells #[.int .i64 0, .string ⟨#[]⟩] 29)).drewN m).setCell ⟨w.heap.size, 0, none⟩ v0).setCell ⟨w.heap.size, 1, none⟩ v1) = .ok (.agg #[v0, v1]) _) :=
    fun m v0 v1 => run_loadVar_row _ w.heap.size 29 29 #[v0, v1] (0, 0) _ (box2 w m _ _ v0 v1) Tryz.underlying29 rfl size52
  by_cases hx : (E && F && T) = false
  · have HQ : Hid (decR s.data.toList = (0, [], 3)) := by unfold Hid; rw [HR.out]; unfold decQ; rw [if_pos hx]
    clear HR H1 H2 H3 H4
    cases E <;> cases F <;> cases T
    case true.true.true => cases hx
    all_goals (
      go_wp2_with fail
      refine bodyPost_ret (results_box rfl _ _ w.heap.size _ rfl (HLD.out _ _ _)) rfl ?_
      exact ⟨by rw [HQ.out]; rfl, below2 w _ _ _ _ _⟩)
  · obtain ⟨rfl, rfl, rfl⟩ : E = true ∧ F = true ∧ T = true := by simpa using hx
    have HND := hidMO (HN.out.below (below_drewN (Below.refl _ _) (m1 + m2)))
    go_wp2_with fail
    refine (H4.out _ HND.out).mono ?_
    rintro _ w1 ⟨rfl, rfl⟩
    have HQ : Hid (decR s.data.toList = if k = 0 then (0, [], 10) else if 65000 < n then (0, [], 2)
       else if a2.length < n then (0, [], 6) else if n < a2.length then (0, [], 3) else (k, a2, 0)) := by unfold Hid; rw [HR.out]; unfold decQ; rw [if_neg hx]
    clear HR H1 H2 H3 H4 hx HND
    have dsz : (⟨a2.toArray⟩ : ByteArray).size = a2.length := by show a2.toArray.size = _; simp
    by_cases h1 : k = 0
    · rw [if_pos h1] at HQ
      subst h1
      go_wp2_with fail
      refine bodyPost_ret (results_box rfl _ _ w.heap.size _ rfl (HLD.out _ _ _)) rfl ?_
      exact ⟨by rw [HQ.out]; rfl, below2 w _ _ _ _ _⟩
    rw [if_neg h1] at HQ
    have g1 : ((k : Int) == 0) = false := beq_false_of_ne (by omega)
    by_cases h2 : 65000 < n
    · rw [if_pos h2] at HQ
      have g2 : decide ((65000 : Int) < (n : Int)) = true := by simp; omega
      go_wp2_with fail
      refine bodyPost_ret (results_box rfl _ _ w.heap.size _ rfl (HLD.out _ _ _)) rfl ?_
      exact ⟨by rw [HQ.out]; rfl, below2 w _ _ _ _ _⟩
    rw [if_neg h2] at HQ
    have g2 : decide ((65000 : Int) < (n : Int)) = false := by simp; omega
    generalize hZ : (⟨a2.toArray⟩ : ByteArray) = Z at *
    by_cases h3 : a2.length < n
    · rw [if_pos h3] at HQ
      have g3 : decide ((Z.size : Int) < (n : Int)) = true := by simp; omega
      go_wp2_with fail
      refine bodyPost_ret (results_box rfl _ _ w.heap.size _ rfl (HLD.out _ _ _)) rfl ?_
      exact ⟨by rw [HQ.out]; rfl, below2 w _ _ _ _ _⟩
    rw [if_neg h3] at HQ
    have g3 : decide ((Z.size : Int) < (n : Int)) = false := by simp; omega
    by_cases h4 : n < a2.length
    · rw [if_pos h4] at HQ
      have g4 : decide ((n : Int) < (Z.size : Int)) = true := by simp; omega
      go_wp2_with fail
      refine bodyPost_ret (results_box rfl _ _ w.heap.size _ rfl (HLD.out _ _ _)) rfl ?_
      exact ⟨by rw [HQ.out]; rfl, below2 w _ _ _ _ _⟩
    rw [if_neg h4] at HQ
    have g4 : decide ((n : Int) < (Z.size : Int)) = false := by simp; omega
    go_wp2_with fail
    refine bodyPost_ret (results_box rfl _ _ w.heap.size _ rfl (HLD.out _ _ _)) rfl ?_
    exact ⟨by rw [HQ.out, ← hZ]; rfl, below2 w _ _ _ _ _⟩
end Go.Proofs.YtlmeoahcpmikiaaGreatDoor

/-
  Taken over from another program: LoA.
-/
import Derived.Test.YtlmeoahcpmikiaaGreatDoorLoH
import Derived.Test.YtlmeoahcpmikiaaGreatDoorJDecA
import Derived.Test.YtlmeoahcpmikiaaGreatDoorJObjB
namespace Go.Proofs.YtlmeoahcpmikiaaGreatDoor
open Go.RowKit
def pathB (id : ByteArray) : ByteArray := ⟨#[111, 98, 106, 101, 99, 116, 115, 47]⟩ ++ id.extract 0 2 ++ ⟨#[47]⟩ ++ id.extract 2 id.size
theorem idB_size {s : ByteArray} (h : idB s.data.toList = true) : s.size = 40 := by
  unfold idB at h
  simp only [Bool.and_eq_true, decide_eq_true_eq] at h
  rw [← len_size s]; exact h.2
/-- what Path answers -/
def pathR (id : ByteArray) : ByteArray × Int := if idB id.data.toList = true then (pathB id, 0) else (⟨#[]⟩, 4)
set_option maxHeartbeats 1000000 in
set_option maxRecDepth 100000 in
theorem lpath_any (id : ByteArray) (w : World) (hs : id.size ≤ maxLen) :
    Calls Tryz.prog 35 #[.string id] w fun e w' => e = .returned (.tuple #[.string (pathR id).1, .int .i64 (pathR id).2]) ∧ Below w.heap.size w w' := by
  have HI := hidM (id_anyT id w hs)
  cases h : idB id.data.toList with
  | false =>
    have HR : Hid (pathR id = (⟨#[]⟩, 4)) := by unfold Hid pathR; rw [h]; rfl
    rw [h] at HI
    clear h
    go_enter Tryz.func35, Tryz.ntmps35
    go_wp2_with fail
    refine HI.out.mono ?_
    rintro _ w1 ⟨rfl, hw1⟩
    rw [hw1]
    clear hw1
    go_wp2
    go_ret2
    exact ⟨by rw [HR.out]; rfl, Below.refl _ _⟩
  | true =>
    have HR : Hid (pathR id = (pathB id, 0)) := by unfold Hid pathR; rw [h]; rfl
    have h40 := idB_size h
    rw [h] at HI
    unfold pathB at HR
    have c1 : (2 : Int) ≤ (id.size : Int) := by omega
    have z1 : (id.extract 0 2).size = 2 := by rw [ByteArray.size_extract]; omega
    have z2 : (id.extract 2 id.size).size = 38 := by rw [ByteArray.size_extract]; omega
    clear h h40
    generalize hA : id.extract 0 2 = A at *
    generalize hB : id.extract 2 id.size = B at *
    have n1 : ¬ 9223372036854775807 < 8 + A.size := by omega
    have n2 : ¬ 9223372036854775807 < 8 + A.size + 1 := by omega
    have n3 : ¬ 9223372036854775807 < 8 + A.size + 1 + B.size := by omega
    go_enter Tryz.func35, Tryz.ntmps35
    go_wp2_with fail
    refine HI.out.mono ?_
    rintro _ w1 ⟨rfl, hw1⟩
    rw [hw1]
    clear hw1
    go_upto_region 3 with fail
    rw [← hA, ← hB] at *
    go_quiet (fail)
    go_wp2
    go_ret2
    exact ⟨by rw [HR.out]; rfl, below_drewN (Below.refl _ _) _⟩
/-- the tables that a road of loose reads -/
def LG (w : World) : Prop := GOk w ∧ LaidAt w
theorem LG.below {w w' : World} (h : LG w) (hb : Below w.heap.size w w') : LG w' := ⟨h.1.below hb, h.2.below hb⟩
theorem below_setRowL {B g : Nat} {w wr : World} {c : Array Value} (h : Below B w wr) (hg : B ≤ g) : Below B w (wr.setRow g c) :=
  h.trans ⟨rfl, rfl, rfl, by simp, fun k hk => setRow_other wr g k c (by omega)⟩
theorem onesOb (m : Int) (a : ByteArray) : (#[.int .i64 m, .string a] : Array Value).all (·.oneCell') = true := by simp [Value.oneCell']
theorem zero32 (w : World) : (zeroValue 29).run Tryz.prog w = .ok (.agg #[.int .i64 0, .string ⟨#[]⟩]) w := by kernel_rfl
theorem box_keptL {V w' : World} {B : Nat} {o : Obj} (h : V.heap[B]? = some o) (hb : Below V.heap.size V w') : w'.heap[B]? = some o :=
  (hb.block B (Array.getElem?_eq_some_iff.1 h).1).trans h
/-- what Unpack says of a text -/
def UnpQ (l : List UInt8) (x : Nat × List UInt8 × Nat) : Prop := ∃ o n e, ZQ l 0 65536 (o, n, e) ∧ ((e ≠ 0 ∧ x = (0, [], e)) ∨ (e = 0 ∧ n < l.length ∧ x = (0, [], 3)) ∨ (e = 0 ∧ ¬ n < l.length ∧ x = decR o))
def objV (x : Nat × List UInt8 × Nat) : Value := .tuple #[.agg #[.int .i64 (x.1 : Nat), .string ⟨x.2.1.toArray⟩], .int .i64 (x.2.2 : Nat)]
def UnpP (l : List UInt8) (e : Ending) : Prop := ∃ x, UnpQ l x ∧ e = .returned (objV x)
theorem ZQ.small {l : List UInt8} {o : List UInt8} {n e : Nat} (h : ZQ l 0 65536 (o, n, e)) : o.length ≤ 65536 := by
  rcases h with ⟨_, h⟩ | ⟨A, M, _,_,_,_, ⟨_, h⟩ | ⟨_,_, h⟩ | ⟨_,_, o', n', e', hq, ⟨_, h⟩ | ⟨_,_, h⟩ | ⟨_,_,_, h⟩ | ⟨he, _,_, h⟩⟩⟩
  all_goals
    simp only [Prod.mk.injEq] at h
  all_goals first | (rw [h.1]; decide) | skip
  subst he
  rw [h.1]
  exact hq.used.2
set_option maxHeartbeats 2000000 in
set_option maxRecDepth 100000 in
theorem unpack_any (s : ByteArray) (w : World) (hs : s.size ≤ 1000000) (hG : LG w) :
    Calls Tryz.prog 147 #[.string s] w fun e w' => UnpP s.data.toList e ∧ Below w.heap.size w w' := by
  have HX := hidM (heap_alloc_new w (.cells #[.int .i64 0, .string ⟨#[]⟩] 29))
  have HB0 : Hid (Below w.heap.size w (w.alloc (.cells #[.int .i64 0, .string ⟨#[]⟩] 29))) := (Below.refl _ w).alloc (Nat.le_refl _) _
  have HG0 := hidM (hG.below HB0.out)
  have HZ := hidM (zread_any s 0 65536 _ hs HG0.out.1)
  have hz := zero32
  have HLn := hidM (len_size s)
  have HFIN : Hid (∀ x e, UnpQ s.data.toList x → e = .returned (objV x) → UnpP s.data.toList e) := fun x e h1 h2 => ⟨x, h1, h2⟩
  clear hG
  go_enter Tryz.func147, Tryz.ntmps147
  go_wp2_with fail
  refine HZ.out.mono ?_
  rintro _ w1 ⟨⟨⟨o, n, er⟩, hzq, rfl⟩, hb1⟩
  have HX1 := hidM (box_keptL HX.out hb1)
  have HB1 := hidM (HB0.out.trans (hb1.mono HB0.out.size))
  have HG1 := hidM (HG0.out.below hb1)
  have HQ := hidM hzq
  have ho := hzq.small
  clear hb1 HX HB0 HG0 HZ hzq
  simp only
  by_cases he : er = 0
  · subst he
    by_cases hn : n < s.size
    · have HU : Hid (UnpQ s.data.toList (0, [], 3)) := ⟨o, n, 0, HQ.out, Or.inr (Or.inl ⟨rfl, by rw [HLn.out]; exact hn, rfl⟩)⟩
      have g1 : (n : Int) < (s.size : Int) := by omega
      go_wp2_with (refine wpList_store_row rfl 29 (.tmp 2) (.tmp 21) rfl w.heap.size #[.int .i64 0, .string ⟨#[]⟩] rfl rfl 29 #[.int .i64 0, .string ⟨#[]⟩] HX1.out size52 rfl (onesOb _ _) ?_)
      exact bodyPost_ret (results_box rfl _ _ w.heap.size _ rfl (run_loadVar_row _ w.heap.size 29 29 _ (0, 0) _ (setRow_heap _ _ _ _ 29 _ HX1.out) Tryz.underlying29 rfl size52)) rfl ⟨HFIN.out _ _ HU.out rfl, below_setRowL HB1.out (Nat.le_refl _)⟩
    · have HU : Hid (UnpQ s.data.toList (decR o)) := ⟨o, n, 0, HQ.out, Or.inr (Or.inr ⟨rfl, by rw [HLn.out]; exact hn, rfl⟩)⟩
      have g1 : ¬ (n : Int) < (s.size : Int) := by omega
      have HD := hidM (fun V (hV : NamesAt V) => decode_any ⟨o.toArray⟩ V (by show o.toArray.size ≤ _; rw [List.size_toArray]; omega) hV)
      rw [show (⟨o.toArray⟩ : ByteArray).data.toList = o from rfl] at HD
      generalize decR o = x at *
      obtain ⟨k, d, e2⟩ := x
      simp only at HD
      go_wp2_with fail
      refine (HD.out _ HG1.out.2.names).mono ?_
      rintro _ w2 ⟨rfl, hb2⟩
      have HX2 := hidM (box_keptL HX1.out hb2)
      have HB2 := hidM (HB1.out.trans (hb2.mono HB1.out.size))
      clear hb2 HD HX1 HB1 HG1
      go_wp2_with (refine wpList_store_row rfl 29 (.tmp 2) (.tmp 24) rfl w.heap.size #[.int .i64 (k : Nat), .string ⟨d.toArray⟩] rfl rfl 29 #[.int .i64 0, .string ⟨#[]⟩] HX2.out size52 rfl (onesOb _ _) ?_)
      exact bodyPost_ret (results_box rfl _ _ w.heap.size _ rfl (run_loadVar_row _ w.heap.size 29 29 _ (0, 0) _ (setRow_heap _ _ _ _ 29 _ HX2.out) Tryz.underlying29 rfl size52)) rfl ⟨HFIN.out _ _ HU.out rfl, below_setRowL HB2.out (Nat.le_refl _)⟩
  · have HU : Hid (UnpQ s.data.toList (0, [], er)) := ⟨o, n, er, HQ.out, Or.inl ⟨he, rfl⟩⟩
    have b1 : ((er : Int) == 0) = false := by simp only [beq_eq_false_iff_ne, ne_eq]; omega
    clear he
    go_wp2_with (refine wpList_store_row rfl 29 (.tmp 2) (.tmp 15) rfl w.heap.size #[.int .i64 0, .string ⟨#[]⟩] rfl rfl 29 #[.int .i64 0, .string ⟨#[]⟩] HX1.out size52 rfl (onesOb _ _) ?_)
    exact bodyPost_ret (results_box rfl _ _ w.heap.size _ rfl (run_loadVar_row _ w.heap.size 29 29 _ (0, 0) _ (setRow_heap _ _ _ _ 29 _ HX1.out) Tryz.underlying29 rfl size52)) rfl ⟨HFIN.out _ _ HU.out rfl, below_setRowL HB1.out (Nat.le_refl _)⟩
end Go.Proofs.YtlmeoahcpmikiaaGreatDoor

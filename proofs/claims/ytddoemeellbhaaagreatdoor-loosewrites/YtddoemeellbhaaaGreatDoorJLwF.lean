/-
  Rows of files of the law's own; two objects held against each other.
  At most so many files, copied and cut, in a row to which one may append.
-/
import Derived.Test.YtddoemeellbhaaaGreatDoorJLoC
import Derived.Test.YtddoemeellbhaaaGreatDoorJTxtB
import Derived.Laws.StructEq
namespace Go.Proofs.YtddoemeellbhaaaGreatDoor
open Go.RowKit

def flatF : List FileB → List Value
  | [] => []
  | f :: fs => .string f.1 :: .string f.2 :: flatF fs
theorem flatF_len (fs : List FileB) : (flatF fs).length = fs.length * 2 := by
  induction fs with
  | nil => rfl
  | cons f fs ih => simp only [flatF, List.length_cons, ih]; omega
theorem flatF_app (a b : List FileB) : flatF (a ++ b) = flatF a ++ flatF b := by
  induction a with
  | nil => rfl
  | cons f a ih => simp [flatF, ih]
theorem flatF_at (fs : List FileB) : ∀ i (h : i < fs.length), (flatF fs)[i * 2]? = some (.string fs[i].1) ∧ (flatF fs)[i * 2 + 1]? = some (.string fs[i].2) := by
  induction fs with
  | nil => intro i hi; cases hi
  | cons f fs ih =>
    intro i hi
    cases i with
    | zero => exact ⟨rfl, rfl⟩
    | succ i =>
      have h := ih i (by simpa using hi)
      rw [show (i + 1) * 2 = i * 2 + 1 + 1 by omega]
      simp only [flatF, List.getElem?_cons_succ, List.getElem_cons_succ]
      exact h
/-- files in a row that the call has made -/
def OwnR (V : World) (B : Nat) (v : Value) (fs : List FileB) : Prop := V.ownsRow B 48 2 v fs.length (flatF fs) ∧ v ≠ .slice none 0 0
theorem OwnR.shape {V : World} {B : Nat} {v : Value} {fs : List FileB} (h : OwnR V B v fs) : ∃ g cap, v = .slice (some ⟨g, 0, none⟩) fs.length cap ∧ fs.length ≤ cap ∧ B ≤ g ∧ g < V.heap.size ∧ FilesAt V g 0 fs := by
  rcases h.1.2 with ⟨hn, _⟩ | ⟨g, cap, cur, rfl, hbase, hbk, h1, h2, h3, h4⟩
  · exact absurd hn h.2
  · refine ⟨g, cap, rfl, h1, hbase, (Array.getElem?_eq_some_iff.1 hbk).1, fun i hi => ?_⟩
    obtain ⟨f0, f1⟩ := flatF_at fs i hi
    have hc : ∀ j u, (flatF fs)[j]? = some u → V.cell? ⟨g, 0 + j, none⟩ = some u := fun j u hj => by
      have := World.ownsRow.cells h.1 (g := g) rfl j u hj
      rw [Addr.add_lit] at this
      exact this
    exact ⟨hc _ _ f0, by rw [Nat.add_assoc]; exact hc _ _ f1⟩
theorem OwnR.more {V : World} {B : Nat} {v : Value} {fs : List FileB} {f : FileB} (h : V.ownsRow B 48 2 v (fs.length + 1) (flatF fs ++ [.string f.1, .string f.2])) (hn : v ≠ .slice none 0 0) : OwnR V B v (fs ++ [f]) := by
  refine ⟨?_, hn⟩
  rw [flatF_app, List.length_append]
  exact h
theorem OwnR.below {V W : World} {B : Nat} {v : Value} {fs : List FileB} (h : OwnR V B v fs) (hb : Below V.heap.size V W) : OwnR W B v fs :=
  ⟨h.1.kept (row := none) ⟨hb.os, hb.tape, hb.output, hb.size, fun k hk _ => hb.block k hk⟩ (by
    cases v.ownBlock with
    | none => exact .inl rfl
    | some k => exact .inr (by simp)), h.2⟩
theorem cell_new2L {W : World} {B : Nat} (hB : W.heap.size = B) (u v : Value) : ∀ j y, [u, v][j]? = some y → (W.alloc (.cells #[u, v] 48)).cell? ((⟨B, 0, none⟩ : Addr).add j) = some y := by
  subst hB
  intro j y hj
  rcases j with _ | _ | j
  · simp at hj; subst hj; rw [Addr.add_lit]; simp
  · simp at hj; subst hj; rw [Addr.add_lit]; simp
  · simp at hj
theorem held32 : Tryz.prog.stoodInHeld 32 = false := by kernel_rfl
theorem guard32 : Tryz.prog.eqGuardType Tryz.prog.depth 32 = false := by kernel_rfl
theorem struct32 : Tryz.prog.underlying 32 = some (.struct (Tryz.prog.fieldsOf 32)) := by kernel_rfl
theorem fields32 : (Tryz.prog.fieldsOf 32).toList.map (fun f => (f.name, f.type, f.offset)) = [("Kind", 3, 0), ("Data", 9, 1)] := by kernel_rfl
theorem equal32 (m1 : Int) (n1 : ByteArray) (w : World) :
    (Op.equalIn 10000 32 (.agg #[.int .i64 m1, .string n1]) (.agg #[.int .i64 m1, .string n1])).run Tryz.prog w = .ok true w := by
  rw [run_equalIn_struct w 9999 32 _ _ struct32 held32]
  have hf := fields32
  obtain ⟨f1, f2, he⟩ : ∃ f1 f2, (Tryz.prog.fieldsOf 32).toList = [f1, f2] := by
    generalize (Tryz.prog.fieldsOf 32).toList = fl at hf
    rcases fl with _ | ⟨f1, _ | ⟨f2, _ | ⟨f3, fl⟩⟩⟩
    · simp at hf
    · simp at hf
    · exact ⟨f1, f2, rfl⟩
    · simp at hf
  rw [he] at hf ⊢
  simp only [List.map_cons, List.map_nil, List.cons.injEq, Prod.mk.injEq, and_true] at hf
  obtain ⟨⟨a1, a2, a3⟩, ⟨b1, b2, b3⟩⟩ := hf
  have p1 : ∀ (m : Int) (n : ByteArray) (w : World), (part 3 #[.int .i64 m, .string n] 0).run Tryz.prog w = .ok (.int .i64 m) w := by intro m n w; kernel_rfl
  have p2 : ∀ (m : Int) (n : ByteArray) (w : World), (part 9 #[.int .i64 m, .string n] 1).run Tryz.prog w = .ok (.string n) w := by intro m n w; kernel_rfl
  simp only [Op.eqFields, a1, a2, a3, b1, b2, b3, Sem.run_ite, Sem.run_bind, p1, p2, Result.andThen_ok, ne_eq, String.reduceEq, not_false_eq_true, if_true]
  rw [run_equalIn_int w 9998 3 .i64 .i64 m1 m1 Tryz.underlying3]
  simp only [Result.andThen_ok, beq_self_eq_true, Bool.not_true, Bool.false_eq_true, if_false]
  rw [run_equalIn_string w 9998 9 n1 n1 Tryz.underlying9]
  simp
theorem sizeF_le400 {us : List FileB} (h : ∀ f ∈ us, f.2.size ≤ 400) : sizeF us ≤ 400 * us.length := by
  induction us with
  | nil => simp [sizeF]
  | cons f us ih =>
    have h1 := h f (by simp)
    have h2 := ih (fun g hg => h g (by simp [hg]))
    unfold sizeF at h2 ⊢
    simp only [List.map_cons, List.sum_cons, List.length_cons]
    omega
theorem apart_eq {us : List FileB} (h : Apart us) {f g : FileB} (hf : f ∈ us) (hg : g ∈ us) (e : f.1 = g.1) : f = g := by
  induction us with
  | nil => cases hf
  | cons x us ih =>
    unfold Apart at h
    rw [List.pairwise_cons] at h
    rcases List.mem_cons.1 hf with hf1 | hf1 <;> rcases List.mem_cons.1 hg with hg1 | hg1
    · rw [hf1, hg1]
    · exact absurd (hf1 ▸ e) (h.1 g hg1)
    · exact absurd (hg1 ▸ e).symm (h.1 f hf1)
    · exact ih h.2 hf1 hg1
end Go.Proofs.YtddoemeellbhaaaGreatDoor
namespace Go.Proofs.YtddoemeellbhaaaGreatDoor
open Go.RowKit Go.Sort
/-- a row of files with so much room -/
def Room (V : World) (g cap : Nat) : Prop := ∃ cur, V.heap[g]? = some (.cells cur 48 (0, 0)) ∧ cur.size = cap * 2 ∧ cap ≤ maxLen
theorem Room.set {V : World} {g cap : Nat} (h : Room V g cap) (i : Nat) (v : Value) : Room (V.setCell ⟨g, i, none⟩ v) g cap := by
  obtain ⟨cur, h1, h2, h3⟩ := h
  exact ⟨_, heap_setCell_same V g i cur 48 v h1, by simpa using h2, h3⟩
theorem own_of {V : World} {g cap B : Nat} {fs : List FileB} (h : FilesAt V g 0 fs) (hr : Room V g cap) (hl : fs.length ≤ cap) (hB : B ≤ g) : OwnR V B (.slice (some ⟨g, 0, none⟩) fs.length cap) fs := by
  obtain ⟨cur, h1, h2, h3⟩ := hr
  refine ⟨⟨flatF_len fs, .inr ⟨g, cap, cur, rfl, hB, h1, hl, h3, h2, ?_⟩⟩, by intro e; cases e⟩
  refine List.ext_getElem? fun j => ?_
  rw [List.getElem?_take]
  by_cases hj : j < fs.length * 2
  · rw [if_pos hj]
    have hi : j / 2 < fs.length := by omega
    obtain ⟨f0, f1⟩ := flatF_at fs (j / 2) hi
    obtain ⟨c0, c1⟩ := h (j / 2) hi
    rw [Nat.zero_add] at c0 c1
    rcases Nat.mod_two_eq_zero_or_one j with hm | hm
    · rw [show j / 2 * 2 = j by omega] at f0 c0
      rw [f0, ← c0, cell_of_row V g j cur 48 (0, 0) h1]; simp
    · rw [show j / 2 * 2 + 1 = j by omega] at f1 c1
      rw [f1, ← c1, cell_of_row V g j cur 48 (0, 0) h1]; simp
  · rw [if_neg hj, List.getElem?_eq_none (by rw [flatF_len]; omega)]
def FewRetW (w0 : World) (fs : List FileB) (e : Ending) (w : World) : Prop := ∃ g cap, e = .returned (.slice (some ⟨g, 0, none⟩) fs.length cap) ∧ w0.heap.size ≤ g ∧ g < w.heap.size ∧ fs.length ≤ cap ∧ HoldsK encF 2 w g 0 fs.toArray ∧ Room w g cap
set_option maxHeartbeats 1600000 in
theorem few_nilW (n : Nat) (w : World) : Calls Tryz.prog 32 #[.slice none 0 0, .int .i64 (n : Nat)] w fun e w' => FewRetW w [] e w' ∧ Go.RowKit.Below w.heap.size w w' := by
  go_enter Tryz.func32, Tryz.ntmps32
  go_wp2_with fail
  go_ret
  refine ⟨⟨w.heap.size, 0, rfl, Nat.le_refl _, by simp, Nat.zero_le _, ?_, ⟨#[], heap_alloc_new w _, rfl, by decide⟩⟩, (Go.RowKit.Below.refl _ _).alloc (Nat.le_refl _) _⟩
  intro j hj
  simp at hj
set_option maxHeartbeats 1600000 in
theorem few_retW {w w' : World} {fs : List FileB} {v : Value} (hown : w'.ownsRow w.heap.size 48 2 v fs.length (flatK encF 2 fs.toArray).toList) (hnn : v ≠ .slice none 0 0) : FewRetW w fs (.returned v) w' := by
  rcases hown.2 with ⟨hnil, _⟩ | ⟨g, cap, cur, rfl, hbase, hbk, h1, h2, h3, h4⟩
  · exact absurd hnil hnn
  · exact ⟨g, cap, rfl, hbase, (Array.getElem?_eq_some_iff.1 hbk).1, h1, holdsK_of_block hbk (by simpa using h4), ⟨cur, hbk, h3, h2⟩⟩
set_option maxHeartbeats 1600000 in
theorem few_atW (b off c n : Nat) (fs : List FileB) (w : World) (hf : FilesAt w b off fs) (hcap : fs.length ≤ c) (hn : n ≤ 100000) :
    Calls Tryz.prog 32 #[.slice (some ⟨b, off, none⟩) fs.length c, .int .i64 (n : Nat)] w fun e w' => FewRetW w (fs.take n) e w' ∧ Go.RowKit.Below w.heap.size w w' := by
  obtain ⟨i0, hi, hz0, hz1, hz2⟩ := info_parts info32
  have hf' := hf.take n
  have HNW := hidMO (flat_news hf')
  have HON := hidMO (flat_one (fs := fs.take n))
  have HLN : Hid ((flatK encF 2 (fs.take n).toArray).toList.length = (fs.take n).length * 2) := by unfold Hid; simp
  have HTL : Hid ((fs.take n).length = min n fs.length) := by unfold Hid; simp
  have HRT := hidMO (fun (w' : World) (v : Value) (h1 : w'.ownsRow w.heap.size 48 2 v (fs.take n).length (flatK encF 2 (fs.take n).toArray).toList) h2 => few_retW (w := w) h1 h2)
  clear hf hf'
  by_cases hlt : n < fs.length
  · have g1 : decide ((n : Int) < (fs.length : Int)) = true := by simp; omega
    have HM : Hid (min n fs.length = n) := by unfold Hid; omega
    rw [HM.out] at HTL
    rw [HTL.out] at HLN HRT
    generalize fs.take n = us at *
    generalize (flatK encF 2 us.toArray).toList = news at *
    have c0 : (n : Int) ≤ (c : Int) := by omega
    clear HM
    go_enter Tryz.func32, Tryz.ntmps32
    go_wp2_with (at_builtin; refine wpList_append_own _ rfl _ _ 22 rfl w.heap.size 48 i0 (.agg #[.string .empty, .string .empty]) 2 32 Tryz.underlying22 hi hz0 hz1 hz2 rfl (by decide) _ _ _ rfl (World.ownsRow_made w #[] 0 (Nat.le_refl _) (Nat.zero_le _) (by simp)) ⟨b, off, none⟩ n c news rfl ?qc1 ?qc2 ?qc3 ?qc4 ?qc5 ?qc6 ?_)
    case qc1 => exact HLN.out
    case qc2 =>
      intro j u hj
      rw [Addr.add_lit]
      exact Lib.cell?_alloc_some _ (HNW.out j u hj)
    case qc3 => exact HON.out
    case qc4 => unfold maxLen; omega
    case qc5 => omega
    case qc6 => simp
    intro v' w1 hown hgrow hnil
    have HR := hidMO (HRT.out w1 v' (by simpa using hown) hnil)
    have HB : Hid (Go.RowKit.Below w.heap.size w w1) := ((Go.RowKit.Below.refl _ w).alloc (Nat.le_refl _) _).grown hgrow (by simp) (by intro k hk; simp [Value.ownBlock] at hk; omega)
    clear hown hgrow hnil
    go_wp2
    go_ret
    exact ⟨HR.out, HB.out⟩
  · have g1 : decide ((n : Int) < (fs.length : Int)) = false := by simp; omega
    have HM : Hid (min n fs.length = fs.length) := by unfold Hid; omega
    rw [HM.out] at HTL
    rw [HTL.out] at HLN HRT
    generalize fs.take n = us at *
    generalize (flatK encF 2 us.toArray).toList = news at *
    have c0 : fs.length ≤ 100000 := by omega
    clear HM
    generalize fs.length = L at *
    go_enter Tryz.func32, Tryz.ntmps32
    go_wp2_with (at_builtin; refine wpList_append_own _ rfl _ _ 22 rfl w.heap.size 48 i0 (.agg #[.string .empty, .string .empty]) 2 32 Tryz.underlying22 hi hz0 hz1 hz2 rfl (by decide) _ _ _ rfl (World.ownsRow_made w #[] 0 (Nat.le_refl _) (Nat.zero_le _) (by simp)) ⟨b, off, none⟩ L c news rfl ?qc1 ?qc2 ?qc3 ?qc4 ?qc5 ?qc6 ?_)
    case qc1 => exact HLN.out
    case qc2 =>
      intro j u hj
      rw [Addr.add_lit]
      exact Lib.cell?_alloc_some _ (HNW.out j u hj)
    case qc3 => exact HON.out
    case qc4 => unfold maxLen; omega
    case qc5 => omega
    case qc6 => simp
    intro v' w1 hown hgrow hnil
    have HR := hidMO (HRT.out w1 v' (by simpa using hown) hnil)
    have HB : Hid (Go.RowKit.Below w.heap.size w w1) := ((Go.RowKit.Below.refl _ w).alloc (Nat.le_refl _) _).grown hgrow (by simp) (by intro k hk; simp [Value.ownBlock] at hk; omega)
    clear hown hgrow hnil
    go_wp2
    go_ret
    exact ⟨HR.out, HB.out⟩
set_option maxHeartbeats 1600000 in
theorem few_emptyW (ad : Addr) (c n : Nat) (w : World) : Calls Tryz.prog 32 #[.slice (some ad) 0 c, .int .i64 (n : Nat)] w fun e w' => FewRetW w [] e w' ∧ Go.RowKit.Below w.heap.size w w' := by
  obtain ⟨i0, hi, hz0, hz1, hz2⟩ := info_parts info32
  have HRT := hidMO (fun (w' : World) (v : Value) (h1 : w'.ownsRow w.heap.size 48 2 v ([] : List FileB).length (flatK encF 2 ([] : List FileB).toArray).toList) h2 => few_retW (w := w) h1 h2)
  have g1 : decide ((n : Int) < 0) = false := by simp
  go_enter Tryz.func32, Tryz.ntmps32
  go_wp2_with (at_builtin; refine wpList_append_own _ rfl _ _ 22 rfl w.heap.size 48 i0 (.agg #[.string .empty, .string .empty]) 2 32 Tryz.underlying22 hi hz0 hz1 hz2 rfl (by decide) _ _ _ rfl (World.ownsRow_made w #[] 0 (Nat.le_refl _) (Nat.zero_le _) (by simp)) ad 0 c [] rfl ?qc1 ?qc2 ?qc3 ?qc4 ?qc5 ?qc6 ?_)
  case qc1 => rfl
  case qc2 => intro j u hj; simp at hj
  case qc3 => intro u hu; simp at hu
  case qc4 => unfold maxLen; omega
  case qc5 => omega
  case qc6 => simp
  intro v' w1 hown hgrow hnil
  have HR := hidMO (HRT.out w1 v' (by rw [show (flatK encF 2 ([] : List FileB).toArray).toList = [] by simp [flatK]]; simpa using hown) hnil)
  have HB : Hid (Go.RowKit.Below w.heap.size w w1) := ((Go.RowKit.Below.refl _ w).alloc (Nat.le_refl _) _).grown hgrow (by simp) (by intro k hk; simp [Value.ownBlock] at hk; omega)
  clear hown hgrow hnil
  go_wp2
  go_ret
  exact ⟨HR.out, HB.out⟩
theorem few_anyW (v : Value) (n : Nat) (fs : List FileB) (w : World) (h : FilesV w v fs) (hn : n ≤ 100000) :
    Calls Tryz.prog 32 #[v, .int .i64 (n : Nat)] w fun e w' => FewRetW w (fs.take n) e w' ∧ Go.RowKit.Below w.heap.size w w' := by
  rcases h with ⟨rfl, rfl⟩ | ⟨a, c, rfl, rfl⟩ | ⟨b, off, c, rfl, hf, hc⟩
  · simpa using few_nilW n w
  · simpa using few_emptyW a c n w
  · exact few_atW b off c n fs w hf hc hn

def ShoRetW (w0 : World) (fs : List FileB) (e : Ending) (w : World) : Prop := ∃ g cap, e = .returned (.slice (some ⟨g, 0, none⟩) fs.length cap) ∧ w0.heap.size ≤ g ∧ g < w.heap.size ∧ fs.length ≤ cap ∧ FilesAt w g 0 fs ∧ Room w g cap
set_option maxHeartbeats 2000000 in
set_option maxRecDepth 100000 in
theorem short_anyW (v : Value) (n : Nat) (fs : List FileB) (w : World) (h : FilesV w v fs) (hn : n ≤ 1000) :
    Calls Tryz.prog 8 #[v, .int .i64 (n : Nat)] w fun e w' => ShoRetW w ((fs.take n).map cutF) e w' ∧ Go.RowKit.Below w.heap.size w w' := by
  have HFW := hidM (few_anyW v n fs w h (by omega))
  have hl6 : (fs.take n).length ≤ 1000 := by rw [List.length_take]; omega
  generalize fs.take n = us at *
  have HALL := hidM (cutN_all us)
  clear h
  go_enter Tryz.func8, Tryz.ntmps8
  go_wp2_with fail
  refine HFW.out.mono ?_
  rintro _ w1 ⟨⟨g, cap, rfl, hg, hgl, hcap, hH, hrm⟩, hb1⟩
  have HW1 := hidM (FilesW.of hH)
  have HB1 := hidM hb1
  have HRM := hidM hrm
  have HML : Hid ((us.map cutF).length = us.length) := by unfold Hid; simp
  clear hH hb1 HFW hrm
  obtain ⟨len, hl⟩ : ∃ len, len = us.length := ⟨_, rfl⟩
  rw [← hl] at hcap hl6 HML HALL ⊢
  have HL := hidM hl
  clear hl
  go_wp2
  go_loopw [6, 12] (fun _ iv wr => ∃ k : Nat, k ≤ len ∧ iv = .int .i64 (k : Int) ∧ FilesW wr g (cutN us k) ∧ Go.RowKit.Below w.heap.size w wr ∧ g < wr.heap.size ∧ Room wr g cap) (fun _ iv _ => len - (intOf iv).toNat)
  case atStart => exact ⟨0, Nat.zero_le _, rfl, HW1.out, HB1.out, hgl, HRM.out⟩
  case round =>
    obtain ⟨k, hk, rfl, hw, hbel, hgr, hroom⟩ := hrel
    have HR := hidM hroom
    have HW := hidM hw
    have HB := hidM hbel
    clear hw hbel HW1 HB1 hroom HRM
    by_cases hlt : k < len
    · have hku : k < us.length := by rw [← HL.out]; exact hlt
      have hkc : k < (cutN us k).length := by rw [cutN_len]; exact hku
      obtain ⟨x0, x1, x2⟩ := HW.out k hkc
      rw [cutN_at hku] at x0 x1
      have HFS := hidM (fewL_any us[k].2 wr)
      have HNX : Hid (FilesW (wr.setCell ⟨g, k * 2 + 1, none⟩ (.string (fewS us[k].2))) g (cutN us (k + 1))) := by
        have h1 := HW.out.set hkc (fewS us[k].2)
        rw [cutN_at hku] at h1
        rw [← cutN_next hku]
        exact h1
      have HBN : Hid (Go.RowKit.Below w.heap.size w (wr.setCell ⟨g, k * 2 + 1, none⟩ (.string (fewS us[k].2)))) := HB.out.setCell hg _
      have HRN := hidM (HR.out.set (k * 2 + 1) (.string (fewS us[k].2)))
      generalize us[k].1 = p1 at *
      generalize us[k].2 = p2 at *
      generalize fewS p2 = p3 at *
      clear hkc hku
      go_wp2_with fail
      refine HFS.out.mono ?_
      rintro _ w2 ⟨rfl, hw2⟩
      rw [hw2]
      clear hw2 HFS
      go_wp2
      go_roundw
      case rel => exact ⟨k + 1, by omega, by go_num, HNX.out, HBN.out, by simpa using hgr, HRN.out⟩
      case measure => simp [intOf]; omega
    · obtain rfl : k = len := by omega
      have HFA : Hid (FilesAt wr g 0 (us.map cutF)) := by
        have := HW.out.at
        rw [HALL.out] at this
        exact this
      go_wp2
      go_ret
      refine ⟨⟨g, cap, by rw [HML.out]; rfl, hg, hgr, by rw [HML.out]; exact hcap, HFA.out, HR.out⟩, HB.out⟩

end Go.Proofs.YtddoemeellbhaaaGreatDoor

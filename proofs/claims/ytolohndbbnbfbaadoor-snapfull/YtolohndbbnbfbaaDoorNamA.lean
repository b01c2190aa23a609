/-
  Objects kept as texts under their names: the rows' mathematics, and the first steps.
-/
import Derived.Test.YtolohndbbnbfbaaDoorPartM
import Derived.Test.YtolohndbbnbfbaaDoorEncM
import Derived.Test.YtolohndbbnbfbaaDoorObjB
namespace Go.Proofs.YtolohndbbnbfbaaDoor
open Go.RowKit

def fewB (s : ByteArray) (n : Nat) : ByteArray := if n < s.size then s.extract 0 n else s
theorem fewB_size (s : ByteArray) (n : Nat) : (fewB s n).size ≤ n := by
  unfold fewB
  split
  · rw [ByteArray.size_extract]; omega
  · omega
theorem few1_any (s : ByteArray) (n : Nat) (w : World) :
    Calls Tryd.prog 44 #[.string s, .int .i64 (n : Nat)] w fun e w' => e = .returned (.string (fewB s n)) ∧ w' = w := by
  by_cases h : n < s.size
  · have g : decide ((n : Int) < (s.size : Int)) = true := by simp; omega
    have g2 : (n : Int) ≤ (s.size : Int) := by omega
    have HF : Hid (fewB s n = s.extract 0 n) := by unfold Hid fewB; rw [if_pos h]
    go_enter Tryd.func44, Tryd.ntmps44
    go_wp2_with fail
    go_ret
    exact ⟨by rw [HF.out]; rfl, rfl⟩
  · have g : decide ((n : Int) < (s.size : Int)) = false := by simp; omega
    have HF : Hid (fewB s n = s) := by unfold Hid fewB; rw [if_neg h]
    go_enter Tryd.func44, Tryd.ntmps44
    go_wp2_with fail
    go_ret
    exact ⟨by rw [HF.out]; rfl, rfl⟩
/-- files in a row of the call's own -/
def OwnF (w : World) (B : Nat) (v : Value) (F : List FileB) : Prop := w.ownsRow B 32 2 v F.length (Sort.flatK encF 2 F.toArray).toList ∧ v ≠ .slice none 0 0
theorem flat_list (F : List FileB) : (Sort.flatK encF 2 F.toArray).toList = F.flatMap encF := by
  have h1 : ∀ F : List FileB, (F.flatMap encF).length = F.length * 2 := fun F => by
    induction F with
    | nil => rfl
    | cons f F ih => rw [List.flatMap_cons, List.length_append, ih, List.length_cons]; simp [encF]; omega
  refine List.ext_getElem (by rw [h1]; simp) fun j h2 h3 => ?_
  have hj : j < F.length * 2 := by rw [h1] at h3; exact h3
  rw [Array.getElem_toList, ← getElem!_pos _ _ (by simpa using hj), Sort.get_flatK _ _ _ _ (by simpa using hj)]
  have hi : j / 2 < F.length := by omega
  have hx : F.toArray[j / 2]! = F[j / 2] := by rw [getElem!_pos _ _ (by simpa using hi)]; simp
  rw [hx]
  clear h1 h2 hx
  induction F generalizing j with
  | nil => simp at hi
  | cons f F ih =>
    simp only [List.flatMap_cons]
    match j, hj with
    | 0, _ => rfl
    | 1, _ => rfl
    | j + 2, hj =>
      have e1 : (j + 2) / 2 = j / 2 + 1 := by omega
      have e2 : (j + 2) % 2 = j % 2 := by omega
      have h5 : j < F.length * 2 := by simp at hj; omega
      have h4 : j < (F.flatMap encF).length := by
        have : (encF f ++ F.flatMap encF).length = 2 + (F.flatMap encF).length := by rw [List.length_append]; rfl
        simp only [List.flatMap_cons] at h3
        omega
      have := ih j h4 h5 (by omega)
      simp only [e1, e2, List.getElem_cons_succ]
      rw [this]
      rw [List.getElem_append_right (by simp [encF])]
      simp [encF]
theorem OwnF.push {w : World} {B : Nat} {v : Value} {F : List FileB} {f : FileB} (h : w.ownsRow B 32 2 v (F.length + 1) ((Sort.flatK encF 2 F.toArray).toList ++ [.string f.1, .string f.2])) (hn : v ≠ .slice none 0 0) : OwnF w B v (F ++ [f]) := by
  refine ⟨?_, hn⟩
  rw [flat_list, List.flatMap_append, ← flat_list F]
  simpa [encF] using h
theorem OwnF.shape {w : World} {B : Nat} {v : Value} {F : List FileB} (h : OwnF w B v F) : ∃ g c, v = .slice (some ⟨g, 0, none⟩) F.length c ∧ B ≤ g ∧ g < w.heap.size ∧ F.length ≤ c ∧ FilesAt w g 0 F := by
  rcases h.1.2 with ⟨hnil, _⟩ | ⟨g, cap, cur, rfl, hbase, hbk, h1, h2, h3, h4⟩
  · exact absurd hnil h.2
  · exact ⟨g, cap, rfl, hbase, (Array.getElem?_eq_some_iff.1 hbk).1, h1, FilesAt.of_holds (holdsK_of_block hbk (by simpa using h4))⟩
theorem OwnF.kept {w w' : World} {B : Nat} {v : Value} {F : List FileB} (h : OwnF w B v F) (hb : Below w.heap.size w w') : OwnF w' B v F :=
  ⟨h.1.kept (row := none) ⟨hb.os, hb.tape, hb.output, hb.size, fun k hk _ => hb.block k hk⟩ (by
    cases v.ownBlock with
    | none => exact .inl rfl
    | some k => exact .inr (by simp)), h.2⟩
/-- what an object is kept as -/
def keptAs (k : Int) (d : List UInt8) : FileB := (⟨([120, 47] ++ idT k d).toArray⟩, ⟨(encT k d).toArray⟩)
def GoodF (F : List FileB) : Prop := ∀ f ∈ F, ∃ k d, checkE k d.length = 0 ∧ f = keptAs k d
theorem digN_sign (q : Nat) (h : q < 16) : 48 ≤ (digN q).toNat ∧ (digN q).toNat ≤ 102 ∧ digN q ≠ 47 := by
  have : ∀ q : Fin 16, 48 ≤ (digN q).toNat ∧ (digN q).toNat ≤ 102 ∧ digN q ≠ 47 := by decide
  exact this ⟨q, h⟩
theorem hexL_sign (l : List UInt8) (c : UInt8) (h : c ∈ hexL l) : 48 ≤ c.toNat ∧ c.toNat ≤ 102 ∧ c ≠ 47 := by
  unfold hexL at h
  obtain ⟨x, _, hx⟩ := List.mem_flatMap.1 h
  simp only [hex2, List.mem_cons, List.not_mem_nil, or_false] at hx
  have hlt := x.toNat_lt
  rcases hx with rfl | rfl
  · exact digN_sign _ (by omega)
  · exact digN_sign _ (by omega)
theorem id_hex {k : Int} {d : List UInt8} (h : checkE k d.length = 0) : idT k d = hexL (sha1L (encL k d)) := by unfold idT; rw [if_pos h]
theorem id_len {k : Int} {d : List UInt8} (h : checkE k d.length = 0) : (idT k d).length = 40 := by rw [id_hex h, hexL_len, sha1L_len]
theorem kept_data (k : Int) (d : List UInt8) : (keptAs k d).1.data.toList = [120] ++ 47 :: idT k d := by simp [keptAs]
theorem kept_clean {k : Int} {d : List UInt8} (h : checkE k d.length = 0) : cleanB (keptAs k d).1 = true := by
  rw [clean_eq, kept_data]
  have hs : ∀ c ∈ idT k d, 48 ≤ c.toNat ∧ c.toNat ≤ 102 ∧ c ≠ 47 := by rw [id_hex h]; exact hexL_sign _
  have hl := id_len h
  refine cleanL_iff.2 ⟨by simp [hl], ?_, ?_⟩
  · unfold plainL
    rw [List.all_eq_true]
    intro c hc
    simp only [List.cons_append, List.nil_append, List.mem_cons] at hc
    rcases hc with rfl | rfl | hc
    · rfl
    · rfl
    · have := hs c hc
      simp only [decide_eq_true_eq]
      omega
  · rw [partsL_app, partsL_none [120] (by decide), partsL_none _ (fun hm => (hs 47 hm).2.2 rfl)]
    intro p hp
    simp only [List.cons_append, List.nil_append, List.mem_cons, List.not_mem_nil, or_false] at hp
    rcases hp with rfl | rfl
    · rfl
    · unfold partOk
      have n0 : idT k d ≠ [] := fun e => by rw [e] at hl; simp at hl
      have n1 : idT k d ≠ [46] := fun e => by rw [e] at hl; simp at hl
      have n2 : idT k d ≠ [46, 46] := fun e => by rw [e] at hl; simp at hl
      rw [beq_false_of_ne n0, beq_false_of_ne n1, beq_false_of_ne n2]; rfl
theorem not_begins_self (f : FileB) : beginsF (f.1 ++ slashB) f = false := by
  refine Bool.eq_false_iff.2 fun h => ?_
  have := begins_size h
  rw [ByteArray.size_append] at this
  have : slashB.size = 1 := rfl
  omega
theorem good_one {F : List FileB} (h : GoodF F) (hl : ¬ OkF F) : 1 < F.length := by
  refine Classical.byContradiction fun hn => hl ?_
  match F, hn with
  | [], _ => exact ⟨(fun f hf => absurd hf (List.not_mem_nil)), List.Pairwise.nil, (fun f hf => absurd hf (List.not_mem_nil))⟩
  | [f], _ =>
    obtain ⟨k, d, hc, rfl⟩ := h f List.mem_cons_self
    refine ⟨fun g hg => ?_, List.pairwise_singleton _ _, fun g hg g2 hg2 => ?_⟩
    · obtain rfl := List.mem_singleton.1 hg; exact kept_clean hc
    · obtain rfl := List.mem_singleton.1 hg
      obtain rfl := List.mem_singleton.1 hg2
      exact not_begins_self _
  | _ :: _ :: _, hn => simp at hn
theorem kept_size (k : Int) (d : List UInt8) : (keptAs k d).2.size ≤ 65100 := by
  show (encT k d).toArray.size ≤ _
  rw [List.size_toArray]; exact encT_len k d
theorem good_size {F : List FileB} (h : GoodF F) (hl : F.length ≤ 20) : sizeF F ≤ 1302000 := by
  have := sizeF_each F 65100 (fun f hf => by obtain ⟨k, d, _, rfl⟩ := h f hf; exact kept_size k d)
  omega
theorem good_big {F : List FileB} (h : GoodF F) (hl : F.length ≤ 20) : ¬ bigF F := by
  have := good_size h hl
  unfold bigF; omega
theorem good_und {F : List FileB} (h : GoodF F) : undF F ⟨#[120, 47]⟩ = F := by
  unfold undF
  rw [List.filter_eq_self]
  intro f hf
  obtain ⟨k, d, _, rfl⟩ := h f hf
  unfold beginsF Lib.hasPrefix
  rw [kept_data]; rfl
theorem GoodF.perm {F G : List FileB} (h : GoodF F) (hp : G.Perm F) : GoodF G := fun f hf => h f (hp.mem_iff.1 hf)
theorem kept_dec {k : Int} {d : List UInt8} (h : checkE k d.length = 0) : decR (encT k d) = (k.toNat, d, 0) ∧ (k.toNat : Int) = k := by
  have h' := checkE_zero.1 h
  have hk := kind_name k h'.1
  refine ⟨?_, by omega⟩
  unfold encT
  rw [if_pos h]
  exact dec_enc k d h'.1 h'.2
end Go.Proofs.YtolohndbbnbfbaaDoor

/-
  What the document's Parse of a pseudo-version says, as a function of the text, is what the program's says.
  Walks of the document's semver: texts in a row of the call's own; Find, Cut, Digits, Number, level, ByNumber.
  Walks of the document's semver: Digits, Number, level, ByNumber.
  Walks of the document's semver: Words.
-/
import Derived.Test.YtmhjdahmmdfbcaaGreatDoorJPsO
import Derived.Laws.Cover1
namespace Go.Proofs.YtmhjdahmmdfbcaaGreatDoor
open Go.RowKit

theorem hex_no_hyphen {l : List UInt8} (h : hexed l = true) : ∀ c ∈ l, c.toNat ≠ 45 := by
  intro c hc
  unfold hexed at h
  rw [Bool.and_eq_true, List.all_eq_true] at h
  have := h.1 c hc
  unfold isHex at this
  simp only [Bool.or_eq_true, Bool.and_eq_true, decide_eq_true_eq] at this
  omega
theorem rev_parts {s : ByteArray} (h : revB s = true) : s.size = 12 ∧ hexed s.data.toList = true := by
  unfold revB at h
  rw [Bool.and_eq_true] at h
  exact ⟨of_decide_eq_true h.1, h.2⟩
theorem byte_bang (p : ByteArray) (j : Nat) (h : j < p.size) : p.data[j]! = p.data[j]'h := getElem!_pos p.data j h

theorem cut_last {p : ByteArray} (h27 : 27 ≤ p.size) (h45 : ((p.data[p.size - 13]!).toNat : Int) = 45) (hr : revB (p.extract (p.size - 12) p.size) = true) :
    cutPre p = ⟨p.extract 0 (p.size - 27), (uns (p.extract (p.size - 27) (p.size - 13))).1, p.extract (p.size - 12) p.size, (uns (p.extract (p.size - 27) (p.size - 13))).2 == 0⟩ := by
  have hno : ∀ j, p.size - 12 ≤ j → j < p.size → ((p.data[j]!).toNat : Int) ≠ 45 := by
    intro j h1 h2
    have hm : p.data[j]! ∈ (p.extract (p.size - 12) p.size).data.toList := by
      rw [byte_bang p j h2, ext_tail]
      rw [List.mem_iff_getElem]
      refine ⟨j - (p.size - 12), by rw [List.length_drop, size_len]; omega, ?_⟩
      rw [List.getElem_drop]
      have : p.size - 12 + (j - (p.size - 12)) = j := by omega
      simp only [this, Array.getElem_toList]
    have := hex_no_hyphen (rev_parts hr).2 _ hm
    omega
  have hi : Lib.lastIndexByte p 45 = ((p.size - 13 : Nat) : Int) := by
    rcases Lib.lastIndexByte_spec p 45 with ⟨_, h⟩ | ⟨i, hi, he, hc, hn⟩
    · exact absurd h45 (h _ (by omega))
    · rw [he]
      have h1 : ¬ i < p.size - 13 := fun hlt => hn _ hlt (by omega) h45
      have h2 : ¬ p.size - 12 ≤ i := fun hge => hno i hge hi hc
      omega
  unfold cutPre
  rw [hi, if_neg (by omega), Int.toNat_natCast]
  unfold cutAt
  rw [show p.size - 13 + 1 = p.size - 12 by omega, show p.size - 13 - 14 = p.size - 27 by omega, hr, if_pos rfl]
end Go.Proofs.YtmhjdahmmdfbcaaGreatDoor
namespace Go.Proofs.YtmhjdahmmdfbcaaGreatDoor
open Go.RowKit
/-- texts, in a row of the call's own -/
def strsV (l : List ByteArray) : List Value := l.map Value.string
def OwnS (w : World) (B : Nat) (v : Value) (l : List ByteArray) : Prop := w.ownsRow B 9 1 v l.length (strsV l)
theorem OwnS.push {w : World} {B : Nat} {v : Value} {l : List ByteArray} {x : ByteArray} (h : w.ownsRow B 9 1 v (l.length + 1) (strsV l ++ [.string x])) : OwnS w B v (l ++ [x]) := by
  unfold OwnS strsV
  rw [List.map_append]
  simpa [strsV] using h
theorem cell_new_at (w : World) (v : Value) (t n : Nat) (hn : w.heap.size = n) : ∀ j u, [v][j]? = some u → (w.alloc (.cells #[v] t)).cell? ((⟨n, 0, none⟩ : Addr).add j) = some u := by
  intro j u hj
  subst hn
  rcases j with _ | j
  · simp at hj; subst hj; rw [Addr.add_lit]; simp
  · simp at hj
theorem OwnS.below {w wr w1 : World} {B : Nat} {v : Value} {l : List ByteArray} {o : Obj} (hown : OwnS wr B v l) (hb : Below B w wr) (hB : B ≤ wr.heap.size) (hg : (wr.alloc o).grownBy w1 v.ownBlock) : Below B w w1 :=
  (hb.alloc hB o).grown hg (by simp; omega) (fun k hk => (World.ownsRow.lt hown k hk).1)
def SlRet (w : World) (B : Nat) (l : List ByteArray) (e : Ending) : Prop := ∃ v, OwnS w B v l ∧ e = .returned v
def StrsAt (w : World) (g : Nat) (l : List ByteArray) : Prop := ∀ j (h : j < l.length), w.cell? ⟨g, j, none⟩ = some (.string l[j])
theorem StrsAt.below {w w' : World} {g B : Nat} {l : List ByteArray} (h : StrsAt w g l) (hb : Below B w w') (hB : g < B) : StrsAt w' g l := fun j hj =>
  (hb.cell (p := ⟨g, j, none⟩) hB).trans (h j hj)
theorem OwnS.shape {w : World} {B : Nat} {v : Value} {l : List ByteArray} (h : OwnS w B v l) : ∃ a c, v = .slice a l.length c ∧ (l ≠ [] → ∃ g, a = some ⟨g, 0, none⟩ ∧ B ≤ g ∧ g < w.heap.size ∧ StrsAt w g l) := by
  have h' := h
  rcases h.2 with ⟨hnil, hn⟩ | ⟨g, cap, cur, rfl, hbase, hbk, h1, h2, h3, h4⟩
  · refine ⟨none, 0, by rw [hnil, hn], fun hne => ?_⟩
    exact absurd (List.eq_nil_of_length_eq_zero hn) hne
  · refine ⟨_, cap, rfl, fun _ => ⟨g, rfl, hbase, (Array.getElem?_eq_some_iff.1 hbk).1, fun j hj => ?_⟩⟩
    have := World.ownsRow.cells h' (g := g) rfl j (.string l[j]) (by unfold strsV; simp [hj])
    rw [Addr.add_lit, Nat.zero_add] at this
    exact this
theorem take_one (s : ByteArray) (k : Nat) (h : k < s.size) : s.data.toList.take (k + 1) = s.data.toList.take k ++ [s[k]] := by
  rw [List.take_succ_eq_append_getElem (by simpa using h)]; rfl
end Go.Proofs.YtmhjdahmmdfbcaaGreatDoor
namespace Go.Proofs.YtmhjdahmmdfbcaaGreatDoor
open Go.RowKit
theorem less_cmp (a : List UInt8) : ∀ b, Op.bytesLess a b = decide (Lib.compareBytes a b = -1) := by
  induction a with
  | nil => intro b; cases b <;> rfl
  | cons x a ih =>
    intro b
    cases b with
    | nil => rfl
    | cons y b =>
      rw [cmp_cons]
      show (decide (x < y) || (x == y && Op.bytesLess a b)) = _
      rw [ih b]
      by_cases h1 : x.toNat < y.toNat
      · rw [if_pos h1, decide_eq_true ((u8_lt x y).2 h1)]; rfl
      · rw [if_neg h1, decide_eq_false (fun h => h1 ((u8_lt x y).1 h))]
        by_cases h2 : y.toNat < x.toNat
        · rw [if_pos h2]
          have : (x == y) = false := by rw [beq_eq_false_iff_ne]; intro e; rw [e] at h2; omega
          rw [this]; rfl
        · rw [if_neg h2]
          have : x = y := by rw [← UInt8.toNat_inj]; omega
          rw [this]; simp
end Go.Proofs.YtmhjdahmmdfbcaaGreatDoor
namespace Go.Proofs.YtmhjdahmmdfbcaaGreatDoor
open Go.RowKit
end Go.Proofs.YtmhjdahmmdfbcaaGreatDoor

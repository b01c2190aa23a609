/-
  CartularyCodes: the writer and the list of what was written, side by side.
-/
import Derived.Test.YtpidofgmbjkbiaaBack
import Derived.Test.YtpidofgmbjkbiaaBitF
import Derived.Test.YtpidofgmbjkbiaaCodM
namespace Go.Proofs.Ytpidofgmbjkbiaa
open Go.RowKit

def symZ (P : List Int) : List Value := P.map fun (s : Int) => Value.int .i64 s
theorem symZ_len (P : List Int) : (symZ P).length = P.length := by simp [symZ]
theorem symZ_app (A B : List Int) : symZ (A ++ B) = symZ A ++ symZ B := by simp [symZ]
theorem symZ_at (P : List Int) (j : Nat) (h : j < P.length) : (symZ P)[j]? = some (.int .i64 P[j]) := by simp [symZ, h]
/-- The list of symbols so far. -/
def OwnZ (w : World) (B : Nat) (v : Value) (P : List Int) : Prop := w.ownsRow B 3 1 v P.length (symZ P) ∧ ∃ g c, v = .slice (some ⟨g, 0, none⟩) P.length c
theorem ownZ_obj {w : World} {B : Nat} {v : Value} {P : List Int} (h : OwnZ w B v P) : ∃ g c cur, v = .slice (some ⟨g, 0, none⟩) P.length c ∧ B ≤ g ∧ w.heap[g]? = some (.cells cur 3 (0, 0)) := by
  obtain ⟨ho, g, c, rfl⟩ := h
  rcases ho.2 with ⟨h', _⟩ | ⟨g', cap', cur, h', hb, hg, _⟩
  · simp at h'
  · simp only [Value.slice.injEq, Option.some.injEq, Addr.mk.injEq, and_true, true_and] at h'
    obtain ⟨rfl, rfl⟩ := h'
    exact ⟨g, c, cur, rfl, hb, hg⟩
theorem OwnZ.move {w w' : World} {B g c : Nat} {P : List Int} (ho : OwnZ w B (.slice (some ⟨g, 0, none⟩) P.length c) P) (hg : w'.heap[g]? = w.heap[g]?) : OwnZ w' B (.slice (some ⟨g, 0, none⟩) P.length c) P := by
  refine ⟨⟨ho.1.1, ?_⟩, g, c, rfl⟩
  rcases ho.1.2 with ⟨h', _⟩ | ⟨g', cap', cur', h', hb', hg', hr⟩
  · simp at h'
  · have h'' := h'
    simp only [Value.slice.injEq, Option.some.injEq, Addr.mk.injEq, and_true, true_and] at h''
    obtain ⟨rfl, rfl⟩ := h''
    exact .inr ⟨g, c, cur', rfl, hb', by rw [hg, hg'], hr⟩
/-- How writer and list stand. -/
structure BSz (w w2 : World) (bw : Nat) (wr : World) (v : Value) (P : List Int) (N T : Nat) : Prop where
  wat : WAt wr bw N T
  own : OwnZ wr (bw + 1) v P
  b1 : Below w.heap.size w wr
  b2 : Below w2.heap.size w2 wr
theorem BSz.below {w w2 : World} {bw : Nat} {wr w' : World} {v : Value} {P : List Int} {N T : Nat} (h : BSz w w2 bw wr v P N T) (hb : Below wr.heap.size wr w') : BSz w w2 bw w' v P N T := by
  obtain ⟨g, c, cur, hv, _, hg⟩ := ownZ_obj h.own
  subst hv
  exact ⟨h.wat.below hb, h.own.move (hb.block g (Array.getElem?_eq_some_iff.1 hg).1), h.b1.trans (hb.mono h.b1.size), h.b2.trans (hb.mono h.b2.size)⟩
theorem bz_code (w w2 : World) (bw N T x n : Nat) (v : Value) (P : List Int) (wr : World) (h : BSz w w2 bw wr v P N T) (hw : w.heap.size ≤ bw) (hw2 : w2.heap.size ≤ bw) (hT : T ≤ 1000000000) (hn : n ≤ 32) (hn1 : 1 ≤ n) (hx : x < 4294967296) :
    Calls Try.prog 23 #[.pointer (some ⟨bw, 0, none⟩), .int .u32 x, .int .i64 n] wr fun e w' => e = .returned (.tuple #[]) ∧ BSz w w2 bw w' v P (N + 2 ^ T * turned x n) (T + n) := by
  obtain ⟨g, c, cur, hv, hb, hg⟩ := ownZ_obj h.own
  obtain ⟨v0, F, q0, h0, hwb, h1, h2, h3, h4⟩ := h.wat
  have hG : WAtG wr bw N T [(g, .cells cur 3 (0, 0))] := ⟨v0, F, q0, h0, hwb, h1, h2, h3, h4, fun p hp => by
    simp only [List.mem_cons, List.not_mem_nil, or_false] at hp
    subst hp
    exact ⟨own_type hwb.own hg (by decide), hg, by show g ≠ bw; omega⟩⟩
  refine (wcode_g bw N T x n _ wr hG hT hn hn1 hx).mono ?_
  rintro e w' ⟨rfl, ⟨v1, F1, q1, h1', hw1, k1, k2, k3, k4, hGG⟩, hbl⟩
  subst hv
  have e1 := (hGG (g, .cells cur 3 (0, 0)) (by simp)).2.1
  exact ⟨rfl, ⟨v1, F1, q1, h1', hw1, k1, k2, k3, k4⟩, h.own.move (e1.trans hg.symm), h.b1.trans (hbl.mono hw), h.b2.trans (hbl.mono hw2)⟩
theorem bz_bytes (w w2 : World) (bw N T : Nat) (X : ByteArray) (v : Value) (P : List Int) (wr : World) (h : BSz w w2 bw wr v P N T) (hw : w.heap.size ≤ bw) (hw2 : w2.heap.size ≤ bw) (hT : T ≤ 1000000000) (hX : X.size ≤ 1000000000) :
    Calls Try.prog 25 #[.pointer (some ⟨bw, 0, none⟩), .string X] wr fun e w' => e = .returned (.tuple #[]) ∧ BSz w w2 bw w' v P (N + 2 ^ al T * le X.data.toList) (al T + 8 * X.size) := by
  obtain ⟨g, c, cur, hv, hb, hg⟩ := ownZ_obj h.own
  obtain ⟨v0, F, q0, h0, hwb, h1, h2, h3, h4⟩ := h.wat
  have hG : WAtG wr bw N T [(g, .cells cur 3 (0, 0))] := ⟨v0, F, q0, h0, hwb, h1, h2, h3, h4, fun p hp => by
    simp only [List.mem_cons, List.not_mem_nil, or_false] at hp
    subst hp
    exact ⟨own_type hwb.own hg (by decide), hg, by show g ≠ bw; omega⟩⟩
  refine (wbytes_g bw N T X _ wr hG (fun p hp cur' fr he => by simp only [List.mem_cons, List.not_mem_nil, or_false] at hp; subst hp; simp at he) hT hX).mono ?_
  rintro e w' ⟨rfl, ⟨v1, F1, q1, h1', hw1, k1, k2, k3, k4, hGG⟩, hbl⟩
  subst hv
  have e1 := (hGG (g, .cells cur 3 (0, 0)) (by simp)).2.1
  exact ⟨rfl, ⟨v1, F1, q1, h1', hw1, k1, k2, k3, k4⟩, h.own.move (e1.trans hg.symm), h.b1.trans (hbl.mono hw), h.b2.trans (hbl.mono hw2)⟩
theorem BSz.push {w w2 : World} {bw : Nat} {wr w1 : World} {v v' : Value} {P : List Int} {N T : Nat} {s : Int} {o : Obj} (h : BSz w w2 bw wr v P N T) (hw : w.heap.size ≤ bw) (hw2 : w2.heap.size ≤ bw) (hg : (wr.alloc o).grownBy w1 v.ownBlock)
    (hown : w1.ownsRow (bw + 1) 3 1 v' (P.length + 1) (symZ P ++ [.int .i64 s])) : BSz w w2 bw w1 v' (P ++ [s]) N T := by
  obtain ⟨g, c, cur, rfl, hb, hgc⟩ := ownZ_obj h.own
  obtain ⟨v0, F, q0, h0, hwb, h1, h2, h3, h4⟩ := h.wat
  have hlt := hwb.lt
  have hown' : w1.ownsRow (bw + 1) 3 1 v' (P ++ [s]).length (symZ (P ++ [s])) := by
    rw [symZ_app, List.length_append]
    exact hown
  have hbel : Below (bw + 1) (wr.alloc o) w1 := (Below.refl _ _).grown hg (by simp; omega) (fun k hk => by simp [Value.ownBlock] at hk; omega)
  refine ⟨⟨v0, F, q0, h0, ⟨?_, ?_⟩, h1, h2, h3, h4⟩, ⟨hown', ?_⟩, ?_, ?_⟩
  · rw [hg.block bw (by simp; omega) (by simp [Value.ownBlock]; omega), Below.heap_alloc wr o bw hlt]
    exact hwb.box
  · refine ⟨hwb.own.1, ?_⟩
    rcases hwb.own.2 with k0 | ⟨g5, cap5, cur5, k1, k2, k3, k4⟩
    · exact .inl k0
    · have hne : some g5 ≠ (Value.slice (some ⟨g, 0, none⟩) P.length c).ownBlock := fun he => by
        simp [Value.ownBlock] at he
        subst he
        rw [hgc] at k3
        simp at k3
      have h5 := (Array.getElem?_eq_some_iff.1 k3).1
      exact .inr ⟨g5, cap5, cur5, k1, k2, by rw [hg.block g5 (by simp; omega) hne, Below.heap_alloc wr o g5 h5]; exact k3, k4⟩
  · rcases hown'.2 with ⟨_, k1⟩ | ⟨g', cap', cur', k1, _⟩
    · simp at k1
    · exact ⟨g', cap', k1⟩
  · exact (h.b1.alloc (by omega) o).trans (hbel.mono (by omega))
  · exact (h.b2.alloc (by omega) o).trans (hbel.mono (by omega))
theorem BSz.new (w w2 w3 : World) (h1 : Below w.heap.size w w3) (h2 : Below w2.heap.size w2 w3) :
    BSz w w2 w3.heap.size ((w3.alloc (.cells #[.slice none 0 0, .int .u64 0, .int .i64 0] 52)).alloc (.cells #[] 3)) (.slice (some ⟨w3.heap.size + 1, 0, none⟩) 0 0) [] 0 0 := by
  have a1 := WAt.new w3
  have a2 := own_start (w3.alloc (.cells #[.slice none 0 0, .int .u64 0, .int .i64 0] 52))
  have hsz : (w3.alloc (.cells #[.slice none 0 0, .int .u64 0, .int .i64 0] 52)).heap.size = w3.heap.size + 1 := by simp
  rw [hsz] at a2
  exact ⟨a1.below ((Below.refl _ _).alloc (Nat.le_refl _) _), ⟨a2, _, _, rfl⟩, (h1.alloc h1.size _).alloc (by rw [hsz]; have := h1.size; omega) _, (h2.alloc h2.size _).alloc (by rw [hsz]; have := h2.size; omega) _⟩
theorem ownZ_cell {wr w' : World} {B g c : Nat} {P : List Int} {cur : Array Value} (ho : OwnZ wr B (.slice (some ⟨g, 0, none⟩) P.length c) P) (hg : wr.heap[g]? = some (.cells cur 3 (0, 0))) (hg' : w'.heap[g]? = some (.cells cur 3 (0, 0))) (j : Nat) (hj : j < P.length) : w'.cell? ⟨g, 0 + j, none⟩ = some (.int .i64 P[j]) := by
  have := World.ownsRow.cells (g := g) (ho.move (hg'.trans hg.symm)).1 rfl j _ (symZ_at P j hj)
  rwa [Addr.add_lit] at this
theorem extract_le (X : ByteArray) (u n : Nat) (h : u + n ≤ X.size) : le (X.extract u (u + n)).data.toList = bitsN X.data.toList (8 * u) (8 * n) ∧ (X.extract u (u + n)).size = n := by
  refine ⟨?_, by simp; omega⟩
  have e : (X.extract u (u + n)).data.toList = (X.data.toList.drop u).take n := by
    simp [List.take_drop]
  have h1 := peek_bits X.data.toList u 0 n (8 * n) (by omega)
  rw [Nat.add_zero, Nat.pow_zero, Nat.div_one] at h1
  rw [e, ← h1, Nat.mod_eq_of_lt]
  refine Nat.lt_of_lt_of_le (le_lt _) ?_
  rw [pow256]
  exact Nat.pow_le_pow_right (by decide) (by rw [List.length_take]; omega)

theorem extract_is (S X : ByteArray) (N u : Nat) (hN : le S.data.toList = N) (hu : u + X.size ≤ S.size) (h : N / 2 ^ (u * 8) % 2 ^ (8 * X.size) = le X.data.toList) : S.extract u (u + X.size) = X := by
  obtain ⟨h1, h2⟩ := extract_le S u X.size hu
  have h3 : (S.extract u (u + X.size)).data.toList = X.data.toList := by
    refine le_inj _ _ h2 ?_
    rw [h1]
    unfold bitsN
    rw [hN, Nat.mul_comm 8 u, h]
  exact ByteArray.ext (Array.ext' h3)

def f122 : Nat → Int := fun i => match i with
  | 0 => 1
  | 1 => 2
  | 2 => 2
  | _ => 0
theorem f122_at (w : World) : IntsAt (w.alloc (.cells #[.int .i64 1, .int .i64 2, .int .i64 2] 3)) (some ⟨w.heap.size, 0, none⟩) 3 .i64 f122 := by
  refine ⟨by decide, fun i => ?_, .inr ⟨w.heap.size, 0, rfl, fun i hi => ?_⟩⟩
  · unfold f122; split <;> decide
  · rw [cell_of_row _ w.heap.size (0 + i) _ 3 (0, 0) (heap_alloc_new w _)]
    match i, hi with
    | 0, _ => rfl
    | 1, _ => rfl
    | 2, _ => rfl
theorem f122_new {e : Ending} {w' : World} (h : NewPost f122 3 e w') : ∃ b ln, e = .returned (.tuple #[.pointer (some ⟨b, 0, none⟩), .int .i64 0]) ∧ Tab w' b ln 3 ∧ codeC ln 3 2 = 3 ∧ ln 2 = 2 := by
  have hln : ∀ ln : Nat → Nat, (∀ i, i < 3 → f122 i = (ln i : Int)) → ln 0 = 1 ∧ ln 1 = 2 ∧ ln 2 = 2 := fun ln h => by
    have h0 := h 0 (by decide)
    have h1 := h 1 (by decide)
    have h2 := h 2 (by decide)
    simp only [f122] at h0 h1 h2
    omega
  rcases h with ⟨h, _⟩ | ⟨_, ⟨i, hi, hb⟩, _⟩ | ⟨_, ln, hl, _, hr⟩
  · omega
  · exfalso
    match i, hi with
    | 0, _ => simp [f122] at hb
    | 1, _ => simp [f122] at hb
    | 2, _ => simp [f122] at hb
  · obtain ⟨l0, l1, l2⟩ := hln ln hl
    have hk : kr ln 3 15 = 32768 := by simp [kr, cnt, l0, l1, l2]
    rcases hr with ⟨hn, _⟩ | ⟨_, b, he, ht⟩
    · exact absurd (.inl hk) hn
    · exact ⟨b, ln, he, ht, by simp [codeC, fstC, cnt, l0, l1, l2], l2⟩
theorem IntsAt.cut {w : World} {a : Option Addr} {len m : Nat} {f : Nat → Int} (h : IntsAt w a len .i64 f) (hm : m ≤ len) : IntsAt w a m .i64 f := by
  refine ⟨Nat.le_trans hm h.1, h.2.1, ?_⟩
  rcases h.2.2 with h0 | ⟨b, off, he, hc⟩
  · exact .inl (by omega)
  · exact .inr ⟨b, off, he, fun i hi => hc i (by omega)⟩
end Go.Proofs.Ytpidofgmbjkbiaa

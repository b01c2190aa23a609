/-
  The Writer beside a row of bits of the document's.
-/
import Derived.Test.YtklocjmhembbfaaBitW
import Derived.Test.YtklocjmhembbfaaOpsDef
namespace Go.Proofs.Ytklocjmhembbfaa
open Go.RowKit

theorem ownS_obj {w : World} {B : Nat} {v : Value} {l : List Bool} (h : OwnS w B v l) : ∃ g c cur, v = .slice (some ⟨g, 0, none⟩) l.length c ∧ B ≤ g ∧ w.heap[g]? = some (.cells cur 4 (0, 0)) := by
  obtain ⟨ho, g, c, rfl⟩ := h
  rcases ho.2 with ⟨h', _⟩ | ⟨g', cap', cur, h', hb, hg, _⟩
  · simp at h'
  · simp only [Value.slice.injEq, Option.some.injEq, Addr.mk.injEq, and_true, true_and] at h'
    obtain ⟨rfl, rfl⟩ := h'
    exact ⟨g, c, cur, rfl, hb, hg⟩
theorem own_type {w : World} {b g : Nat} {v : Value} {F : List UInt8} {cur : Array Value} {t : TypeId} {fr : Nat × Nat} (h : OwnB w b v F) (hg : w.heap[g]? = some (.cells cur t fr)) (ht : t ≠ 5) : some g ≠ v.ownBlock := fun he => by
  rcases h.2 with ⟨h1, _⟩ | ⟨g', cp, cur', h1, _, h3, _⟩
  · rw [h1] at he; simp [Value.ownBlock] at he
  · rw [h1] at he
    simp [Value.ownBlock] at he
    subst he
    rw [hg] at h3
    simp at h3
    exact ht h3.2.1
theorem WAtG.at {w : World} {b N T : Nat} {G : List (Nat × Obj)} (h : WAtG w b N T G) : WAt w b N T := by
  obtain ⟨v, F, q, h0, hw, h1, h2, h3, h4, _⟩ := h
  exact ⟨v, F, q, h0, hw, h1, h2, h3, h4⟩
theorem OwnS.move {w w' : World} {B g c : Nat} {l : List Bool} (ho : OwnS w B (.slice (some ⟨g, 0, none⟩) l.length c) l) (hg : w'.heap[g]? = w.heap[g]?) : OwnS w' B (.slice (some ⟨g, 0, none⟩) l.length c) l := by
  refine ⟨⟨ho.1.1, ?_⟩, g, c, rfl⟩
  rcases ho.1.2 with ⟨h', _⟩ | ⟨g', cap', cur', h', hb', hg', hr⟩
  · simp at h'
  · have h'' := h'
    simp only [Value.slice.injEq, Option.some.injEq, Addr.mk.injEq, and_true, true_and] at h''
    obtain ⟨rfl, rfl⟩ := h''
    exact .inr ⟨g, c, cur', rfl, hb', by rw [hg, hg'], hr⟩
/-- How the writer and the document's bits stand. -/
structure WSt (w0 : World) (b : Nat) (wr : World) (v : Value) (l : List Bool) (N T : Nat) : Prop where
  wat : WAt wr b N T
  own : OwnS wr (b + 1) v l
  bel : Below b w0 wr
theorem WSt.below {w0 : World} {b : Nat} {wr w' : World} {v : Value} {l : List Bool} {N T : Nat} (h : WSt w0 b wr v l N T) (hb : Below wr.heap.size wr w') : WSt w0 b w' v l N T :=
  ⟨h.wat.below hb, ⟨h.own.1.below hb, h.own.2⟩, h.bel.trans (hb.mono (Nat.le_of_lt h.wat.lt))⟩
theorem WSt.toG {w0 : World} {b : Nat} {w : World} {v : Value} {l : List Bool} {N T q : Nat} {kd n : Int} {x : Nat} {tx : ByteArray} (h : WSt w0 b w v l N T) (hq : OBox w q kd n x tx) (hqb : q ≠ b) :
    ∃ G, WAtG w b N T G ∧ (∀ p ∈ G, ∀ cur fr, p.2 ≠ .cells cur 5 fr) ∧ ∀ (w' : World) (N' T' : Nat), WAtG w' b N' T' G → Below b w w' → (WSt w0 b w' v l N' T' ∧ OBox w' q kd n x tx) := by
  obtain ⟨g, c, cur, hv, hb, hg⟩ := ownS_obj h.own
  obtain ⟨v0, F, q0, h0, hw, h1, h2, h3, h4⟩ := h.wat
  refine ⟨[(g, .cells cur 4 (0, 0)), (q, .cells #[.int .i64 kd, .int .i64 n, .int .u32 (x : Int), .string tx] 30 (0, 0))], ⟨v0, F, q0, h0, hw, h1, h2, h3, h4, ?_⟩, ?_, ?_⟩
  · intro p hp
    simp only [List.mem_cons, List.not_mem_nil, or_false] at hp
    rcases hp with rfl | rfl
    · exact ⟨own_type hw.own hg (by decide), hg, by show g ≠ b; omega⟩
    · exact ⟨own_type hw.own hq (by decide), hq, hqb⟩
  · intro p hp cur' fr
    simp only [List.mem_cons, List.not_mem_nil, or_false] at hp
    rcases hp with rfl | rfl <;> simp
  · intro w' N' T' hG hbl
    obtain ⟨v1, F1, q1, h1', hw1, k1, k2, k3, k4, hGG⟩ := hG
    have e1 := (hGG (g, .cells cur 4 (0, 0)) (by simp)).2.1
    have e2 := (hGG (q, .cells #[.int .i64 kd, .int .i64 n, .int .u32 (x : Int), .string tx] 30 (0, 0)) (by simp)).2.1
    refine ⟨⟨⟨v1, F1, q1, h1', hw1, k1, k2, k3, k4⟩, ?_, h.bel.trans hbl⟩, e2⟩
    subst hv
    exact h.own.move (e1.trans hg.symm)
theorem ws_bits (w0 : World) (b N T x n q : Nat) (kd nn : Int) (xx : Nat) (tx : ByteArray) (v : Value) (l : List Bool) (w : World) (h : WSt w0 b w v l N T) (hq : OBox w q kd nn xx tx) (hqb : q ≠ b) (hT : T ≤ 1000000000) (hn : n ≤ 32) (hx : x < 4294967296) :
    Calls Try.prog 23 #[.pointer (some ⟨b, 0, none⟩), .int .u32 x, .int .i64 n] w fun e w' => e = .returned (.tuple #[]) ∧ WSt w0 b w' v l (N + 2 ^ T * (x % 2 ^ n)) (T + n) ∧ OBox w' q kd nn xx tx := by
  obtain ⟨G, hG, _, hback⟩ := h.toG hq hqb
  refine (wbits_g b N T x n G w hG hT hn hx).mono ?_
  rintro e w' ⟨rfl, h1, h2⟩
  exact ⟨rfl, hback _ _ _ h1 h2⟩
theorem ws_code (w0 : World) (b N T x n q : Nat) (kd nn : Int) (xx : Nat) (tx : ByteArray) (v : Value) (l : List Bool) (w : World) (h : WSt w0 b w v l N T) (hq : OBox w q kd nn xx tx) (hqb : q ≠ b) (hT : T ≤ 1000000000) (hn : n ≤ 32) (hn1 : 1 ≤ n) (hx : x < 4294967296) :
    Calls Try.prog 25 #[.pointer (some ⟨b, 0, none⟩), .int .u32 x, .int .i64 n] w fun e w' => e = .returned (.tuple #[]) ∧ WSt w0 b w' v l (N + 2 ^ T * (rev32 x / 2 ^ (32 - n))) (T + n) ∧ OBox w' q kd nn xx tx := by
  obtain ⟨G, hG, _, hback⟩ := h.toG hq hqb
  refine (wcode_g b N T x n G w hG hT hn hn1 hx).mono ?_
  rintro e w' ⟨rfl, h1, h2⟩
  exact ⟨rfl, hback _ _ _ h1 h2⟩
theorem ws_align (w0 : World) (b N T q : Nat) (kd nn : Int) (xx : Nat) (tx : ByteArray) (v : Value) (l : List Bool) (w : World) (h : WSt w0 b w v l N T) (hq : OBox w q kd nn xx tx) (hqb : q ≠ b) (hT : T ≤ 1000000000) :
    Calls Try.prog 27 #[.pointer (some ⟨b, 0, none⟩)] w fun e w' => e = .returned (.tuple #[]) ∧ WSt w0 b w' v l N ((T + 7) / 8 * 8) ∧ OBox w' q kd nn xx tx := by
  obtain ⟨G, hG, _, hback⟩ := h.toG hq hqb
  refine (walign_g b N T G w hG hT).mono ?_
  rintro e w' ⟨rfl, h1, h2⟩
  exact ⟨rfl, hback _ _ _ h1 h2⟩
theorem ws_bytes (w0 : World) (b N T q : Nat) (kd nn : Int) (xx : Nat) (tx : ByteArray) (s : ByteArray) (v : Value) (l : List Bool) (w : World) (h : WSt w0 b w v l N T) (hq : OBox w q kd nn xx tx) (hqb : q ≠ b) (hT : T ≤ 1000000000) (hs : s.size ≤ 1000000000) :
    Calls Try.prog 28 #[.pointer (some ⟨b, 0, none⟩), .string s] w fun e w' => e = .returned (.tuple #[]) ∧ WSt w0 b w' v l (N + 2 ^ ((T + 7) / 8 * 8) * le s.data.toList) ((T + 7) / 8 * 8 + 8 * s.size) ∧ OBox w' q kd nn xx tx := by
  obtain ⟨G, hG, hH, hback⟩ := h.toG hq hqb
  refine (wbytes_g b N T s G w hG hH hT hs).mono ?_
  rintro e w' ⟨rfl, h1, h2⟩
  exact ⟨rfl, hback _ _ _ h1 h2⟩
/-- The row of bits has grown. -/
theorem WSt.grown {w0 : World} {b : Nat} {w w1 : World} {v v' : Value} {l m : List Bool} {N T : Nat} (h : WSt w0 b w v l N T) (hg : w.grownBy w1 v.ownBlock)
    (hown : w1.ownsRow (b + 1) 4 1 v' (l.length + m.length) (boolsV l ++ boolsV m)) (hnil : v' ≠ .slice none 0 0) : WSt w0 b w1 v' (l ++ m) N T := by
  obtain ⟨g, c, cur, rfl, hb, hgc⟩ := ownS_obj h.own
  obtain ⟨v0, F, q0, h0, hw, h1, h2, h3, h4⟩ := h.wat
  have hown' : OwnL w1 (b + 1) v' (l ++ m) := by
    unfold OwnL
    rw [boolsV_app, List.length_append]
    exact hown
  refine ⟨⟨v0, F, q0, h0, ⟨?_, ?_⟩, h1, h2, h3, h4⟩, ⟨hown', ?_⟩, ?_⟩
  · rw [hg.block b hw.lt (by simp [Value.ownBlock]; omega)]
    exact hw.box
  · refine ⟨hw.own.1, ?_⟩
    rcases hw.own.2 with k0 | ⟨g5, cap5, cur5, k1, k2, k3, k4⟩
    · exact .inl k0
    · have hne : some g5 ≠ (Value.slice (some ⟨g, 0, none⟩) l.length c).ownBlock := fun he => by
        simp [Value.ownBlock] at he
        subst he
        rw [hgc] at k3
        simp at k3
      exact .inr ⟨g5, cap5, cur5, k1, k2, by rw [hg.block g5 (Array.getElem?_eq_some_iff.1 k3).1 hne]; exact k3, k4⟩
  · rcases hown'.2 with ⟨k1, _⟩ | ⟨g', cap', cur', k1, _⟩
    · exact absurd k1 hnil
    · exact ⟨g', cap', k1⟩
  · exact h.bel.grown hg (Nat.le_of_lt hw.lt) (fun k hk => by simp [Value.ownBlock] at hk; omega)
/-- Another row of bits in its place. -/
theorem WSt.swap {w0 : World} {b : Nat} {w : World} {v v' : Value} {l l' : List Bool} {N T B : Nat} (h : WSt w0 b w v l N T) (ho : OwnS w B v' l') (hB : b + 1 ≤ B) : WSt w0 b w v' l' N T := by
  refine ⟨h.wat, ⟨⟨ho.1.1, ?_⟩, ho.2⟩, h.bel⟩
  rcases ho.1.2 with k0 | ⟨g', cap', cur', k1, k2, k3⟩
  · exact .inl k0
  · exact .inr ⟨g', cap', cur', k1, by omega, k3⟩
end Go.Proofs.Ytklocjmhembbfaa

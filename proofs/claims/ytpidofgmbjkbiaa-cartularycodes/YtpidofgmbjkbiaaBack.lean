/-
  HuffBack: symbols whose codes are written are read back: the walk.
-/
import Derived.Test.YtpidofgmbjkbiaaBackM
import Derived.Test.YtpidofgmbjkbiaaBitC
namespace Go.Proofs.Ytpidofgmbjkbiaa
open Go.RowKit

def symV (P : List Nat) : List Value := P.map fun (s : Nat) => Value.int .i64 (s : Int)
theorem symV_len (P : List Nat) : (symV P).length = P.length := by simp [symV]
theorem symV_app (A B : List Nat) : symV (A ++ B) = symV A ++ symV B := by simp [symV]
theorem symV_at (P : List Nat) (j : Nat) (h : j < P.length) : (symV P)[j]? = some (.int .i64 (P[j] : Int)) := by simp [symV, h]
/-- The list of symbols so far. -/
def OwnI (w : World) (B : Nat) (v : Value) (P : List Nat) : Prop := w.ownsRow B 3 1 v P.length (symV P) ∧ ∃ g c, v = .slice (some ⟨g, 0, none⟩) P.length c
theorem ownI_obj {w : World} {B : Nat} {v : Value} {P : List Nat} (h : OwnI w B v P) : ∃ g c cur, v = .slice (some ⟨g, 0, none⟩) P.length c ∧ B ≤ g ∧ w.heap[g]? = some (.cells cur 3 (0, 0)) := by
  obtain ⟨ho, g, c, rfl⟩ := h
  rcases ho.2 with ⟨h', _⟩ | ⟨g', cap', cur, h', hb, hg, _⟩
  · simp at h'
  · simp only [Value.slice.injEq, Option.some.injEq, Addr.mk.injEq, and_true, true_and] at h'
    obtain ⟨rfl, rfl⟩ := h'
    exact ⟨g, c, cur, rfl, hb, hg⟩
theorem OwnI.move {w w' : World} {B g c : Nat} {P : List Nat} (ho : OwnI w B (.slice (some ⟨g, 0, none⟩) P.length c) P) (hg : w'.heap[g]? = w.heap[g]?) : OwnI w' B (.slice (some ⟨g, 0, none⟩) P.length c) P := by
  refine ⟨⟨ho.1.1, ?_⟩, g, c, rfl⟩
  rcases ho.1.2 with ⟨h', _⟩ | ⟨g', cap', cur', h', hb', hg', hr⟩
  · simp at h'
  · have h'' := h'
    simp only [Value.slice.injEq, Option.some.injEq, Addr.mk.injEq, and_true, true_and] at h''
    obtain ⟨rfl, rfl⟩ := h''
    exact .inr ⟨g, c, cur', rfl, hb', by rw [hg, hg'], hr⟩
theorem own_type {w : World} {b g : Nat} {v : Value} {F : List UInt8} {cur : Array Value} {t : TypeId} {fr : Nat × Nat} (h : OwnB w b v F) (hg : w.heap[g]? = some (.cells cur t fr)) (ht : t ≠ 5) : some g ≠ v.ownBlock := fun he => by
  rcases h.2 with ⟨h1, _⟩ | ⟨g', cp, cur', h1, _, h3, _⟩
  · rw [h1] at he; simp [Value.ownBlock] at he
  · rw [h1] at he
    simp [Value.ownBlock] at he
    subst he
    rw [hg] at h3
    simp at h3
    exact ht h3.2.1
/-- How writer and list stand. -/
structure BSt (w w2 : World) (bw : Nat) (wr : World) (v : Value) (P : List Nat) (N T : Nat) : Prop where
  wat : WAt wr bw N T
  own : OwnI wr (bw + 1) v P
  b1 : Below w.heap.size w wr
  b2 : Below w2.heap.size w2 wr
theorem BSt.below {w w2 : World} {bw : Nat} {wr w' : World} {v : Value} {P : List Nat} {N T : Nat} (h : BSt w w2 bw wr v P N T) (hb : Below wr.heap.size wr w') : BSt w w2 bw w' v P N T := by
  obtain ⟨g, c, cur, hv, _, hg⟩ := ownI_obj h.own
  subst hv
  exact ⟨h.wat.below hb, h.own.move (hb.block g (Array.getElem?_eq_some_iff.1 hg).1), h.b1.trans (hb.mono h.b1.size), h.b2.trans (hb.mono h.b2.size)⟩
theorem bs_code (w w2 : World) (bw N T x n : Nat) (v : Value) (P : List Nat) (wr : World) (h : BSt w w2 bw wr v P N T) (hw : w.heap.size ≤ bw) (hw2 : w2.heap.size ≤ bw) (hT : T ≤ 1000000000) (hn : n ≤ 32) (hn1 : 1 ≤ n) (hx : x < 4294967296) :
    Calls Try.prog 23 #[.pointer (some ⟨bw, 0, none⟩), .int .u32 x, .int .i64 n] wr fun e w' => e = .returned (.tuple #[]) ∧ BSt w w2 bw w' v P (N + 2 ^ T * turned x n) (T + n) := by
  obtain ⟨g, c, cur, hv, hb, hg⟩ := ownI_obj h.own
  obtain ⟨v0, F, q0, h0, hwb, h1, h2, h3, h4⟩ := h.wat
  have hG : WAtG wr bw N T [(g, .cells cur 3 (0, 0))] := ⟨v0, F, q0, h0, hwb, h1, h2, h3, h4, fun p hp => by
    simp only [List.mem_cons, List.not_mem_nil, or_false] at hp
    subst hp
    exact ⟨own_type hwb.own hg (by decide), hg, by show g ≠ bw; omega⟩⟩
  refine (wcode_g bw N T x n _ wr hG hT hn hn1 hx).mono ?_
  rintro e w' ⟨rfl, ⟨v1, F1, q1, h1', hw1, k1, k2, k3, k4, hGG⟩, hbl⟩
  subst hv
  have e1 := (hGG (g, .cells cur 3 (0, 0)) (by simp)).2.1
  exact ⟨rfl, ⟨v1, F1, q1, h1', hw1, k1, k2, k3, k4⟩, h.own.move (e1.trans hg.symm), h.b1.trans (hbl.mono hw), h.b2.trans (hbl.mono hw2)⟩
theorem BSt.push {w w2 : World} {bw : Nat} {wr w1 : World} {v v' : Value} {P : List Nat} {N T s : Nat} {o : Obj} (h : BSt w w2 bw wr v P N T) (hw : w.heap.size ≤ bw) (hw2 : w2.heap.size ≤ bw) (hg : (wr.alloc o).grownBy w1 v.ownBlock)
    (hown : w1.ownsRow (bw + 1) 3 1 v' (P.length + 1) (symV P ++ [.int .i64 (s : Int)])) : BSt w w2 bw w1 v' (P ++ [s]) N T := by
  obtain ⟨g, c, cur, rfl, hb, hgc⟩ := ownI_obj h.own
  obtain ⟨v0, F, q0, h0, hwb, h1, h2, h3, h4⟩ := h.wat
  have hlt := hwb.lt
  have hown' : w1.ownsRow (bw + 1) 3 1 v' (P ++ [s]).length (symV (P ++ [s])) := by
    rw [symV_app, List.length_append]
    exact hown
  have hbel : Below (bw + 1) (wr.alloc o) w1 := (Below.refl _ _).grown hg (by simp; omega) (fun k hk => by simp [Value.ownBlock] at hk; omega)
  refine ⟨⟨v0, F, q0, h0, ⟨?_, ?_⟩, h1, h2, h3, h4⟩, ⟨hown', ?_⟩, ?_, ?_⟩
  · rw [hg.block bw (by simp; omega) (by simp [Value.ownBlock]; omega), Below.heap_alloc wr o bw hlt]
    exact hwb.box
  · refine ⟨hwb.own.1, ?_⟩
    rcases hwb.own.2 with k0 | ⟨g5, cap5, cur5, k1, k2, k3, k4⟩
    · exact .inl k0
    · have hne : some g5 ≠ (Value.slice (some ⟨g, 0, none⟩) P.length c).ownBlock := fun he => by
        simp [Value.ownBlock] at he
        subst he
        rw [hgc] at k3
        simp at k3
      have h5 := (Array.getElem?_eq_some_iff.1 k3).1
      exact .inr ⟨g5, cap5, cur5, k1, k2, by rw [hg.block g5 (by simp; omega) hne, Below.heap_alloc wr o g5 h5]; exact k3, k4⟩
  · rcases hown'.2 with ⟨_, k1⟩ | ⟨g', cap', cur', k1, _⟩
    · simp at k1
    · exact ⟨g', cap', k1⟩
  · exact (h.b1.alloc (by omega) o).trans (hbel.mono (by omega))
  · exact (h.b2.alloc (by omega) o).trans (hbel.mono (by omega))
theorem new_cell (w : World) (v : Value) : ∀ j u, [v][j]? = some u → (w.alloc (.cells #[v] 3)).cell? ((⟨w.heap.size, 0, none⟩ : Addr).add j) = some u := by
  intro j u hj
  match j, hj with
  | 0, hj => simp at hj; subst hj; simp [Addr.add]
theorem BSt.new (w w2 w3 : World) (h1 : Below w.heap.size w w3) (h2 : Below w2.heap.size w2 w3) :
    BSt w w2 w3.heap.size ((w3.alloc (.cells #[.slice none 0 0, .int .u64 0, .int .i64 0] 52)).alloc (.cells #[] 3)) (.slice (some ⟨w3.heap.size + 1, 0, none⟩) 0 0) [] 0 0 := by
  have a1 := WAt.new w3
  have a2 := own_start (w3.alloc (.cells #[.slice none 0 0, .int .u64 0, .int .i64 0] 52))
  have hsz : (w3.alloc (.cells #[.slice none 0 0, .int .u64 0, .int .i64 0] 52)).heap.size = w3.heap.size + 1 := by simp
  rw [hsz] at a2
  exact ⟨a1.below ((Below.refl _ _).alloc (Nat.le_refl _) _), ⟨a2, _, _, rfl⟩, (h1.alloc h1.size _).alloc (by rw [hsz]; have := h1.size; omega) _, (h2.alloc h2.size _).alloc (by rw [hsz]; have := h2.size; omega) _⟩
theorem ownI_cell {wr w' : World} {B g c : Nat} {P : List Nat} {cur : Array Value} (ho : OwnI wr B (.slice (some ⟨g, 0, none⟩) P.length c) P) (hg : wr.heap[g]? = some (.cells cur 3 (0, 0))) (hg' : w'.heap[g]? = some (.cells cur 3 (0, 0))) (j : Nat) (hj : j < P.length) : w'.cell? ⟨g, 0 + j, none⟩ = some (.int .i64 (P[j] : Int)) := by
  have := World.ownsRow.cells (g := g) (ho.move (hg'.trans hg.symm)).1 rfl j _ (symV_at P j hj)
  rwa [Addr.add_lit] at this
theorem tT_all (ln : Nat → Nat) (P : List Nat) (k : Nat) : tT ln (P.take k) ≤ tT ln P := by
  have h := tT_app ln (P.take k) (P.drop k)
  rw [List.take_append_drop] at h
  omega

set_option maxRecDepth 20000 in
set_option maxHeartbeats 4000000 in
theorem back_walk (a a2 : Option Addr) (len cap len2 cap2 : Nat) (f f2 : Nat → Int) (w : World) (hf : IntsAt w a len .i64 f) (hn : a = none → len = 0 ∧ cap = 0) (hcap : len ≤ cap) (hf2 : IntsAt w a2 len2 .i64 f2) :
    Calls Try.prog 5 #[.slice a len cap, .slice a2 len2 cap2] w fun e w' => e = .returned (.bool true) ∧ Below w.heap.size w w' := by
  obtain ⟨i0, hi, hz0, hz1, hz2⟩ := info_parts Try.info3
  have hlen2 : len2 ≤ 9223372036854775807 := by have := hf2.1; unfold maxLen at this; omega
  have HF := hidM hf
  have HN := hidM hn
  have HCAP := hidM hcap
  have HF2 := hidM hf2
  obtain ⟨m, hm⟩ : ∃ m, m = min len 400 := ⟨_, rfl⟩
  have HM := hidM hm
  have m400 : m ≤ 400 := by omega
  clear hf hn hcap hm hf2
  go_enter Try.func5, Try.ntmps5
  go_wp2_with fail
  refine (few_any a len cap m f w HF.out HM.out HN.out HCAP.out).mono ?_
  rintro e w1 ⟨⟨a1, c1, rfl, hf1⟩, hb1⟩
  have HF1 := hidM hf1
  have HB1 := hidM hb1
  clear hf1 hb1
  go_wp2_with fail
  refine (new_any a1 m c1 f w1 HF1.out).mono ?_
  rintro e w2 ⟨hp, hb2⟩
  have HB2 : Hid (Below w.heap.size w w2) := HB1.out.trans (hb2.mono HB1.out.size)
  clear hb2
  have hcase : (∃ r : Int, r ≠ 0 ∧ e = .returned (.tuple #[.pointer none, .int .i64 r])) ∨ (m ≤ 320 ∧ ∃ ln b, (∀ i, ln i ≤ 15) ∧ Fit ln m ∧ e = .returned (.tuple #[.pointer (some ⟨b, 0, none⟩), .int .i64 0]) ∧ Tab w2 b ln m) := by
    rcases hp with ⟨_, he⟩ | ⟨_, _, he⟩ | ⟨h3, ln, _, h15, ⟨_, he⟩ | ⟨hfit, b, he, ht⟩⟩
    · exact .inl ⟨2, by decide, he⟩
    · exact .inl ⟨1, by decide, he⟩
    · exact .inl ⟨4, by decide, he⟩
    · exact .inr ⟨h3, ln, b, h15, hfit, he, ht⟩
  clear hp
  rcases hcase with ⟨r, hr, rfl⟩ | ⟨h320, ln, b, h15, hfit, rfl, htab⟩
  · have hrb : (r != 0) = true := by simpa using hr
    go_wp2_with fail
    refine (hawake_any w2).mono ?_
    rintro e w3 ⟨rfl, hb3⟩
    have HB3 : Hid (Below w.heap.size w w3) := HB2.out.trans (hb3.mono HB2.out.size)
    clear hb3
    go_wp2
    go_ret
    exact ⟨rfl, HB3.out⟩
  · have H15 := hidM h15
    have HKR := hidM hfit.le
    have HT := hidM htab
    clear h15 hfit htab
    have HS0 := hidM (BSt.new w w2 w2 HB2.out (Below.refl _ _))
    have HW := hidM HB2.out.size
    go_wp2
    generalize hbw : w2.heap.size = bw at *
    have HBW := hidM hbw
    have HW2 : Hid (w2.heap.size ≤ bw) := by unfold Hid; rw [hbw]; exact Nat.le_refl _
    clear hbw
    go_loopw [8, 9, 10, 11] (fun v i _ _ wr => ∃ (k : Nat) (P : List Nat), k ≤ len2 ∧ k ≤ 200 ∧ i = .int .i64 k ∧ P.length ≤ k ∧ Good ln m P ∧ BSt w w2 bw wr v P (nN ln m P) (tT ln P)) (fun _ i _ _ _ => 200 - (intOf i).toNat)
    case atStart => exact ⟨0, [], Nat.zero_le _, by decide, rfl, Nat.le_refl _, fun x hx => by simp at hx, HS0.out⟩
    case round =>
      obtain ⟨k, P, hk, hk200, rfl, hPk, hgood, hbs⟩ := hrel
      have HG := hidM hgood
      have HS := hidM hbs
      clear hgood hbs HS0
      by_cases hlt : k < len2 ∧ k < 200
      · obtain ⟨hl1, hl2⟩ := hlt
        obtain ⟨bb, off, rfl, hc⟩ := (HF2.out.below HS.out.b1).get k hl1
        have HBN := bounds_i64 (HF2.out.2.1 k)
        generalize f2 k = c at *
        have HTW : Hid (Tab wr b ln m) := HT.out.below HS.out.b2
        by_cases hin : 0 ≤ c ∧ c < (m : Int)
        · obtain ⟨s, rfl⟩ : ∃ s : Nat, c = (s : Int) := ⟨c.toNat, by omega⟩
          have hsm : s < m := by omega
          clear hin HBN
          go_wp2_with fail
          refine (code_in b s ln m wr HTW.out hsm).mono ?_
          rintro e w4 ⟨rfl, hb4⟩
          have HS4 := hidM (HS.out.below hb4)
          have hs15 := H15.out s
          have HC32 := hidM (code32 ln m s H15.out HKR.out hsm)
          have HTT : Hid (tT ln P ≤ 3000) := by have := tT_le ln H15.out P; unfold Hid; omega
          obtain ⟨x, hx⟩ : ∃ x, x = codeC ln m s := ⟨_, rfl⟩
          obtain ⟨n, hn⟩ : ∃ n, n = ln s := ⟨_, rfl⟩
          rw [← hx, ← hn]
          rw [← hn] at hs15
          have HX := hidM hx
          have HNN := hidM hn
          have hxx : x < 4294967296 := by rw [hx]; exact HC32.out.2
          have hc4 : w4.cell? ⟨bb, off + k, none⟩ = some (.int .i64 (s : Int)) := by
            have := (HF2.out.below HS4.out.b1).get k hl1
            obtain ⟨b', o', he, hd⟩ := this
            simp only [Option.some.injEq, Addr.mk.injEq, and_true] at he
            obtain ⟨rfl, rfl⟩ := he
            have hh := hb4.cell (p := ⟨bb, off + k, none⟩) (World.block_lt_of_cell? wr _ hc)
            rw [hh, hc]
          clear hb4 hx hn hc HTW HS
          by_cases hn0 : 0 < n
          · go_wp2_with fail
            refine (bs_code w w2 bw _ _ x n _ P w4 HS4.out HW.out HW2.out (by have := HTT.out; omega) (by omega) hn0 hxx).mono ?_
            rintro e w5 ⟨rfl, hbs5⟩
            have HS5 := hidM hbs5
            have hc5 : w5.cell? ⟨bb, off + k, none⟩ = some (.int .i64 (s : Int)) := by
              obtain ⟨b', o', he, hd⟩ := (HF2.out.below hbs5.b1).get k hl1
              obtain ⟨b'', o'', he', hd'⟩ := (HF2.out.below HS4.out.b1).get k hl1
              simp only [Option.some.injEq, Addr.mk.injEq, and_true] at he he'
              obtain ⟨rfl, rfl⟩ := he
              rw [hd, ← hd']
              obtain ⟨rfl, rfl⟩ := he'
              exact hc4
            have HSZ : Hid (bw + 1 ≤ w5.heap.size) := HS5.out.wat.lt
            have HPL : Hid (P.length ≤ 200) := by unfold Hid; omega
            clear hbs5 hc4
            go_wp2_with (first
              | (at_builtin; refine wpList_append_own _ rfl _ _ 22 rfl (bw + 1) 3 i0 (.int .i64 0) 1 8 Try.underlying22 hi hz0 hz1 hz2 rfl (by decide) _ _ _ rfl (World.ownsRow.alloc HS5.out.own.1 _) ⟨w5.heap.size, 0, none⟩ 1 1 [.int .i64 (s : Int)] ?c0 rfl ?c1 ?c2 ?c3 ?c4 ?c5 ?_))
            case c0 => rfl
            case c1 => exact new_cell w5 _
            case c2 => intro u hu; simp at hu; subst hu; rfl
            case c3 => have := HPL.out; unfold maxLen; omega
            case c4 => have := HPL.out; omega
            case c5 => have := HSZ.out; simp; omega
            intro v' w6 hown hgr _
            have HS6 : Hid (BSt w w2 bw w6 v' (P ++ [s]) (nN ln m (P ++ [s])) (tT ln (P ++ [s]))) := by
              have h1 := HS5.out.push (s := s) HW.out HW2.out hgr hown
              unfold Hid
              rw [nN_app, tT_app]
              simp only [nN, tT, Nat.mul_zero, Nat.add_zero, ← HX.out, ← HNN.out]
              exact h1
            have HG6 : Hid (Good ln m (P ++ [s])) := fun y hy => by
              rcases List.mem_append.1 hy with h | h
              · exact HG.out y h
              · simp at h; subst h; exact ⟨hsm, by rw [← HNN.out]; exact hn0⟩
            clear hown hgr hc5
            go_wp2
            go_roundw
            case rel => exact ⟨k + 1, P ++ [s], by omega, by omega, by go_num, by simp; omega, HG6.out, HS6.out⟩
            case measure => simp [intOf]; omega
          · have hn00 : n = 0 := by omega
            subst hn00
            go_wp2
            go_roundw
            case rel => exact ⟨k + 1, P, by omega, by omega, by go_num, by omega, HG.out, HS4.out⟩
            case measure => simp [intOf]; omega
        · go_wp2_with fail
          refine (code_out b c ln m wr HTW.out (by omega)).mono ?_
          rintro e w4 ⟨rfl, rfl⟩
          clear hin HBN HTW
          go_wp2
          go_roundw
          case rel => exact ⟨k + 1, P, by omega, by omega, by go_num, by omega, HG.out, HS.out⟩
          case measure => simp [intOf]; omega
      · have HPL : Hid (P.length ≤ 200) := by unfold Hid; omega
        have HTT : Hid (tT ln P ≤ 3000) := by have := tT_le ln H15.out P; unfold Hid; omega
        obtain ⟨g, cc, cur, rfl, hgb, hgc⟩ := ownI_obj HS.out.own
        have HGB := hidM hgb
        have HGC := hidM hgc
        have HCELL : Hid (∀ w' : World, w'.heap[g]? = some (.cells cur 3 (0, 0)) → ∀ j (hj : j < P.length), w'.cell? ⟨g, 0 + j, none⟩ = some (.int .i64 (P[j] : Int))) := fun w' hw' j hj => ownI_cell HS.out.own hgc hw' j hj
        clear hgb hgc
        obtain hq | ⟨hq, hq'⟩ : ¬ k < len2 ∨ (k < len2 ∧ ¬ k < 200) := by omega
        all_goals
          go_wp2_with fail
          refine (wtext_at bw (nN ln m P) (tT ln P) wr HS.out.wat (by have := HTT.out; omega)).mono ?_
          rintro e w3 ⟨⟨s, rfl, hle, hsz⟩, hb3⟩
          have HLE := hidM hle
          have HSZ := hidM hsz
          have HB3 := hidM hb3
          clear hle hsz hb3
          go_wp2_with fail
          refine (newR_any s w3 (by have := HSZ.out; have := HTT.out; omega)).mono ?_
          rintro e w4 ⟨rfl, hr4, hb4⟩
          have HR4 := hidM hr4
          have HGLT : Hid (g < w3.heap.size) := Nat.lt_of_lt_of_le (Array.getElem?_eq_some_iff.1 HGC.out).1 HB3.out.size
          have HG4 : Hid (w4.heap[g]? = some (.cells cur 3 (0, 0))) := by
            unfold Hid
            rw [hb4.block g HGLT.out, HB3.out.block g (Array.getElem?_eq_some_iff.1 HGC.out).1]
            exact HGC.out
          have HB14 : Hid (Below w.heap.size w w4) := (HS.out.b1.trans (HB3.out.mono HS.out.b1.size)).trans (hb4.mono (Nat.le_trans HS.out.b1.size HB3.out.size))
          have HB24 : Hid (Below w2.heap.size w2 w4) := (HS.out.b2.trans (HB3.out.mono HS.out.b2.size)).trans (hb4.mono (Nat.le_trans HS.out.b2.size HB3.out.size))
          have HRB1 : Hid (w.heap.size ≤ w3.heap.size) := Nat.le_trans HS.out.b1.size HB3.out.size
          have HRB2 : Hid (w2.heap.size ≤ w3.heap.size) := Nat.le_trans HS.out.b2.size HB3.out.size
          clear hr4 hb4
          generalize w3.heap.size = rb at *
          go_wp2
          go_loopw [14, 15, 16, 64] (fun _ _ _ i wx => ∃ j : Nat, j ≤ P.length ∧ i = .int .i64 j ∧ RBox wx rb s (tT ln (P.take j)) ∧ wx.heap[g]? = some (.cells cur 3 (0, 0)) ∧ Below w.heap.size w wx ∧ Below w2.heap.size w2 wx) (fun _ _ _ i _ => P.length - (intOf i).toNat)
          case atStart => exact ⟨0, Nat.zero_le _, rfl, HR4.out, HG4.out, HB14.out, HB24.out⟩
          case round =>
            obtain ⟨j, hj, rfl, hr, hg, hb1, hb2⟩ := hrel
            have HR := hidM hr
            have HGX := hidM hg
            have HBX1 := hidM hb1
            have HBX2 := hidM hb2
            clear hr hg hb1 hb2
            by_cases hjl : j < P.length
            · have hc := HCELL.out _ HGX.out j hjl
              have hc0 := hc
              rw [Nat.zero_add] at hc0
              have HA := hidM (nN_at ln m H15.out HKR.out P HG.out j hjl)
              have HGS := hidM (HG.out P[j] (List.getElem_mem hjl))
              obtain ⟨l, hl⟩ : ∃ l, tT ln (P.take j) + l = 8 * s.size := ⟨8 * s.size - tT ln (P.take j), by have := tT_all ln P j; have := HSZ.out; omega⟩
              have HL := hidM hl
              clear hl
              have HPJ : Hid (P[j] < 400) := by have := HGS.out.1; unfold Hid; omega
              generalize hpj : P[j] = x at *
              clear hpj
              go_wp2_with fail
              refine (read_any w2 b rb ln m s (tT ln (P.take j)) l _ HT.out HBX2.out HRB2.out HR.out (by have := HSZ.out; have := HTT.out; omega) HL.out h320 H15.out HKR.out).mono ?_
              rintro e w5 ⟨⟨d, hp, hr5⟩, ho⟩
              obtain ⟨rfl, rfl⟩ := read_found ln m _ l x e d H15.out HGS.out.1 HGS.out.2 (by have := HA.out.2.2; have := HSZ.out; have := HL.out; omega) (by rw [HLE.out]; exact HA.out.1) hp
              have HR5 : Hid (RBox w5 rb s (tT ln (P.take (j + 1)))) := by unfold Hid; rw [HA.out.2.1]; exact hr5
              have HG5 : Hid (w5.heap[g]? = some (.cells cur 3 (0, 0))) := (ho.block g (by have := HGLT.out; omega)).trans HGX.out
              have HB51 : Hid (Below w.heap.size w w5) := HBX1.out.trans (ho.below HRB1.out)
              have HB52 : Hid (Below w2.heap.size w2 w5) := HBX2.out.trans (ho.below HRB2.out)
              clear hp hr5 ho
              go_wp2
              go_roundw
              case rel => exact ⟨j + 1, by omega, by go_num, HR5.out, HG5.out, HB51.out, HB52.out⟩
              case measure => simp [intOf]; omega
            · go_wp2_with fail
              refine (hawake_any _).mono ?_
              rintro e w6 ⟨rfl, hb6⟩
              have HB6 : Hid (Below w.heap.size w w6) := HBX1.out.trans (hb6.mono HBX1.out.size)
              clear hb6
              go_wp2
              go_ret
              exact ⟨rfl, HB6.out⟩
end Go.Proofs.Ytpidofgmbjkbiaa

/-
  BitinWrites: any row of calls puts just the bits that the document says: the walk.
-/
import Derived.Test.YtklocjmhembbfaaWritesA
import Derived.OpenShut
import Derived.Deep.CutBlock
import Derived.Deep.CutRange
namespace Go.Proofs.Ytklocjmhembbfaa
open Go.RowKit

theorem text_eq (s t : ByteArray) (h : le s.data.toList = le t.data.toList) (hs : s.size = t.size) : s = t := by
  apply ByteArray.ext
  apply Array.ext'
  exact le_inj _ _ (by simpa using hs) h
theorem news_of {w : World} {B g n c : Nat} {l : List Bool} (h : OwnL w B (.slice (some ⟨g, 0, none⟩) n c) l) : ∀ j u, (boolsV l)[j]? = some u → w.cell? ((⟨g, 0, none⟩ : Addr).add j) = some u :=
  fun j u hu => World.ownsRow.cells (g := g) h rfl j u hu
theorem one_bools (l : List Bool) : ∀ u ∈ boolsV l, u.oneCell' = true := by
  intro u hu
  simp only [boolsV, List.mem_map] at hu
  obtain ⟨c, _, rfl⟩ := hu
  rfl
theorem bool_not_nil {v' v : Value} {m : Nat} (h : v' = .slice none 0 0 ↔ v = .slice none 0 0 ∧ m = 0) {g n c : Nat} (hv : v = .slice (some ⟨g, 0, none⟩) n c) : v' ≠ .slice none 0 0 := fun he => by
  have := (h.1 he).1
  rw [hv] at this
  simp at this

set_option maxRecDepth 40000 in
set_option maxHeartbeats 4000000 in
theorem writes_walk (a : Option Addr) (len cap : Nat) (f : Nat → OpV) (w : World) (hf : OpsAt w a len f) :
    Calls Try.prog 4 #[.slice a len cap] w fun e w' => e = .returned (.bool true) ∧ Below w.heap.size w w' := by
  obtain ⟨i0, hi, hz0, hz1, hz2⟩ := info_parts Try.info4
  have hlen : len ≤ 9223372036854775807 := by have := hf.1; unfold maxLen at this; omega
  have HF := hidM hf
  clear hf
  obtain ⟨b, hb⟩ : ∃ b, b = w.heap.size := ⟨_, rfl⟩
  have HBE := hidM hb
  have HW0 : Hid (WSt w b ((w.alloc (.cells #[.slice none 0 0, .int .u64 0, .int .i64 0] 47)).alloc (.cells #[] 4)) (.slice (some ⟨b + 1, 0, none⟩) 0 0) [] 0 0) := by
    have h1 := WAt.new w
    have h2 := ownS_empty (w.alloc (.cells #[.slice none 0 0, .int .u64 0, .int .i64 0] 47))
    have hbl : Below b w (w.alloc (.cells #[.slice none 0 0, .int .u64 0, .int .i64 0] 47)) := by rw [hb]; exact (Below.refl _ _).alloc (Nat.le_refl _) _
    have hsz : (w.alloc (.cells #[.slice none 0 0, .int .u64 0, .int .i64 0] 47)).heap.size = b + 1 := by rw [hb]; simp
    rw [hsz] at h2
    rw [← hb] at h1
    exact ⟨h1.below ((Below.refl _ _).alloc (Nat.le_refl _) _), h2, hbl.alloc (by rw [hsz]; omega) _⟩
  rw [← hb]
  go_enter Try.func4, Try.ntmps4
  go_wp2
  simp only [← HBE.out]
  clear hb
  go_loopw [4, 5, 6, 7] (fun v i _ _ wr => ∃ (k : Nat) (l : List Bool), k ≤ len ∧ k ≤ 100 ∧ i = .int .i64 k ∧ WSt w b wr v l (nb l) l.length ∧ l.length ≤ 1000 * k)
    (fun _ i _ _ _ => 100 - (intOf i).toNat)
  case atStart => exact ⟨0, [], by omega, by omega, rfl, HW0.out, by simp⟩
  case round =>
    obtain ⟨k, l, hk, hk100, rfl, hws, hll⟩ := hrel
    have HS := hidM hws
    clear hws HW0
    by_cases hlt : k < len ∧ k < 100
    · obtain ⟨hl1, hl2⟩ := hlt
      obtain ⟨ba, off, rfl, c0, c1, c2, c3⟩ := HF.out.get (by rw [← HBE.out]; exact HS.out.bel) k hl1
      have hN := (HF.out.2.1 k).2.1
      have hx32 := (HF.out.2.1 k).2.2.1
      generalize (f k).kind = kd at *
      generalize (f k).n = N at *
      generalize (f k).x = x at *
      generalize (f k).text = T at *
      have bN := bounds_i64 hN
      have HQ : Hid (b < wr.heap.size) := HS.out.wat.lt
      have HSA := hidM (HS.out.below (w' := wr.alloc (.cells #[.int .i64 kd, .int .i64 N, .int .u32 (x : Int), .string T] 30)) ((Below.refl _ _).alloc (Nat.le_refl _) _))
      have HOA : Hid (OBox (wr.alloc (.cells #[.int .i64 kd, .int .i64 N, .int .u32 (x : Int), .string T] 30)) wr.heap.size kd N x T) := heap_alloc_new wr _
      clear hN
      go_upto_block 2 with fail
      clear c0 c1 c2 c3
      generalize wr.alloc (.cells #[.int .i64 kd, .int .i64 N, .int .u32 (x : Int), .string T] 30) = wa at *
      generalize wr.heap.size = q at *
      have HQB : Hid (q ≠ b) := by have := HQ.out; unfold Hid; omega
      have o1 := HOA.out.c1
      have o2 := HOA.out.c2
      have o3 := HOA.out.c3
      obtain ⟨L, hL⟩ : ∃ L, L = l.length := ⟨_, rfl⟩
      have HL := hidM hL
      have L5 : L ≤ 100000 := by omega
      obtain ⟨gv, cv, cuv, hv, _, _⟩ := ownS_obj HSA.out.own
      subst hv
      rw [← hL] at HSA hll
      simp only [← hL]
      clear hL
      go_cut [4, 7] from 9 to 92 (fun s4 _ wx => ∃ l' : List Bool, WSt w b wx s4 l' (nb l') l'.length ∧ l'.length ≤ 1000 * (k + 1))
      case first =>
        by_cases hk0 : kd = 0
        · subst hk0
          by_cases hN : N < 0 ∨ 32 < N
          · as_aux_lemma =>
              rcases hN with hN | hN
              · go_wp2_with fail
                refine (wbits_bad _ x N _ (.inl hN)).mono ?_
                rintro e v1 ⟨rfl, rfl⟩
                go_wp2_with fail
                go_meet
                case rel => exact ⟨l, by rw [← HL.out]; exact HSA.out, by rw [← HL.out]; omega⟩
              · go_wp2_with fail
                refine (wbits_bad _ x N _ (.inr hN)).mono ?_
                rintro e v1 ⟨rfl, rfl⟩
                go_wp2_with fail
                go_meet
                case rel => exact ⟨l, by rw [← HL.out]; exact HSA.out, by rw [← HL.out]; omega⟩
          · obtain ⟨n, rfl⟩ : ∃ n : Nat, N = (n : Int) := ⟨N.toNat, by omega⟩
            have hn32 : n ≤ 32 := by omega
            clear hN
            as_aux_lemma =>
              go_wp2_with fail
              refine (ws_bits w b (nb l) L x n q _ _ _ _ _ l _ HSA.out HOA.out HQB.out (by omega) hn32 hx32).mono ?_
              rintro e v1 ⟨rfl, hs1, ho1⟩
              have HS1 := hidM hs1
              have p1 := ho1.c1
              have p2 := ho1.c2
              clear hs1 ho1 o1 o2 o3
              go_wp2_with fail
              refine (low_any x n v1 hx32 (by omega)).mono ?_
              rintro e v2 ⟨⟨vl, l2, rfl, how, hl2n, hl2v⟩, hb2⟩
              have HS2 := hidM (HS1.out.below hb2)
              obtain ⟨ho2, g2, c2, rfl⟩ := how
              rw [hl2n]
              have HO2 := hidM ho2
              rw [hl2n] at HO2
              have HN2 := hidM hl2n
              have HV2 := hidM hl2v
              have HSZ : Hid (b + 1 ≤ v2.heap.size) := HS2.out.wat.lt
              have HOW : Hid (v2.ownsRow (b + 1) 4 1 (.slice (some ⟨gv, 0, none⟩) L cv) L (boolsV l)) := by have := HS2.out.own.1; unfold OwnL at this; rw [← HL.out] at this; exact this
              clear ho2 hl2n hl2v hb2 p1 p2
              go_wp2_with (first
                | (at_builtin; refine wpList_append_own _ rfl _ _ 26 rfl (b + 1) 4 i0 (.bool false) 1 1 Try.underlying26 hi hz0 hz1 hz2 rfl (by decide) _ _ _ rfl HOW.out ⟨g2, 0, none⟩ n _ (boolsV l2) rfl ?c1 (news_of HO2.out) (one_bools l2) ?c2 ?c3 HSZ.out ?_))
              case c1 => rw [boolsV_len, HN2.out, Nat.mul_one]
              case c2 => unfold maxLen; omega
              case c3 => omega
              intro v' w3 hown hgrow hnil
              have HS3 : Hid (WSt w b w3 v' (l ++ l2) (nb (l ++ l2)) (l ++ l2).length) := by
                have h1 := HS2.out.grown (m := l2) hgrow (by rw [← HL.out, HN2.out]; exact hown) hnil
                unfold Hid
                rw [nb_app, List.length_append, HV2.out, ← HL.out, HN2.out]
                exact h1
              have HLL : Hid ((l ++ l2).length ≤ 1000 * (k + 1)) := by unfold Hid; rw [List.length_append, ← HL.out, HN2.out]; omega
              clear hown hgrow hnil
              go_wp2_with fail
              go_meet
              case rel => exact ⟨l ++ l2, HS3.out, HLL.out⟩
        · by_cases hk1 : kd = 1
          · subst hk1
            by_cases hN : N < 1 ∨ 32 < N
            · as_aux_lemma =>
                rcases hN with hN | hN
                · go_wp2_with fail
                  refine (wcode_bad _ x N _ (.inl hN)).mono ?_
                  rintro e v1 ⟨rfl, rfl⟩
                  go_wp2_with fail
                  go_meet
                  case rel => exact ⟨l, by rw [← HL.out]; exact HSA.out, by rw [← HL.out]; omega⟩
                · go_wp2_with fail
                  refine (wcode_bad _ x N _ (.inr hN)).mono ?_
                  rintro e v1 ⟨rfl, rfl⟩
                  go_wp2_with fail
                  go_meet
                  case rel => exact ⟨l, by rw [← HL.out]; exact HSA.out, by rw [← HL.out]; omega⟩
            · obtain ⟨n, rfl⟩ : ∃ n : Nat, N = (n : Int) := ⟨N.toNat, by omega⟩
              have hn32 : n ≤ 32 := by omega
              have hn1 : 1 ≤ n := by omega
              clear hN
              as_aux_lemma =>
                go_wp2_with fail
                refine (ws_code w b (nb l) L x n q _ _ _ _ _ l _ HSA.out HOA.out HQB.out (by omega) hn32 hn1 hx32).mono ?_
                rintro e v1 ⟨rfl, hs1, ho1⟩
                have HS1 := hidM hs1
                have p1 := ho1.c1
                have p2 := ho1.c2
                clear hs1 ho1 o1 o2 o3
                go_wp2_with fail
                refine (low_any x n v1 hx32 (by omega)).mono ?_
                rintro e v2 ⟨⟨vl, l2, rfl, how, hl2n, hl2v⟩, hb2⟩
                have HS2 := hidM (HS1.out.below hb2)
                obtain ⟨a2, c2, rfl, hba⟩ := how.1.bat
                have HBA := hidM hba
                have HN2 := hidM hl2n
                have HCB := hidM (code_bits x n l2 hl2n hn32 hx32 hl2v)
                clear how hl2n hl2v hb2 hba p1 p2
                go_wp2_with fail
                refine (turn_any a2 c2 l2 v2 (by rw [HN2.out]; omega) HBA.out).mono ?_
                rintro e v3 ⟨⟨vt, rfl, how⟩, hb3⟩
                have HS3 := hidM (HS2.out.below hb3)
                obtain ⟨ho3, g3, c3, rfl⟩ := how
                have hrl : l2.reverse.length = n := by rw [List.length_reverse]; exact HN2.out
                rw [hrl]
                rw [hrl] at ho3
                have HO3 := hidM ho3
                have HN3 := hidM hrl
                have HSZ : Hid (b + 1 ≤ v3.heap.size) := HS3.out.wat.lt
                have HOW : Hid (v3.ownsRow (b + 1) 4 1 (.slice (some ⟨gv, 0, none⟩) L cv) L (boolsV l)) := by have := HS3.out.own.1; unfold OwnL at this; rw [← HL.out] at this; exact this
                clear ho3 hrl hb3
                generalize l2.reverse = l3 at *
                go_wp2_with (first
                  | (at_builtin; refine wpList_append_own _ rfl _ _ 26 rfl (b + 1) 4 i0 (.bool false) 1 1 Try.underlying26 hi hz0 hz1 hz2 rfl (by decide) _ _ _ rfl HOW.out ⟨g3, 0, none⟩ n _ (boolsV l3) rfl ?c1 (news_of HO3.out) (one_bools l3) ?c2 ?c3 HSZ.out ?_))
                case c1 => rw [boolsV_len, HN3.out, Nat.mul_one]
                case c2 => unfold maxLen; omega
                case c3 => omega
                intro v' w3 hown hgrow hnil
                have HS4 : Hid (WSt w b w3 v' (l ++ l3) (nb (l ++ l3)) (l ++ l3).length) := by
                  have h1 := HS3.out.grown (m := l3) hgrow (by rw [← HL.out, HN3.out]; exact hown) hnil
                  unfold Hid
                  rw [nb_app, List.length_append, HCB.out, ← HL.out, HN3.out]
                  exact h1
                have HLL : Hid ((l ++ l3).length ≤ 1000 * (k + 1)) := by unfold Hid; rw [List.length_append, ← HL.out, HN3.out]; omega
                clear hown hgrow hnil
                go_wp2_with fail
                go_meet
                case rel => exact ⟨l ++ l3, HS4.out, HLL.out⟩
          · by_cases hk2 : kd = 2
            · subst hk2
              as_aux_lemma =>
                go_wp2_with fail
                refine (ws_align w b (nb l) L q _ _ _ _ _ l _ HSA.out HOA.out HQB.out (by omega)).mono ?_
                rintro e v1 ⟨rfl, hs1, ho1⟩
                have HS1 := hidM hs1
                clear hs1 ho1 o1 o2 o3
                obtain ⟨a2, c2, hva, hba⟩ := HS1.out.own.1.bat
                rw [← HL.out] at hva
                simp only [Value.slice.injEq] at hva
                obtain ⟨rfl, _, rfl⟩ := hva
                have HBA := hidM hba
                clear hba
                go_wp2_with fail
                rw [HL.out]
                refine (rtext_any _ cv l v1 (by rw [← HL.out]; omega) HBA.out).mono ?_
                rintro e v2 ⟨⟨s, rfl, hsl, hss⟩, hb2⟩
                rw [← HL.out]
                have HS2 := hidM (HS1.out.below hb2)
                have HSL := hidM hsl
                have HSS := hidM hss
                have s5 : s.size ≤ 200000 := by rw [hss, ← HL.out]; omega
                clear hsl hss hb2
                go_wp2_with fail
                refine (rbits_any s v2 (by omega)).mono ?_
                rintro e v3 ⟨⟨vb, rfl, how⟩, hb3⟩
                have HS3 : Hid (WSt w b v3 vb (bitsL s.data.toList) (nb (bitsL s.data.toList)) (bitsL s.data.toList).length) := by
                  have h1 := (HS2.out.below hb3).swap how HS2.out.wat.lt
                  unfold Hid
                  rw [bitsL_nb, bitsL_len, HSL.out, show s.data.toList.length = s.size by simp, HSS.out, ← HL.out, Nat.mul_comm 8]
                  exact h1
                have HLL : Hid ((bitsL s.data.toList).length ≤ 1000 * (k + 1)) := by unfold Hid; rw [bitsL_len, show s.data.toList.length = s.size by simp, HSS.out, ← HL.out]; omega
                clear how hb3
                go_wp2_with fail
                go_meet
                case rel => exact ⟨_, HS3.out, HLL.out⟩
            · by_cases hk3 : kd = 3
              · subst hk3
                as_aux_lemma =>
                  go_wp2_with fail
                  refine (few_any T 100 wa).mono ?_
                  rintro e wb ⟨⟨tt, rfl, ht100, _⟩, rfl⟩
                  go_wp2_with fail
                  refine (ws_bytes w b (nb l) L q _ _ _ _ tt _ l _ HSA.out HOA.out HQB.out (by omega) (by omega)).mono ?_
                  rintro e v1 ⟨rfl, hs1, ho1⟩
                  have HS1 := hidM hs1
                  clear hs1 ho1 o1 o2 o3
                  obtain ⟨a2, c2, hva, hba⟩ := HS1.out.own.1.bat
                  rw [← HL.out] at hva
                  simp only [Value.slice.injEq] at hva
                  obtain ⟨rfl, _, rfl⟩ := hva
                  have HBA := hidM hba
                  clear hba
                  go_wp2_with fail
                  rw [HL.out]
                  refine (rtext_any _ cv l v1 (by rw [← HL.out]; omega) HBA.out).mono ?_
                  rintro e v2 ⟨⟨s, rfl, hsl, hss⟩, hb2⟩
                  rw [← HL.out]
                  have HS2 := hidM (HS1.out.below hb2)
                  have HSL := hidM hsl
                  have HSS := hidM hss
                  have s5 : s.size ≤ 200000 := by rw [hss, ← HL.out]; omega
                  clear hsl hss hb2
                  go_wp2_with fail
                  refine (rbits_any s v2 (by omega)).mono ?_
                  rintro e v3 ⟨⟨vb, rfl, how⟩, hb3⟩
                  have HS3 := hidM ((HS2.out.below hb3).swap how HS2.out.wat.lt)
                  clear how hb3
                  go_wp2_with fail
                  refine (rbits_any tt v3 (by omega)).mono ?_
                  rintro e v4 ⟨⟨vc, rfl, how4⟩, hb4⟩
                  have HS4 := hidM (HS3.out.below hb4)
                  obtain ⟨g4, c4, cu4, hv4, _, _⟩ := ownS_obj HS4.out.own
                  subst hv4
                  obtain ⟨ho4, g5, c5, hv5⟩ := how4
                  subst hv5
                  have HO4 := hidM ho4
                  have HSZ : Hid (b + 1 ≤ v4.heap.size) := HS4.out.wat.lt
                  have HLB : Hid ((bitsL s.data.toList).length = 8 * s.size) := by unfold Hid; rw [bitsL_len]; simp
                  have HLC : Hid ((bitsL tt.data.toList).length = 8 * tt.size) := by unfold Hid; rw [bitsL_len]; simp
                  have HNB : Hid (nb (bitsL s.data.toList) = nb l) := by unfold Hid; rw [bitsL_nb, HSL.out]
                  have HNC : Hid (nb (bitsL tt.data.toList) = le tt.data.toList) := bitsL_nb _
                  clear ho4 hb4
                  generalize bitsL s.data.toList = lb at *
                  generalize bitsL tt.data.toList = lc at *
                  go_wp2_with (first
                    | (at_builtin; refine wpList_append_own _ rfl _ _ 26 rfl (b + 1) 4 i0 (.bool false) 1 1 Try.underlying26 hi hz0 hz1 hz2 rfl (by decide) _ _ _ rfl HS4.out.own.1 ⟨g5, 0, none⟩ _ _ (boolsV lc) rfl ?c1 (news_of HO4.out) (one_bools lc) ?c2 ?c3 HSZ.out ?_))
                  case c1 => rw [boolsV_len, Nat.mul_one]
                  case c2 => rw [HLB.out, HLC.out]; unfold maxLen; omega
                  case c3 => rw [HLB.out, HLC.out]; omega
                  intro v' w5 hown hgrow hnil
                  have HS5 : Hid (WSt w b w5 v' (lb ++ lc) (nb (lb ++ lc)) (lb ++ lc).length) := by
                    have h1 := HS4.out.grown (m := lc) hgrow hown hnil
                    have e8 : 8 * s.size = (L + 7) / 8 * 8 := by rw [HSS.out, ← HL.out]; omega
                    unfold Hid
                    rw [nb_app, List.length_append, HNB.out, HNC.out, HLB.out, HLC.out, e8]
                    exact h1
                  have HLL : Hid ((lb ++ lc).length ≤ 1000 * (k + 1)) := by
                    have e8 : 8 * s.size = (L + 7) / 8 * 8 := by rw [HSS.out, ← HL.out]; omega
                    unfold Hid; rw [List.length_append, HLB.out, HLC.out]; omega
                  clear hown hgrow hnil
                  go_wp2_with fail
                  go_meet
                  case rel => exact ⟨lb ++ lc, HS5.out, HLL.out⟩
              · have n0 : (kd == 0) = false := by simpa using hk0
                have n1 : (kd == 1) = false := by simpa using hk1
                have n2 : (kd == 2) = false := by simpa using hk2
                have n3 : (kd == 3) = false := by simpa using hk3
                as_aux_lemma =>
                  go_wp2_with fail
                  go_meet
                  case rel => exact ⟨l, by rw [← HL.out]; exact HSA.out, by rw [← HL.out]; omega⟩
      case rest =>
        obtain ⟨l', hs', hl'⟩ := hcut
        have HS' := hidM hs'
        clear hs' HSA HOA o1 o2 o3
        as_aux_lemma =>
          go_wp2_with fail
          refine (wtext_at b (nb l') l'.length wc HS'.out.wat (by omega)).mono ?_
          rintro e v1 ⟨⟨s1, rfl, hs1l, hs1s⟩, hb1⟩
          have HS1 := hidM (HS'.out.below hb1)
          have H1L := hidM hs1l
          have H1S := hidM hs1s
          obtain ⟨a2, c2, hva, hba⟩ := HS1.out.own.1.bat
          subst hva
          have HBA := hidM hba
          clear hba hs1l hs1s hb1
          go_wp2_with fail
          refine (rtext_any a2 c2 l' v1 (by omega) HBA.out).mono ?_
          rintro e v2 ⟨⟨s2, rfl, hs2l, hs2s⟩, hb2⟩
          have hse : s2 = s1 := text_eq s2 s1 (by rw [hs2l, H1L.out]) (by rw [hs2s, H1S.out])
          subst hse
          have HS2 := hidM (HS1.out.below hb2)
          clear hs2l hs2s hb2
          go_wp2
          refine ⟨⟨k + 1, l', by omega, by omega, rfl, HS2.out, hl'⟩, ?_⟩
          simp [intOf]; omega
    · by_cases hl1 : k < len
      · have hl2 : ¬ k < 100 := by omega
        clear hlt
        go_wp2_with fail
        refine (awake_any wr).mono ?_
        rintro e v1 ⟨rfl, hb1⟩
        have HB9 := hidM (HS.out.below hb1).bel
        clear hb1
        go_wp2
        go_ret
        exact ⟨rfl, HB9.out⟩
      · clear hlt
        go_wp2_with fail
        refine (awake_any wr).mono ?_
        rintro e v1 ⟨rfl, hb1⟩
        have HB9 := hidM (HS.out.below hb1).bel
        clear hb1
        go_wp2
        go_ret
        exact ⟨rfl, HB9.out⟩
end Go.Proofs.Ytklocjmhembbfaa

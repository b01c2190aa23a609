/-
  Reading packed-refs, as the program has it.
  A packed reference's line, as the program has it.
  The whole of packed-refs, and Open, as the program has them.
-/
import Derived.Test.YtjoomlpocpdonaaGreatDoorJRfL
namespace Go.Proofs.YtjoomlpocpdonaaGreatDoor
open Go.RowKit

theorem PBox.emptied {w w1 : World} {q b : Nat} {rows rows' : List RowR} (h : PBox w q b rows) (hg : w.grownBy w1 (some b)) (hp : PackAt w1 b rows') (hok : RowsOk rows') (x : List UInt8) (hl : lastR rows' = x) :
    PBox (w1.setCell ⟨q, 1, none⟩ (.string (mkB x))) q b rows' ∧ ∀ B, B ≤ q → B ≤ b → Below B w (w1.setCell ⟨q, 1, none⟩ (.string (mkB x))) := by
  have hlt := h.qlt
  have hne := h.ne
  have c0 : w1.cell? ⟨q, 0, none⟩ = some (.map (some b)) := (World.cell?_of_block (hg.block q hlt (fun e => hne (Option.some.inj e)))).trans h.c0
  have c1 : w1.cell? ⟨q, 1, none⟩ = some (.string (mkB (lastR rows))) := (World.cell?_of_block (hg.block q hlt (fun e => hne (Option.some.inj e)))).trans h.c1
  have f1 : w1.frozen? ⟨q, 1, none⟩ = false := (World.frozen?_of_block (hg.block q hlt (fun e => hne (Option.some.inj e)))).trans h.f1
  have hB : ∀ B, B ≤ q → B ≤ b → Below B w (w1.setCell ⟨q, 1, none⟩ (.string (mkB x))) := fun B h1 h2 =>
    (((Below.refl B w).grown hg (by omega) (fun k hk => by cases hk; exact h2))).setCell h1 _
  refine ⟨⟨?_, ?_, ?_, ?_, hne, ?_, hok⟩, hB⟩
  · exact (World.cell?_setCell_other _ _ _ _ (by intro e; cases e)).trans c0
  · rw [hl]; exact World.cell?_setCell_same _ _ _ c1
  · rw [World.frozen?_setCell]; exact f1
  · exact Nat.lt_of_lt_of_le hlt (hB 0 (Nat.zero_le _) (Nat.zero_le _)).size
  · obtain ⟨D, ho, hm⟩ := hp
    exact ⟨D, ho.setCell (fun e => hne e.symm) _, hm⟩
theorem PBox.drewN {w : World} {q b : Nat} {rows : List RowR} (h : PBox w q b rows) (k : Nat) : PBox (w.drewN k) q b rows := ⟨h.c0, h.c1, h.f1, h.qlt, h.ne, h.map, h.ok⟩
theorem below_of_drewN {w w' : World} {B k : Nat} (h : Below B (w.drewN k) w') : Below B w w' := ⟨h.os, h.tape, h.output, h.size, h.block⟩
theorem last_some {rows : List RowR} (h : lastR rows ≠ []) : ∃ I r, rows = I ++ [r] ∧ r.peeled = [] ∧ lastR rows = r.name := by
  rcases List.eq_nil_or_concat rows with rfl | ⟨I, r, rfl⟩
  · exact absurd rfl h
  · rw [List.concat_eq_append] at h ⊢
    rw [last_snoc] at h ⊢
    by_cases hp : r.peeled = []
    · exact ⟨I, r, rfl, hp, by rw [if_pos hp]⟩
    · rw [if_neg hp] at h; exact absurd rfl h
def intR (n : Nat) : Ending := .returned (.int .i64 (n : Nat))
set_option maxRecDepth 100000 in
set_option maxHeartbeats 3200000 in
theorem peel_any (q b : Nat) (rows : List RowR) (d : ByteArray) (w : World) (h : PBox w q b rows) (hd : d.size ≤ 4294967281) :
    Calls Tryz.prog 83 #[.pointer (some ⟨q, 0, none⟩), .string d] w fun e w' => PStep q b w w' e (if lastR rows = [] ∨ idB d.data.toList = false then (3, rows) else (0, peelR rows d.data.toList)) := by
  have HB := hidM h
  have c0 := h.c0
  have c1 := h.c1
  have f1 := h.f1
  have HID := hidM (id_any d w (by unfold maxLen; omega))
  clear h
  obtain ⟨RES, hres⟩ : ∃ RES, (if lastR rows = [] ∨ idB d.data.toList = false then (3, rows) else (0, peelR rows d.data.toList)) = RES := ⟨_, rfl⟩
  rw [hres]
  by_cases hl : lastR rows = []
  · have HE : Hid (∀ e, e = intR 3 → PStep q b w w e RES) := fun e he => by
      rw [← hres, if_pos (.inl hl), he]
      exact ⟨rfl, HB.out, fun B _ _ => Below.refl _ _⟩
    rw [hl] at c1
    have e1 : (mkB []).toList.isEmpty = true := by rw [mkB_toList]; rfl
    clear hl hd HID hres
    generalize mkB [] = X at *
    go_enter Tryz.func83, Tryz.ntmps83
    go_wp2_with fail
    go_ret
    refine HE.out _ ?_
    rfl
  · have e1 : (mkB (lastR rows)).toList.isEmpty = false := by
      rw [mkB_toList]
      cases hq : lastR rows with
      | nil => exact absurd hq hl
      | cons a t => rfl
    cases hi : idB d.data.toList with
    | false =>
      have HE : Hid (∀ e, e = intR 3 → PStep q b w w e RES) := fun e he => by
        rw [← hres, if_pos (.inr hi), he]
        exact ⟨rfl, HB.out, fun B _ _ => Below.refl _ _⟩
      rw [hi] at HID
      clear hl hd hi hres
      generalize mkB (lastR rows) = X at *
      go_enter Tryz.func83, Tryz.ntmps83
      go_wp2_with fail
      refine HID.out.mono ?_
      rintro _ w1 ⟨rfl, rfl⟩
      go_wp2_with fail
      go_ret
      refine HE.out _ ?_
      rfl
    | true =>
      obtain ⟨I, r, hr, hp, hn⟩ := last_some hl
      have hok := HB.out.ok
      have hnm := hok.named r (by rw [hr]; simp)
      have hlen := hok.len
      have hap := hok.apart
      rw [hr] at hlen hap
      rw [List.pairwise_append] at hap
      have hmp := HB.out.map
      have hlk := hmp.look1 (mkB (lastR rows)) (by rw [mkB_size, hn]; have := name_size hnm.1; unfold maxLen; omega)
      rw [mkB_list] at hlk
      have hfd : rows.find? (fun x => x.name == lastR rows) = some r := by
        rw [hr, List.find?_append]
        have : I.find? (fun x => x.name == lastR (I ++ [r])) = none := List.find?_eq_none.2 fun x hx => by
          have := hap.2.2 x hx r (by simp)
          rw [← hr, hn]
          simpa using this
        rw [this]
        rw [← hr, hn]
        simp
      unfold tgtV at hlk
      rw [hfd] at hlk
      replace hlk : (Instr.lookup 58 (.map (some b)) (.string (mkB (lastR rows))) false).run Tryz.prog w = .ok (.agg #[.string (mkB r.id), .string (mkB r.peeled)]) w := hlk
      rw [hr] at hmp
      have hlk1 : (Instr.lookup 58 (.map (some b)) (.string (mkB (lastR rows))) false).run Tryz.prog w.drew = .ok (.agg #[.string (mkB r.id), .string (mkB r.peeled)]) w.drew := by
        have h := (show PackAt w.drew b rows from HB.out.map).look1 (mkB (lastR rows)) (by rw [mkB_size, hn]; have := name_size hnm.1; unfold maxLen; omega)
        rw [mkB_list] at h
        unfold tgtV at h
        rw [hfd] at h
        exact h
      obtain ⟨F, hF⟩ := Classical.skolem.1 (fun k => (show PackAt (w.drewN k) b (I ++ [r]) from hmp).peel d (name_size hnm.1) (by simp at hlen; omega) (fun x hx => hap.2.2 x hx r (by simp)))
      have hid := idB_size hi
      have hpl : peelR rows d.data.toList = I ++ [⟨r.name, r.id, d.data.toList⟩] := by rw [hr, peel_snoc]
      have hst : stepR rows (94 :: d.data.toList) = (0, peelR rows d.data.toList) := by
        unfold stepR
        rw [if_neg (by simp [Lib.hasPrefix, List.isPrefixOf]), if_pos (by simp [Lib.hasPrefix, List.isPrefixOf]), if_neg (by rw [not_or]; exact ⟨hl, by rw [List.drop_one, List.tail_cons, hi]; decide⟩)]
        rfl
      have hok2 : RowsOk (peelR rows d.data.toList) := by
        have := step_ok hok (94 :: d.data.toList)
        rw [hst] at this; exact this
      have HFIN : Hid (∀ k, PBox ((F k).setCell ⟨q, 1, none⟩ (.string (mkB []))) q b (peelR rows d.data.toList) ∧ ∀ B, B ≤ q → B ≤ b → Below B (w.drewN k) ((F k).setCell ⟨q, 1, none⟩ (.string (mkB [])))) := by
        intro k
        refine (HB.out.drewN k).emptied (hF k).2.2 (by rw [hpl]; exact (hF k).2.1) hok2 [] ?_
        rw [hpl, last_snoc, if_neg]
        intro e
        have e : d.data.toList = [] := e
        rw [e] at hid; cases hid
      have HE : Hid (∀ k e W, e = intR 0 → W = (F k).setCell ⟨q, 1, none⟩ (.string (mkB [])) → PStep q b w W e RES) := fun k e W he hW => by
        rw [← hres, if_neg (by rw [not_or]; exact ⟨hl, by rw [hi]; decide⟩), he, hW]
        exact ⟨rfl, (HFIN.out k).1, fun B h1 h2 => below_of_drewN ((HFIN.out k).2 B h1 h2)⟩
      have c12 : ∀ k, (F k).cell? ⟨q, 1, none⟩ = some (.string (mkB (lastR rows))) := fun k => (World.cell?_of_block ((hF k).2.2.block q HB.out.qlt (fun e => HB.out.ne (Option.some.inj e)))).trans c1
      have f12 : ∀ k, (F k).frozen? ⟨q, 1, none⟩ = false := fun k => (World.frozen?_of_block ((hF k).2.2.block q HB.out.qlt (fun e => HB.out.ne (Option.some.inj e)))).trans f1
      have hup : ∀ k, (Instr.mapUpdate 58 (.map (some b)) (.string (mkB r.name)) (.agg #[.string (mkB r.id), .string d])).run Tryz.prog (w.drewN k) = .ok () (F k) := fun k => (hF k).1
      rw [← hn] at hup
      have hup1 : (Instr.mapUpdate 58 (.map (some b)) (.string (mkB (lastR rows))) (.agg #[.string (mkB r.id), .string d])).run Tryz.prog w.drew = .ok () (F 1) := hup 1
      have hfz1 := field76_0 (mkB r.id) (mkB r.peeled) w.drew
      have hfz := field76_0 (mkB r.id) (mkB r.peeled) w
      rw [hi] at HID
      clear hres hl hd hi hr hp hn hok hnm hlen hap hmp hfd hF hid hpl hst hok2 HFIN
      generalize mkB (lastR rows) = X at *
      generalize mkB r.id = Y at *
      generalize mkB r.peeled = Z at *
      rw [show mkB [] = ByteArray.empty from rfl] at HE
      go_enter Tryz.func83, Tryz.ntmps83
      go_wp2_with fail
      refine HID.out.mono ?_
      rintro _ w1 ⟨rfl, rfl⟩
      go_wp2_with fail
      go_region
      all_goals
        try go_wp2
        go_ret
        refine HE.out _ _ _ ?_ rfl
        rfl
end Go.Proofs.YtjoomlpocpdonaaGreatDoor
namespace Go.Proofs.YtjoomlpocpdonaaGreatDoor
open Go.RowKit

def packR (rows : List RowR) (l : List UInt8) : Nat × List RowR :=
  if badP l = true then (3, rows)
  else if rows.any (fun r => r.name == nmP l) = true then (4, rows)
  else if rows.length = 2000 then (2, rows)
  else (0, rows ++ [⟨nmP l, idP l, []⟩])
theorem GOk.drewN {m : Int} {w : World} (h : GOk m w) (n : Nat) : GOk m (w.drewN n) := ⟨h.lt, h.cell⟩
theorem sub_size (p : UInt8 → Bool) (l : List UInt8) : (l.takeWhile p).length ≤ l.length ∧ ((l.dropWhile p).drop 1).length ≤ l.length := by
  refine ⟨(List.takeWhile_sublist p).length_le, ?_⟩
  rw [List.length_drop]
  have := drop_while_size p l
  omega
set_option maxRecDepth 100000 in
set_option maxHeartbeats 3200000 in
theorem pack_any (q b : Nat) (rows : List RowR) (l : ByteArray) (m : Int) (w : World) (h : PBox w q b rows) (hs : l.size ≤ 4194304) (hg : GOk m w) :
    Calls Tryz.prog 84 #[.pointer (some ⟨q, 0, none⟩), .string l] w fun e w' => PStep q b w w' e (packR rows l.data.toList) := by
  have HB := hidM h
  have HG := hidM hg
  have HCT := hidM (cut_at l 32 m w (by omega) hg)
  have hid : Hid (packR rows l.data.toList = if badP l.data.toList = true then (3, rows) else if rows.any (fun r => r.name == nmP l.data.toList) = true then (4, rows) else if rows.length = 2000 then (2, rows) else (0, rows ++ [⟨nmP l.data.toList, idP l.data.toList, []⟩])) := rfl
  have hbad : Hid (badP l.data.toList = (!idB (idP l.data.toList) || (!nameL (nmP l.data.toList) || decide (nmP l.data.toList = headL)))) := rfl
  have hz1 := (sub_size (· != 32) l.data.toList).1
  have hz2 := (sub_size (· != 32) l.data.toList).2
  rw [sl_len] at hz1 hz2
  have hz1 : (idP l.data.toList).length ≤ l.size := hz1
  have hz2 : (nmP l.data.toList).length ≤ l.size := hz2
  have HSTP : Hid (badP l.data.toList = false → stepR rows (idP l.data.toList ++ 32 :: nmP l.data.toList) = packR rows l.data.toList ∨ True) := fun _ => .inr trivial
  rw [show l.data.toList.takeWhile (· != 32) = idP l.data.toList from rfl, show (l.data.toList.dropWhile (· != 32)).drop 1 = nmP l.data.toList from rfl] at HCT
  have HOKP : Hid (badP l.data.toList = false → rows.any (fun r => r.name == nmP l.data.toList) = false → rows.length ≠ 2000 → RowsOk (rows ++ [⟨nmP l.data.toList, idP l.data.toList, []⟩])) := fun hb hn hl => by
    have hok := h.ok
    have hb2 := hb
    rw [hbad.out] at hb2
    simp only [Bool.or_eq_false_iff, Bool.not_eq_false', decide_eq_false_iff_not] at hb2
    have hnn := any_name.1 hn
    refine ⟨?_, ?_, ?_, ?_⟩
    · rw [List.pairwise_append]
      refine ⟨hok.apart, List.pairwise_singleton _ _, fun a ha b hb => ?_⟩
      obtain rfl := List.mem_singleton.1 hb
      exact hnn a ha
    · intro x hx
      rcases List.mem_append.1 hx with hx | hx
      · exact hok.named x hx
      · obtain rfl := List.mem_singleton.1 hx; exact ⟨hb2.2.1, hb2.2.2⟩
    · intro x hx
      rcases List.mem_append.1 hx with hx | hx
      · exact hok.sized x hx
      · obtain rfl := List.mem_singleton.1 hx; exact ⟨idB_size hb2.1, Nat.zero_le _⟩
    · have := hok.len
      rw [List.length_append, List.length_singleton]
      omega
  clear HSTP h hg
  generalize packR rows l.data.toList = RES at *
  generalize badP l.data.toList = BAD at *
  generalize idP l.data.toList = I at *
  generalize nmP l.data.toList = M at *
  generalize l.data.toList.contains 32 = cc at *
  have HID := hidM (fun W => id_any (mkB I) W (by rw [mkB_size]; unfold maxLen; omega))
  rw [mkB_list] at HID
  have HNM := hidM (fun W h => name_any (mkB M) m W h)
  rw [mkB_list] at HNM
  cases hi : idB I with
  | false =>
    rw [hi] at HID
    have HR : Hid (RES = (3, rows)) := by
      unfold Hid
      rw [hid.out, hbad.out, hi, if_pos (by rfl)]
    clear hid hbad HOKP hz1 hz2 hi HNM
    generalize mkB I = IB at *
    generalize mkB M = MB at *
    go_enter Tryz.func84, Tryz.ntmps84
    go_wp2_with fail
    refine HCT.out.mono ?_
    rintro _ w1 ⟨rfl, n, rfl⟩
    go_wp2_with fail
    refine (HID.out _).mono ?_
    rintro _ w2 ⟨rfl, rfl⟩
    go_wp2_with fail
    go_ret
    rw [HR.out]
    exact ⟨rfl, HB.out.drewN n, fun B _ _ => below_drewN (Below.refl _ _) n⟩
  | true =>
  rw [hi] at HID
  cases hn : nameL M with
  | false =>
    rw [hn] at HNM
    have HR : Hid (RES = (3, rows)) := by
      unfold Hid
      rw [hid.out, hbad.out, hi, hn, if_pos (by rfl)]
    clear hid hbad HOKP hz1 hz2 hi hn
    generalize mkB I = IB at *
    generalize mkB M = MB at *
    go_enter Tryz.func84, Tryz.ntmps84
    go_wp2_with fail
    refine HCT.out.mono ?_
    rintro _ w1 ⟨rfl, n, rfl⟩
    go_wp2_with fail
    refine (HID.out _).mono ?_
    rintro _ w2 ⟨rfl, rfl⟩
    go_wp2_with fail
    refine (HNM.out _ (HG.out.drewN n)).mono ?_
    rintro _ w3 ⟨rfl, hb3⟩
    have hb4 := hidM (below_of_drewN hb3)
    clear hb3
    go_wp2_with fail
    go_ret
    rw [HR.out]
    exact ⟨rfl, HB.out.below hb4.out, fun B h1 _ => hb4.out.mono (Nat.le_trans h1 (Nat.le_of_lt HB.out.qlt))⟩
  | true =>
  rw [hn] at HNM
  have hms := name_size hn
  by_cases hh : M = headL
  · have HR : Hid (RES = (3, rows)) := by
      unfold Hid
      rw [hid.out, hbad.out, hi, hn, hh, if_pos (by rfl)]
    have e1 : ((mkB M).toList == [72, 69, 65, 68]) = true := by rw [mkB_toList, hh]; rfl
    clear hid hbad HOKP hz1 hz2 hi hn hh hms
    generalize mkB I = IB at *
    generalize mkB M = MB at *
    go_enter Tryz.func84, Tryz.ntmps84
    go_wp2_with fail
    refine HCT.out.mono ?_
    rintro _ w1 ⟨rfl, n, rfl⟩
    go_wp2_with fail
    refine (HID.out _).mono ?_
    rintro _ w2 ⟨rfl, rfl⟩
    go_wp2_with fail
    refine (HNM.out _ (HG.out.drewN n)).mono ?_
    rintro _ w3 ⟨rfl, hb3⟩
    have hb4 := hidM (below_of_drewN hb3)
    clear hb3
    go_wp2_with fail
    go_ret
    rw [HR.out]
    exact ⟨rfl, HB.out.below hb4.out, fun B h1 _ => hb4.out.mono (Nat.le_trans h1 (Nat.le_of_lt HB.out.qlt))⟩
  have e1 : ((mkB M).toList == [72, 69, 65, 68]) = false := by rw [mkB_toList]; exact beq_false_of_ne hh
  have hbf : BAD = false := by rw [hbad.out, hi, hn, decide_eq_false hh]; rfl
  have HR0 : Hid (RES = if rows.any (fun r => r.name == M) = true then (4, rows) else if rows.length = 2000 then (2, rows) else (0, rows ++ [⟨M, I, []⟩])) := by
    unfold Hid
    rw [hid.out, hbf, if_neg (by decide)]
  have HOK2 := hidM (HOKP.out hbf)
  have hmk : (mkB M).size ≤ maxLen := by rw [mkB_size]; unfold maxLen; omega
  have HLK : Hid (∀ W, PackAt W b rows → (Instr.lookup 58 (.map (some b)) (.string (mkB M)) true).run Tryz.prog W = .ok (.tuple #[tgtV rows M, .bool (rows.any fun r => r.name == M)]) W) := fun W hW => by
    have := hW.look (mkB M) hmk
    rwa [mkB_list] at this
  have HTV : Hid (∃ A B : ByteArray, tgtV rows M = .agg #[.string A, .string B]) := by
    unfold Hid tgtV
    cases rows.find? (fun r => r.name == M) with
    | none => exact ⟨_,_, rfl⟩
    | some r => exact ⟨_,_, rfl⟩
  obtain ⟨TA, TB, htv⟩ := HTV.out
  rw [htv] at HLK
  clear hid hbad HOKP hz1 hz2 hi hn hh htv HTV hms hbf
  cases hany : rows.any (fun r => r.name == M) with
  | true =>
    have HR : Hid (RES = (4, rows)) := by unfold Hid; rw [HR0.out, if_pos hany]
    rw [hany] at HLK
    clear HR0 HOK2 hany hmk
    generalize mkB I = IB at *
    generalize mkB M = MB at *
    go_enter Tryz.func84, Tryz.ntmps84
    go_wp2_with fail
    refine HCT.out.mono ?_
    rintro _ w1 ⟨rfl, n, rfl⟩
    go_wp2_with fail
    refine (HID.out _).mono ?_
    rintro _ w2 ⟨rfl, rfl⟩
    go_wp2_with fail
    refine (HNM.out _ (HG.out.drewN n)).mono ?_
    rintro _ w3 ⟨rfl, hb3⟩
    have hb4 := hidM (below_of_drewN hb3)
    have HP := hidM (HB.out.below hb4.out)
    have c0 := HP.out.c0
    have hlk := HLK.out w3 HP.out.map
    clear hb3 HLK
    go_wp2_with fail
    go_ret
    rw [HR.out]
    exact ⟨rfl, HP.out.below ((Below.refl _ _).alloc (Nat.le_refl _) _), fun B h1 _ => (hb4.out.alloc hb4.out.size _).mono (Nat.le_trans h1 (Nat.le_of_lt HB.out.qlt))⟩
  | false =>
  rw [hany] at HLK
  by_cases hfull : rows.length = 2000
  · have HR : Hid (RES = (2, rows)) := by unfold Hid; rw [HR0.out, if_neg (by rw [hany]; decide), if_pos hfull]
    have HLN : Hid (∀ W ty, PackAt W b rows → (Builtin.len_ #[58] ty #[.map (some b)]).run Tryz.prog W = .ok (.int .i64 2000) W) := fun W ty hW => by
      have := hW.len ty
      rwa [hfull] at this
    clear HR0 HOK2 hany hmk hfull
    generalize mkB I = IB at *
    generalize mkB M = MB at *
    go_enter Tryz.func84, Tryz.ntmps84
    go_wp2_with fail
    refine HCT.out.mono ?_
    rintro _ w1 ⟨rfl, n, rfl⟩
    go_wp2_with fail
    refine (HID.out _).mono ?_
    rintro _ w2 ⟨rfl, rfl⟩
    go_wp2_with fail
    refine (HNM.out _ (HG.out.drewN n)).mono ?_
    rintro _ w3 ⟨rfl, hb3⟩
    have hb4 := hidM (below_of_drewN hb3)
    have HP := hidM (HB.out.below hb4.out)
    have c0 := HP.out.c0
    have hlk := HLK.out w3 HP.out.map
    have HP4 := hidM (HP.out.below ((Below.refl w3.heap.size w3).alloc (Nat.le_refl _) (.cells #[.string TA, .string TB] 76)))
    have hln := fun ty => HLN.out _ ty HP4.out.map
    have c04 := HP4.out.c0
    clear hb3 HLK
    go_wp2_with fail
    go_ret
    rw [HR.out]
    exact ⟨rfl, HP4.out, fun B h1 _ => (hb4.out.alloc hb4.out.size _).mono (Nat.le_trans h1 (Nat.le_of_lt HB.out.qlt))⟩
  · have HR : Hid (RES = (0, rows ++ [⟨M, I, []⟩])) := by unfold Hid; rw [HR0.out, if_neg (by rw [hany]; decide), if_neg hfull]
    have HLN : Hid (∀ W ty, PackAt W b rows → (Builtin.len_ #[58] ty #[.map (some b)]).run Tryz.prog W = .ok (.int .i64 (rows.length : Nat)) W) := fun W ty hW => hW.len ty
    have g1 : ((rows.length : Int) == 2000) = false := by simp; omega
    have hrl := HB.out.ok.len
    have HOK3 := hidM (HOK2.out hany hfull)
    have HPU : Hid (∀ W, PackAt W b rows → ∃ w', (Instr.mapUpdate 58 (.map (some b)) (.string (mkB M)) (.agg #[.string (mkB I), .string .empty])).run Tryz.prog W = .ok () w' ∧ PackAt w' b (rows ++ [⟨M, I, []⟩]) ∧ W.grownBy w' (some b)) := fun W hW => by
      have := hW.push (mkB M) (mkB I) hmk hrl (by rw [mkB_list]; exact hany)
      rwa [mkB_list, mkB_list] at this
    have HLS : Hid (lastR (rows ++ [⟨M, I, []⟩]) = M) := by unfold Hid; rw [last_snoc]; rfl
    have HEM := hidM (fun (W W1 : World) (h : PBox W q b rows) hg hp => h.emptied (w1 := W1) hg hp HOK3.out M HLS.out)
    clear HR0 HOK2 hany hmk hfull HOK3 HLS
    generalize rows.length = rl at *
    generalize mkB I = IB at *
    generalize mkB M = MB at *
    go_enter Tryz.func84, Tryz.ntmps84
    go_wp2_with fail
    refine HCT.out.mono ?_
    rintro _ w1 ⟨rfl, n, rfl⟩
    go_wp2_with fail
    refine (HID.out _).mono ?_
    rintro _ w2 ⟨rfl, rfl⟩
    go_wp2_with fail
    refine (HNM.out _ (HG.out.drewN n)).mono ?_
    rintro _ w3 ⟨rfl, hb3⟩
    have hb4 := hidM (below_of_drewN hb3)
    have HP := hidM (HB.out.below hb4.out)
    have c0 := HP.out.c0
    have hlk := HLK.out w3 HP.out.map
    have HP4 := hidM (HP.out.below ((Below.refl w3.heap.size w3).alloc (Nat.le_refl _) (.cells #[.string TA, .string TB] 76)))
    have HB5 := hidM (hb4.out.alloc hb4.out.size (.cells #[.string TA, .string TB] 76))
    have hln := fun ty => HLN.out _ ty HP4.out.map
    have c04 := HP4.out.c0
    obtain ⟨w5, hup, hp5, hg5⟩ := HPU.out (w3.alloc (.cells #[.string TA, .string TB] 76)) HP4.out.map
    have HFI := hidM (HEM.out _ _ HP4.out hg5 hp5)
    have c15 : w5.cell? ⟨q, 1, none⟩ = some (.string (mkB (lastR rows))) := (World.cell?_of_block (hg5.block q HP4.out.qlt (fun e => HP4.out.ne (Option.some.inj e)))).trans HP4.out.c1
    have f15 : w5.frozen? ⟨q, 1, none⟩ = false := (World.frozen?_of_block (hg5.block q HP4.out.qlt (fun e => HP4.out.ne (Option.some.inj e)))).trans HP4.out.f1
    have hup1 : (Instr.mapUpdate 58 (.map (some b)) (.string MB) (.agg #[.string IB, .string ⟨#[]⟩])).run Tryz.prog (w3.alloc (.cells #[.string TA, .string TB] 76)) = .ok () w5 := hup
    have HFB : Hid (∀ B, B ≤ q → B ≤ b → Below B w (w5.setCell ⟨q, 1, none⟩ (.string MB))) := fun B h1 h2 =>
      (HB5.out.mono (Nat.le_trans h1 (Nat.le_of_lt HB.out.qlt))).trans (HFI.out.2 B h1 h2)
    clear hb3 HLK hup HEM
    go_wp2_with fail
    go_ret
    rw [HR.out]
    refine ⟨rfl, HFI.out.1, HFB.out⟩
end Go.Proofs.YtjoomlpocpdonaaGreatDoor
namespace Go.Proofs.YtjoomlpocpdonaaGreatDoor
open Go.RowKit

set_option maxHeartbeats 1600000 in
theorem line_any (q b : Nat) (rows : List RowR) (l : ByteArray) (m : Int) (w : World) (h : PBox w q b rows) (hs : l.size ≤ 4194304) (hg : GOk m w) :
    Calls Tryz.prog 59 #[.pointer (some ⟨q, 0, none⟩), .string l] w fun e w' => PStep q b w w' e (stepR rows l.data.toList) := by
  have HB := hidM h
  have HP1 := hidM (Tryz.strings_HasPrefix l ⟨#[35]⟩ w)
  have HP2 := hidM (Tryz.strings_CutPrefix l ⟨#[94]⟩ w)
  rw [show (⟨#[35]⟩ : ByteArray).data.toList = [35] from rfl] at HP1
  rw [show (⟨#[94]⟩ : ByteArray).data.toList = [94] from rfl] at HP2
  have HR : Hid (stepR rows l.data.toList = if Lib.hasPrefix l.data.toList [35] = true then (0, rows) else if Lib.hasPrefix l.data.toList [94] = true then (if lastR rows = [] ∨ idB (l.data.toList.drop 1) = false then (3, rows) else (0, peelR rows (l.data.toList.drop 1))) else packR rows l.data.toList) := rfl
  have HPK := hidM (pack_any q b rows l m w h hs hg)
  have HPE := hidM (fun d hd => peel_any q b rows d w h hd)
  clear h hg
  cases h1 : Lib.hasPrefix l.data.toList [35] with
  | true =>
    rw [h1] at HP1
    have HR2 : Hid (stepR rows l.data.toList = (0, rows)) := by unfold Hid; rw [HR.out, if_pos h1]
    rw [HR2.out]
    clear HR HR2 h1 HPK HPE HP2
    go_enter Tryz.func59, Tryz.ntmps59
    go_wp2_with fail
    refine HP1.out.mono ?_
    rintro _ w1 ⟨rfl, rfl⟩
    go_wp2_with fail
    go_ret
    exact ⟨rfl, HB.out, fun B _ _ => Below.refl _ _⟩
  | false =>
  rw [h1] at HP1
  cases h2 : Lib.hasPrefix l.data.toList [94] with
  | true =>
    have hd : (⟨(Lib.trimPrefix l.data.toList [94]).toArray⟩ : ByteArray) = mkB (l.data.toList.drop 1) := by
      unfold Lib.trimPrefix
      rw [if_pos h2]; rfl
    rw [h2, hd] at HP2
    have HPE2 := hidM (HPE.out (mkB (l.data.toList.drop 1)) (by rw [mkB_size, List.length_drop, sl_len]; omega))
    rw [mkB_list] at HPE2
    have HR2 : Hid (stepR rows l.data.toList = if lastR rows = [] ∨ idB (l.data.toList.drop 1) = false then (3, rows) else (0, peelR rows (l.data.toList.drop 1))) := by
      unfold Hid; rw [HR.out, if_neg (by rw [h1]; decide), if_pos h2]
    rw [← HR2.out] at HPE2
    clear HR HR2 h1 h2 HPK HPE hd
    generalize stepR rows l.data.toList = RES at *
    generalize mkB (l.data.toList.drop 1) = X at *
    go_enter Tryz.func59, Tryz.ntmps59
    go_wp2_with fail
    refine HP1.out.mono ?_
    rintro _ w1 ⟨rfl, rfl⟩
    go_wp2_with fail
    refine HP2.out.mono ?_
    rintro _ w1 ⟨rfl, rfl⟩
    go_wp2_with fail
    refine HPE2.out.mono ?_
    rintro _ w2 ⟨rfl, hbx, hbl⟩
    have HX := hidM hbx
    have HL := hidM hbl
    clear hbx hbl
    go_wp2_with fail
    go_ret
    exact ⟨rfl, HX.out, HL.out⟩
  | false =>
    rw [h2] at HP2
    have HR2 : Hid (stepR rows l.data.toList = packR rows l.data.toList) := by
      unfold Hid; rw [HR.out, if_neg (by rw [h1]; decide), if_neg (by rw [h2]; decide)]
    rw [← HR2.out] at HPK
    clear HR HR2 h1 h2 HPE
    generalize stepR rows l.data.toList = RES at *
    generalize (⟨(Lib.trimPrefix l.data.toList [94]).toArray⟩ : ByteArray) = X at *
    go_enter Tryz.func59, Tryz.ntmps59
    go_wp2_with fail
    refine HP1.out.mono ?_
    rintro _ w1 ⟨rfl, rfl⟩
    go_wp2_with fail
    refine HP2.out.mono ?_
    rintro _ w1 ⟨rfl, rfl⟩
    go_wp2_with fail
    refine HPK.out.mono ?_
    rintro _ w2 ⟨rfl, hbx, hbl⟩
    have HX := hidM hbx
    have HL := hidM hbl
    clear hbx hbl
    go_wp2_with fail
    go_ret
    exact ⟨rfl, HX.out, HL.out⟩
def strLen : Value → Nat
  | .string s => s.size
  | _ => 0
def ParsePost (w0 : World) (r : Nat × List RowR) (e : Ending) (w : World) : Prop :=
  (r.1 ≠ 0 ∧ e = .returned (.tuple #[.map none, .int .i64 (r.1 : Nat)])) ∨
  (r.1 = 0 ∧ ∃ b, w0.heap.size ≤ b ∧ PackAt w b r.2 ∧ RowsOk r.2 ∧ e = .returned (.tuple #[.map (some b), .int .i64 0]))
theorem parse_nil (n : Nat) (rows : List RowR) : parseR n rows [] = (0, rows) := by
  cases n with
  | zero => rfl
  | succ n => rfl
theorem parse_cons {n : Nat} {rows : List RowR} {t : List UInt8} (ht : t ≠ []) : parseR (n + 1) rows t =
    if t.contains 10 = false then (3, rows)
    else if (stepR rows (t.takeWhile (· != 10))).1 = 0 then parseR n (stepR rows (t.takeWhile (· != 10))).2 ((t.dropWhile (· != 10)).drop 1)
    else ((stepR rows (t.takeWhile (· != 10))).1, rows) := by
  rw [parseR, if_neg ht]
set_option maxHeartbeats 3200000 in
theorem parse_any (t : ByteArray) (m : Int) (w : World) (hs : t.size ≤ 4194304) (hg : GOk m w) :
    Calls Tryz.prog 32 #[.string t] w fun e w' => ParsePost w (parsed t.data.toList) e w' ∧ Below w.heap.size w w' := by
  have HG := hidM hg
  obtain ⟨ANS, hans⟩ : ∃ ANS, parsed t.data.toList = ANS := ⟨_, rfl⟩
  rw [hans]
  have HA : Hid (parseR t.data.toList.length [] t.data.toList = ANS) := hans
  clear hans hg
  have HAOK : Hid (RowsOk ANS.2) := by rw [← HA.out]; exact parse_ok _ _ RowsOk.nil
  have HBX : Hid (PBox ((w.alloc (.map #[] 0)).alloc (.cells #[.map (some w.heap.size), .string ⟨#[]⟩] 85)) (w.heap.size + 1) w.heap.size []) := by
    have hsz : (w.alloc (.map #[] 0)).heap.size = w.heap.size + 1 := by simp
    refine ⟨?_, ?_, ?_, ?_, by omega, ?_, RowsOk.nil⟩
    · rw [← hsz, World.cell?_alloc_mark _ _ 85 (0, 0) 0]; rfl
    · rw [← hsz, World.cell?_alloc_mark _ _ 85 (0, 0) 1]; rfl
    · rw [← hsz]; exact World.frozen?_alloc_new _ _ _ _
    · simp
    · exact ⟨.map [], (World.ownsMap_made w Tryz.prog 9 tgtElem).alloc _, MapOf.nil⟩
  have HB0 : Hid (Below w.heap.size w ((w.alloc (.map #[] 0)).alloc (.cells #[.map (some w.heap.size), .string ⟨#[]⟩] 85))) :=
    ((Below.refl _ _).alloc (Nat.le_refl _) _).alloc (by simp) _
  have hmm := @run_makeMap Tryz.prog
  go_enter Tryz.func32, Tryz.ntmps32
  go_wp2_with fail
  generalize (w.alloc (.map #[] 0)).alloc (.cells #[.map (some w.heap.size), .string ⟨#[]⟩] 85) = W0 at *
  clear hmm
  go_loopw [0] (fun tv wr => ∃ (T : ByteArray) (rows : List RowR), tv = .string T ∧ PBox wr (w.heap.size + 1) w.heap.size rows ∧ T.size ≤ 4194304 ∧ (∃ n, T.data.toList.length ≤ n ∧ parseR n rows T.data.toList = ANS) ∧ Below w.heap.size w wr) (fun tv _ => strLen tv)
  case atStart => exact ⟨t, [], rfl, HBX.out, hs, ⟨_, Nat.le_refl _, HA.out⟩, HB0.out⟩
  case round =>
    obtain ⟨T, rows, rfl, hbx, hts, ⟨n, hn, ha⟩, hbr⟩ := hrel
    have HX := hidM hbx
    have HB := hidM hbr
    have HGR := hidM (HG.out.below hbr)
    have HAA := hidM ha
    clear hbx hbr ha HA HBX HB0 HG hs
    by_cases h0 : T.data.toList = []
    · have e1 : T.toList.isEmpty = true := by rw [ByteArray.toList_eq, h0]; rfl
      have HF : Hid (ANS = (0, rows)) := by unfold Hid; rw [← HAA.out, h0, parse_nil]
      have c0 := HX.out.c0
      clear h0 hn hts HAA
      go_wp2_with fail
      go_ret2
      refine ⟨.inr ⟨by rw [HF.out], w.heap.size, Nat.le_refl _, by rw [HF.out]; exact HX.out.map, HAOK.out, rfl⟩, HB.out⟩
    · have e1 : T.toList.isEmpty = false := by
        rw [ByteArray.toList_eq]
        cases hq : T.data.toList with
        | nil => exact absurd hq h0
        | cons a l => rfl
      obtain ⟨j, rfl⟩ : ∃ j, n = j + 1 := ⟨n - 1, by have := List.length_pos_iff.2 h0; omega⟩
      have hrest := rest_less h0
      have HA2 := hidM HAA.out
      rw [parse_cons h0] at HA2
      have HCT := hidM (cut_at T 10 m wr (by omega) HGR.out)
      have hzt := sub_size (· != 10) T.data.toList
      rw [sl_len] at hzt hn
      have hz1 := hzt.1
      have hz2 := hzt.2
      rw [sl_len] at hrest
      have HLN := hidM (fun k => line_any (w.heap.size + 1) w.heap.size rows (mkB (T.data.toList.takeWhile (· != 10))) m (wr.drewN k) (HX.out.drewN k) (by rw [mkB_size]; omega) (HGR.out.drewN k))
      rw [mkB_list] at HLN
      clear h0 HAA hzt
      generalize T.data.toList.contains 10 = cc at *
      generalize T.data.toList.takeWhile (· != 10) = L at *
      generalize (T.data.toList.dropWhile (· != 10)).drop 1 = Z at *
      cases cc with
      | false =>
        have HF : Hid (ANS = (3, rows)) := by unfold Hid; rw [← HA2.out, if_pos rfl]
        clear HA2 HLN hz1 hz2 hrest hn hts
        generalize mkB L = LB at *
        generalize mkB Z = ZB at *
        go_wp2_with fail
        refine HCT.out.mono ?_
        rintro _ w1 ⟨rfl, k, rfl⟩
        go_wp2_with fail
        go_ret2
        refine ⟨.inl ⟨by rw [HF.out]; simp, by rw [HF.out]; rfl⟩, below_drewN HB.out k⟩
      | true =>
        have HA3 : Hid ((if (stepR rows L).1 = 0 then parseR j (stepR rows L).2 Z else ((stepR rows L).1, rows)) = ANS) := by
          unfold Hid; rw [← HA2.out, if_neg (show ¬ (true = false) by decide)]
        clear HA2
        generalize stepR rows L = ST at *
        obtain ⟨er, rows2⟩ := ST
        simp only at HA3
        by_cases her : er = 0
        · subst her
          have HF : Hid (∃ n, (mkB Z).data.toList.length ≤ n ∧ parseR n rows2 (mkB Z).data.toList = ANS) := by
            refine ⟨j, ?_, ?_⟩
            · rw [mkB_list]; omega
            · rw [mkB_list]; rw [← HA3.out, if_pos rfl]
          have hzs : Hid ((mkB Z).size ≤ 4194304 ∧ (mkB Z).size < T.size) := by
            unfold Hid; rw [mkB_size]; omega
          clear HA3 hz1 hz2 hrest hn hts
          generalize mkB L = LB at *
          generalize mkB Z = ZB at *
          go_wp2_with fail
          refine HCT.out.mono ?_
          rintro _ w1 ⟨rfl, k, rfl⟩
          go_wp2_with fail
          refine (HLN.out k).mono ?_
          rintro _ w2 ⟨rfl, hx2, hb2⟩
          have HX2 := hidM hx2
          have HB2 := hidM (HB.out.trans (below_of_drewN (hb2 w.heap.size (by omega) (Nat.le_refl _))))
          clear hx2 hb2
          go_wp2_with fail
          go_roundw
          case rel => exact ⟨ZB, rows2, rfl, HX2.out, hzs.out.1, HF.out, HB2.out⟩
          case measure => exact hzs.out.2
        · have HF : Hid (ANS = (er, rows)) := by unfold Hid; rw [← HA3.out, if_neg her]
          have her2 : ((er : Int) == 0) = false := by simp; omega
          clear HA3 hz1 hz2 hrest hn hts
          have HER := hidM her
          clear her
          generalize mkB L = LB at *
          generalize mkB Z = ZB at *
          go_wp2_with fail
          refine HCT.out.mono ?_
          rintro _ w1 ⟨rfl, k, rfl⟩
          go_wp2_with fail
          refine (HLN.out k).mono ?_
          rintro _ w2 ⟨rfl, hx2, hb2⟩
          have HB2 := hidM (HB.out.trans (below_of_drewN (hb2 w.heap.size (by omega) (Nat.le_refl _))))
          clear hx2 hb2
          go_wp2_with fail
          go_ret2
          refine ⟨.inl ⟨by rw [HF.out]; exact HER.out, by rw [HF.out]; rfl⟩, HB2.out⟩
end Go.Proofs.YtjoomlpocpdonaaGreatDoor

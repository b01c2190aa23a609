/-
  RefsReads, the law's walk.
  The way to the card where the road reads a variable that no laid table ties: the world that the card hands on is of its shape, and this says what the variable holds.
  A slice of files that was handed in, opened.
  A heap into which the listed tables are laid meets the rows' condition.
-/
import Derived.Test.YtjoomlpocpdonaaGreatDoorJOpS
import Derived.Test.YtjoomlpocpdonaaGreatDoorJOpL
import Derived.Test.YtjoomlpocpdonaaGreatDoorJLstW
import Derived.Test.YtjoomlpocpdonaaGreatDoorJRfW
import Derived.Handed
import Derived.SizedLaws
import Derived.ChangeOld
import Derived.ShutString
import Derived.Shelf.Vars
import Derived.Test.YtjoomlpocpdonaaGreatDoorJSnapL
import Derived.Deep.SlicePairs
import Derived.Test.YtjoomlpocpdonaaGreatDoorRows
import Derived.ProofKit
import Derived.Lay
import Derived.LaidMore
import Derived.OpenShut
import Derived.Stop.Joined
import Derived.Stop.LaidErr
import Derived.Lib.LaidTab
namespace Go.Proofs.YtjoomlpocpdonaaGreatDoor
open Go.RowKit

theorem run_append_bare {P : Program} {w : World} {base : Nat} {e : TypeId} {size : Nat} (t ty : TypeId) (i : TypeInfo) (ht : P.underlying t = some (.slice e)) (hi : P.info? e = some i)
    (v : Value) (n : Nat) (xs : List Value) (hown : w.ownsRow base e size v n xs) (a : Option Addr) (c : Nat) :
    (Builtin.append_ #[t, t] ty #[v, .slice a 0 c]).run P w = .ok v w := by
  rcases hown.2 with ⟨rfl, rfl⟩ | ⟨g, cap, cur, rfl, _,_, hnc, _⟩
  · cases a <;> simp [Builtin.append_, run_underlying ht, sizeOf, typeInfo, hi, Builtin.lenOf, Builtin.firstCells, loadCells, loadCellsFrom]
  · cases a <;> simp [Builtin.append_, run_underlying ht, sizeOf, typeInfo, hi, Builtin.lenOf, Builtin.firstCells, hnc, storeCells, loadCells, loadCellsFrom]
theorem wpList_append_bare {P : Program} {w : World} {ops : Array Oper} {rest : List Oper} {o : Oper} {a : Act} {Q : Exit → Act → World → Prop} (hgd : o.guard = none) (s x : Operand) (t : TypeId)
    (ho : o.op = .call { callee := .builtin .append, args := #[s, x], argTypes := #[t, t] })
    (base : Nat) (e : TypeId) (i : TypeInfo) (size : Nat) (ht : P.underlying t = some (.slice e)) (hi : P.info? e = some i)
    (v : Value) (n : Nat) (xs : List Value) (hs : a.eval s = v) (hown : w.ownsRow base e size v n xs) (ad : Option Addr) (c : Nat) (hx : a.eval x = .slice ad 0 c)
    (h : wpList P ops Q rest (a.put o.dst v) w) : wpList P ops Q (o :: rest) a w := by
  refine wpList_plain hgd fun K hK => ?_
  have hrun := run_append_bare (P := P) (w := w) t o.type i ht hi v n xs hown ad c
  unfold Oper.wp
  simp [execOp, ho, resolve, invoke, builtin, hs, hx, hrun, Result.andThen]
  exact hK _ _ h
theorem same_self (l : List ByteArray) : sameB l l = true := by unfold sameB; exact decide_eq_true rfl
theorem ok_apart {fs : List FileB} (h : OkF fs) : Apart fs := h.2.1
theorem text_perm {gs fs : List FileB} (hp : gs.Perm fs) (ha : Apart gs) (hb : Apart fs) : textL fs = textL gs := by unfold textL; rw [getL_perm hp ha hb]
theorem getL_same {gs fs : List FileB} (hp : gs.Perm fs) (ha : Apart gs) (hb : Apart fs) : getL fs = getL gs := funext fun n => (getL_perm hp ha hb n).symm
theorem names_perm {gs fs : List FileB} {rows : List RowR} {front : List UInt8} {l m : List ByteArray} (hp : gs.Perm fs) (hl : RiseB l) (hm : RiseB m) (h1 : ∀ z, z ∈ l ↔ NameIn gs rows front z) (h2 : ∀ z, z ∈ m ↔ NameIn fs rows front z) : m = l := by
  refine riseB_one hm hl fun z => ?_
  rw [h1, h2]
  unfold NameIn
  constructor
  · rintro ⟨⟨f, hf, h⟩ | h, hq⟩
    · exact ⟨.inl ⟨f, hp.mem_iff.2 hf, h⟩, hq⟩
    · exact ⟨.inr h, hq⟩
  · rintro ⟨⟨f, hf, h⟩ | h, hq⟩
    · exact ⟨.inl ⟨f, hp.mem_iff.1 hf, h⟩, hq⟩
    · exact ⟨.inr h, hq⟩
set_option maxRecDepth 100000 in
set_option maxHeartbeats 16000000 in
theorem reads_walk (v : Value) (fs : List FileB) (name front : ByteArray) (m : Int) (w : World) (hF : FilesV w v fs) (hm : w.cell? ⟨0, 0, none⟩ = some (.int .i64 m)) (hnz : name.size ≤ 281474976710656) :
    Calls Tryz.prog 3 #[v, .string name, .string front] w fun e w' => e = .returned (.bool true) ∧ Below w.heap.size w w' := by
  have h0lt : 0 < w.heap.size := by
    rcases Nat.lt_or_ge 0 w.heap.size with h | h
    · exact h
    · unfold World.cell? at hm
      rw [Array.getElem?_eq_none (by simpa using h)] at hm
      cases hm
  have HG : Hid (GOk m w) := ⟨h0lt, hm⟩
  have HS := hidM (short_any v 40 fs w hF (by decide))
  obtain ⟨us, hus⟩ : ∃ us, (fs.take 40).map cutF = us := ⟨_, rfl⟩
  have hsz := sho_size (fs := fs) (n := 40) (by decide)
  rw [hus] at HS hsz
  obtain ⟨hz1, hz2, hz3⟩ := hsz
  have HZ := hidM hz3
  have HNZ := hidM hnz
  have HAW := hidM (fun W hW => awake_any m W (HG.out.below hW))
  obtain ⟨i0, hi, hq0, hq1, hq2⟩ := info_parts info9
  have HZ4 : Hid (∀ f ∈ us, f.2.size ≤ 4194304) := fun f hf => by have := HZ.out f hf; omega
  clear hm h0lt hF hus hz3 hnz
  go_enter Tryz.func3, Tryz.ntmps3
  go_wp2_with fail
  refine HS.out.mono ?_
  rintro _ w1 ⟨⟨g, cp, rfl, hg, hgl, hcp, hfa⟩, hb1⟩
  have HB1 := hidM hb1
  have HFA := hidM hfa
  have HNW := hidM (new_any g 0 cp us w1 hgl hfa (by omega) (by omega))
  clear hb1 hfa HS hg hcp
  go_wp2_with fail
  refine HNW.out.mono ?_
  rintro _ w2 ⟨hp, hb2⟩
  have HB2 := hidM (HB1.out.trans (hb2.mono HB1.out.size))
  have HFA2 := hidM (HFA.out.below hb2 hgl)
  have hgl2 : g < w2.heap.size := Nat.lt_of_lt_of_le hgl hb2.size
  clear hb2 HNW HB1 HFA hgl
  unfold NewPost newR at hp
  rcases hp with ⟨_, rfl⟩ | ⟨_,_, rfl⟩ | ⟨_, hok, gs, q, b, c, hperm, hrs, hfo, hq, hbb, rfl⟩
  · go_wp2_with fail
    refine (HAW.out _ HB2.out).mono ?_
    rintro _ w3 ⟨rfl, hb3⟩
    have HB3 := hidM (HB2.out.trans (hb3.mono HB2.out.size))
    clear hb3
    go_wp2_with fail
    go_ret
    exact ⟨rfl, HB3.out⟩
  · go_wp2_with fail
    refine (HAW.out _ HB2.out).mono ?_
    rintro _ w3 ⟨rfl, hb3⟩
    have HB3 := hidM (HB2.out.trans (hb3.mono HB2.out.size))
    clear hb3
    go_wp2_with fail
    go_ret
    exact ⟨rfl, HB3.out⟩
  have HAU := hidM (ok_apart hok)
  have HTX := hidM (text_perm hperm hrs.apart HAU.out)
  have HGE := hidM (getL_same hperm hrs.apart HAU.out)
  have HPM := hidM hperm
  have HO := hidM (open_any q b 0 c gs m w2 hfo hrs (by rw [hperm.length_eq]; omega) (fun f hf => by have := HZ.out f (hperm.mem_iff.1 hf); omega) (HG.out.below HB2.out))
  clear hperm hrs hfo hq hbb hz1 hok
  go_wp2_with fail
  refine HO.out.mono ?_
  rintro _ w3 ⟨hp3, hb3⟩
  have HB3 := hidM (HB2.out.trans (hb3.mono HB2.out.size))
  have HFA3 := hidM (HFA2.out.below hb3 hgl2)
  have hgl3 : g < w3.heap.size := Nat.lt_of_lt_of_le hgl2 hb3.size
  have HP3 := hidM hp3
  have HRO := hidM (ropen_any g 0 cp us w3 hgl3 HFA3.out (by omega) HAU.out (fun f hf => by have := HZ.out f hf; omega))
  rw [HTX.out] at HRO
  have hp3 := HP3.out
  clear hb3 HO HB2 HFA2 hgl2 HP3
  unfold OpenPost at hp3
  generalize parsed (textL gs) = PA at *
  obtain ⟨er, rows⟩ := PA
  simp only at hp3
  have HN1 := hidM (fun W hW => name_any name m W (HG.out.below hW))
  have HN2 := hidM (fun W => rname_any name W)
  have HN3 := hidM (fun W hW => name_any front m W (HG.out.below hW))
  have HN4 := hidM (fun W => rname_any front W)
  generalize nameL name.data.toList = NA at *
  generalize nameL front.data.toList = NF at *
  rcases hp3 with ⟨hne, rfl⟩ | ⟨h00, r, mb, _, hR, rfl⟩
  · obtain ⟨ei, hei⟩ : ∃ ei : Int, ei = (er : Int) := ⟨_, rfl⟩
    have hne3 : ¬ ei = 0 := by rw [hei]; omega
    have HEI := hidM hei
    have HNE := hidM hne
    rw [← hei]
    clear hne hei
    go_wp2_with fail
    refine HRO.out.mono ?_
    rintro _ w4 ⟨hp4, hb4⟩
    have HB4 := hidM (HB3.out.trans (hb4.mono HB3.out.size))
    unfold ROpenPost at hp4
    simp only at hp4
    rcases hp4 with ⟨_, rfl⟩ | ⟨h0, _⟩
    case inr => exact absurd h0 HNE.out
    rw [← HEI.out]
    clear hb4 HEI HNE HRO
    go_wp2_with fail
    refine (HAW.out _ HB4.out).mono ?_
    rintro _ w5 ⟨rfl, hb5⟩
    have HB5 := hidM (HB4.out.trans (hb5.mono HB4.out.size))
    have HC5 := hidM hb5
    clear hb5 HB4
    go_wp2_with fail
    refine (HN1.out _ HB5.out).mono ?_
    rintro _ w6 ⟨rfl, hb6⟩
    have HB6 := hidM (HB5.out.trans (hb6.mono HB5.out.size))
    have HC6 := hidM (HC5.out.trans (hb6.mono HC5.out.size))
    clear hb6 HB5 HC5
    go_wp2_with fail
    refine (HN2.out _).mono ?_
    rintro _ w7 ⟨rfl, hb7⟩
    have HB7 := hidM (HB6.out.trans (hb7.mono HB6.out.size))
    have HC7 := hidM (HC6.out.trans (hb7.mono HC6.out.size))
    clear hb7 HB6 HC6
    go_wp2_with fail
    refine (HN3.out _ HB7.out).mono ?_
    rintro _ w8 ⟨rfl, hb8⟩
    have HB8 := hidM (HB7.out.trans (hb8.mono HB7.out.size))
    have HC8 := hidM (HC7.out.trans (hb8.mono HC7.out.size))
    clear hb8 HB7 HC7
    go_wp2_with fail
    refine (HN4.out _).mono ?_
    rintro _ wb ⟨rfl, hb9⟩
    have HB9 := hidM (HB8.out.trans (hb9.mono HB8.out.size))
    have HC9 := hidM (HC8.out.trans (hb9.mono HC8.out.size))
    clear hb9 HB8 HC8 HN1 HN2 HN3 HN4
    go_wp2_with fail
    go_ret
    exact ⟨rfl, HB9.out⟩
  have HR := hidM hR
  have H00 := hidM h00
  clear hR h00
  go_wp2_with fail
  refine HRO.out.mono ?_
  rintro _ w4 ⟨hp4, hb4⟩
  have HB4 := hidM (HB3.out.trans (hb4.mono HB3.out.size))
  have HF4 := hidM (HFA3.out.below hb4 hgl3)
  have HR4 := hidM (HR.out.below hb4)
  have hgl4 : g < w4.heap.size := Nat.lt_of_lt_of_le hgl3 hb4.size
  unfold ROpenPost at hp4
  simp only at hp4
  rcases hp4 with ⟨hx, _⟩ | ⟨_,_, gr, cr, rfl, hgr1, hgr, hrv⟩
  · exact absurd H00.out hx
  have hrl : rows.length ≤ 2000 := HR.out.ok.len
  have HRV := hidM hrv
  clear hb4 HRO hrv hgr1 HR H00 HFA3 hgl3
  go_wp2_with fail
  refine (HAW.out _ HB4.out).mono ?_
  rintro _ w5 ⟨rfl, hb5⟩
  have HB5 := hidM (HB4.out.trans (hb5.mono HB4.out.size))
  have HC5 := hidM hb5
  clear hb5 HB4
  go_wp2_with fail
  refine (HN1.out _ HB5.out).mono ?_
  rintro _ w6 ⟨rfl, hb6⟩
  have HB6 := hidM (HB5.out.trans (hb6.mono HB5.out.size))
  have HC6 := hidM (HC5.out.trans (hb6.mono HC5.out.size))
  clear hb6 HB5 HC5
  go_wp2_with fail
  refine (HN2.out _).mono ?_
  rintro _ w7 ⟨rfl, hb7⟩
  have HB7 := hidM (HB6.out.trans (hb7.mono HB6.out.size))
  have HC7 := hidM (HC6.out.trans (hb7.mono HC6.out.size))
  clear hb7 HB6 HC6
  go_wp2_with fail
  refine (HN3.out _ HB7.out).mono ?_
  rintro _ w8 ⟨rfl, hb8⟩
  have HB8 := hidM (HB7.out.trans (hb8.mono HB7.out.size))
  have HC8 := hidM (HC7.out.trans (hb8.mono HC7.out.size))
  clear hb8 HB7 HC7
  go_wp2_with fail
  refine (HN4.out _).mono ?_
  rintro _ wb ⟨rfl, hb9⟩
  have HB9 := hidM (HB8.out.trans (hb9.mono HB8.out.size))
  have HC9 := hidM (HC8.out.trans (hb9.mono HC8.out.size))
  clear hb9 HB8 HC8 HN1 HN2 HN3 HN4
  go_wp2_with fail
  have HRb := hidM (HR4.out.below HC9.out)
  have HFb := hidM (HF4.out.below HC9.out hgl4)
  have HRVb := hidM (HRV.out.below HC9.out hgr)
  have hglb : g < wb.heap.size := Nat.lt_of_lt_of_le hgl4 HC9.out.size
  have hgrb : gr < wb.heap.size := Nat.lt_of_lt_of_le hgr HC9.out.size
  have HM1 := hidM (names_any r b 0 c mb gs rows front m wb HRb.out (HG.out.below HB9.out))
  refine HM1.out.mono ?_
  rintro _ wc ⟨⟨v1, l1, rfl, hs1, hl1, hr1, hm1⟩, hbc⟩
  have HBc := hidM (HB9.out.trans (hbc.mono HB9.out.size))
  have HRc := hidM (HRb.out.below hbc)
  have HFc := hidM (HFb.out.below hbc hglb)
  have HRVc := hidM (HRVb.out.below hbc hgrb)
  have hglc : g < wc.heap.size := Nat.lt_of_lt_of_le hglb hbc.size
  have hgrc : gr < wc.heap.size := Nat.lt_of_lt_of_le hgrb hbc.size
  have HM2 := hidM (rnames_any g 0 cp gr cr us rows front wc hglc HFc.out (by omega) hgrc HRVc.out hrl)
  have HS1 := hidM hs1
  have HI1 := hidM hr1
  have HE1 := hidM hm1
  clear hbc hs1 hr1 hm1 HM1 HRb HFb HRVb hglb hgrb HR4 HF4 HRV hgl4 hgr HB9 HC9
  go_wp2_with fail
  refine HM2.out.mono ?_
  rintro _ wd ⟨⟨v2, l2, rfl, hs2, hl2, hr2, hm2⟩, hbd⟩
  have HBd := hidM (HBc.out.trans (hbd.mono HBc.out.size))
  have HRd := hidM (HRc.out.below hbd)
  have HFd := hidM (HFc.out.below hbd hglc)
  have HRVd := hidM (HRVc.out.below hbd hgrc)
  have hgld : g < wd.heap.size := Nat.lt_of_lt_of_le hglc hbd.size
  have hgrd : gr < wd.heap.size := Nat.lt_of_lt_of_le hgrc hbd.size
  have hll : l2 = l1 := names_perm HPM.out HI1.out hr2 HE1.out hm2
  have HSM := hidM (same_any v1 v2 l1 l2 wd (HS1.out.below hbd) hs2 (by omega))
  rw [hll, same_self] at HSM
  clear hbd hs2 hr2 hm2 hll hl2 HM2 HRc HFc HRVc hglc hgrc HBc HS1 HI1 HE1 hl1
  go_wp2_with fail
  refine HSM.out.mono ?_
  rintro _ we ⟨rfl, hbe⟩
  have HBe := hidM (HBd.out.trans (hbe.mono HBd.out.size))
  have HRe := hidM (HRd.out.below hbe)
  have HFe := hidM (HFd.out.below hbe hgld)
  have HRVe := hidM (HRVd.out.below hbe hgrd)
  have hgle : g < we.heap.size := Nat.lt_of_lt_of_le hgld hbe.size
  have hgre : gr < we.heap.size := Nat.lt_of_lt_of_le hgrd hbe.size
  clear hbe HSM HRd HFd HRVd hgld hgrd HBd
  obtain ⟨HDB, hHDB⟩ : ∃ HDB : ByteArray, HDB = ⟨#[72, 69, 65, 68]⟩ := ⟨_, rfl⟩
  have HO0 : Hid (OwnS (we.alloc (.cells #[.string name, .string ⟨#[72, 69, 65, 68]⟩] 9)) we.heap.size (.slice (some ⟨we.heap.size, 0, none⟩) 2 2) [name, ⟨#[72, 69, 65, 68]⟩]) := World.ownsRow_lit we #[.string name, .string ⟨#[72, 69, 65, 68]⟩] 2 (Nat.le_refl _) (by decide) (by simp)
  have HA0 : Hid (Below we.heap.size we (we.alloc (.cells #[.string name, .string ⟨#[72, 69, 65, 68]⟩] 9))) := (Below.refl _ _).alloc (Nat.le_refl _) _
  have HM3 : Hid (∀ W, Below we.heap.size we W → Calls Tryz.prog 15 #[.slice (some ⟨g, 0, none⟩) us.length cp, .slice (some ⟨gr, 0, none⟩) rows.length cr, .string ⟨#[]⟩] W fun e w' => NamesRet us rows [] e w' ∧ Below W.heap.size W w') := fun W hW =>
    rnames_any g 0 cp gr cr us rows ⟨#[]⟩ W (Nat.lt_of_lt_of_le hgle hW.size) (HFe.out.below hW hgle) (by omega) (Nat.lt_of_lt_of_le hgre hW.size) (HRVe.out.below hW hgre) hrl
  go_wp2_with fail
  refine (HM3.out _ HA0.out).mono ?_
  rintro _ wf ⟨⟨v3, l3, rfl, hs3, hl3, hr3, hm3⟩, hbf⟩
  have HO1 : Hid (OwnS wf we.heap.size (.slice (some ⟨we.heap.size, 0, none⟩) 2 2) [name, ⟨#[72, 69, 65, 68]⟩]) := HO0.out.kept (below_none hbf) (.inr (by simp [Value.ownBlock]))
  have HA1 : Hid (Below we.heap.size we wf) := HA0.out.trans (hbf.mono HA0.out.size)
  have hszf : we.heap.size + 1 ≤ wf.heap.size := by have := hbf.size; simpa using this
  have HZL : Hid (∀ j (h : j < ([name, (⟨#[72, 69, 65, 68]⟩ : ByteArray)] ++ l3).length), ([name, (⟨#[72, 69, 65, 68]⟩ : ByteArray)] ++ l3)[j].size ≤ 281474976710656) := fun j h => by
    have : ∀ z ∈ [name, (⟨#[72, 69, 65, 68]⟩ : ByteArray)] ++ l3, z.size ≤ 281474976710656 := by
      intro z hz
      rcases List.mem_append.1 hz with hz | hz
      · rcases List.mem_cons.1 hz with rfl | hz
        · exact HNZ.out
        · obtain rfl := List.mem_singleton.1 hz
          show (4 : Nat) ≤ _; decide
      · have := name_size (listed_name HRe.out.ok ((hm3 z).1 hz)).1
        rw [sl_len] at this
        omega
    exact this _ (List.getElem_mem h)
  have HCAT : Hid (∀ W B v n (xs : List Value), n = 2 + l3.length → xs = [.string name, .string ⟨#[72, 69, 65, 68]⟩] ++ strsV l3 → W.ownsRow B 9 1 v n xs → OwnS W B v ([name, (⟨#[72, 69, 65, 68]⟩ : ByteArray)] ++ l3)) := fun W B v n xs h1 h2 h => by
    unfold OwnS
    rw [List.length_append, show [name, (⟨#[72, 69, 65, 68]⟩ : ByteArray)].length = 2 from rfl, ← h1]
    unfold strsV at h2 ⊢
    rw [List.map_append, ← show ([.string name, .string ⟨#[72, 69, 65, 68]⟩] : List Value) = [name, (⟨#[72, 69, 65, 68]⟩ : ByteArray)].map Value.string from rfl, ← h2]
    exact h
  obtain ⟨a3, c3, rfl, hst3⟩ := hs3
  clear hr3 hm3 hbf HO0 HA0 HM3 hHDB HPM HTX HZ HNZ HAW
  -- the row that is gone through
  by_cases hl0 : l3 = []
  · subst hl0
    have HOL := hidM (HCAT.out _ _ _ 2 _ rfl (by rfl) HO1.out)
    have HAL := hidM HA1.out
    clear HA1 HCAT hst3
    generalize hLN : [name, (⟨#[72, 69, 65, 68]⟩ : ByteArray)] ++ [] = LN at *
    have hlen1 : LN.length ≤ 100000 := by rw [← hLN]; simp; try omega
    have hlen2 : 2 ≤ LN.length := by rw [← hLN]; simp
    obtain ⟨aL, cL, hvL, hsL⟩ := HOL.out.shape
    obtain ⟨gL, rfl, _, hgL, hstL⟩ := hsL (by intro h; rw [h] at hlen2; simp at hlen2)
    have HSL := hidM hstL
    have HBL := hidM (HBe.out.trans (HAL.out.mono HBe.out.size))
    have HRL := hidM (HRe.out.below HAL.out)
    have HFL := hidM (HFe.out.below HAL.out hgle)
    have HRVL := hidM (HRVe.out.below HAL.out hgre)
    have hglL : g < wf.heap.size := Nat.lt_of_lt_of_le hgle HAL.out.size
    have hgrL : gr < wf.heap.size := Nat.lt_of_lt_of_le hgre HAL.out.size
    clear hstL hsL HOL HAL HBe HRe HFe HRVe hgle hgre
    have HVL := hidM hvL
    clear hLN hvL
    go_wp2_with (first
      | (at_builtin; refine wpList_append_bare rfl _ _ 37 rfl we.heap.size 9 i0 1 Tryz.underlying37 hi (.slice (some ⟨we.heap.size, 0, none⟩) 2 2) 2 [.string name, .string ⟨#[72, 69, 65, 68]⟩] rfl HO1.out a3 c3 rfl ?_; rw [HVL.out]))
    clear HO1 HVL
    go_loopw [92] (fun i wr => ∃ (k : Nat), k ≤ LN.length ∧ i = .int .i64 k ∧ Below wf.heap.size wf wr) (fun i _ => LN.length - (intOf i).toNat)
    case atStart => exact ⟨0, Nat.zero_le _, rfl, Below.refl _ _⟩
    case round =>
      obtain ⟨k, hk, rfl, hbr⟩ := hrel
      have HBR := hidM hbr
      have HRR := hidM (HRL.out.below hbr)
      have HFR := hidM (HFL.out.below hbr hglL)
      have HRVR := hidM (HRVL.out.below hbr hgrL)
      have HGR := hidM (HG.out.below (HBL.out.trans (hbr.mono HBL.out.size)))
      have hglR : g < wr.heap.size := Nat.lt_of_lt_of_le hglL hbr.size
      have hgrR : gr < wr.heap.size := Nat.lt_of_lt_of_le hgrL hbr.size
      have hsR := HBR.out.size
      clear hbr
      by_cases hlt : k < LN.length
      · have kk : (k : Int) < (LN.length : Int) := by omega
        have y0 := (HSL.out.below HBR.out hgL) k hlt
        have hxz := HZL.out k hlt
        generalize LN[k] = X at *
        by_cases h60 : (60 : Int) < (k : Int)
        · have HGB := hidM (HBL.out.trans (HBR.out.mono HBL.out.size))
          go_wp2_with fail
          all_goals (go_ret; exact ⟨rfl, HGB.out⟩)
        have HL1 := hidM (lookup_any r b 0 c mb gs rows X m wr HRR.out HGR.out)
        have HL2 := hidM (fun W (hW : Below wr.heap.size wr W) => rlookup_any g 0 cp gr cr us rows X W (Nat.lt_of_lt_of_le hglR hW.size) (HFR.out.below hW hglR) (by omega) HAU.out (Nat.lt_of_lt_of_le hgrR hW.size) (HRVR.out.below hW hgrR) hrl HZ4.out)
        have HP1 := hidM (fun W (hW : Below wr.heap.size wr W) => peeled_any r b 0 c mb gs rows X W (HRR.out.below hW) hxz)
        have HP2 := hidM (fun W (hW : Below wr.heap.size wr W) => rpeeled_any g 0 cp gr cr us rows X W (Nat.lt_of_lt_of_le hglR hW.size) (HFR.out.below hW hglR) (by omega) HAU.out (Nat.lt_of_lt_of_le hgrR hW.size) (HRVR.out.below hW hgrR) hrl)
        rw [HGE.out] at HL2 HP2
        rw [pair_out] at HL1 HL2
        generalize lookL (getL gs) rows X.data.toList = LR at *
        generalize peeledL (getL gs) rows X.data.toList = PL at *
        obtain ⟨le, lid⟩ := LR
        simp only at HL1 HL2
        obtain ⟨li, hli⟩ : ∃ li : Int, li = (le : Int) := ⟨_, rfl⟩
        rw [← hli] at HL1 HL2
        generalize mkB lid = LB at *
        generalize mkB PL = PB at *
        clear hli hxz HFR HRVR hglR hgrR HRR HGR
        go_wp2_with fail
        refine HL1.out.mono ?_
        rintro _ w5 ⟨rfl, hb5⟩
        have HK5 := hidM hb5
        clear hb5 HL1
        go_wp2_with fail
        refine (HL2.out _ HK5.out).mono ?_
        rintro _ w6 ⟨rfl, hb6⟩
        have HK6 := hidM (HK5.out.trans (hb6.mono HK5.out.size))
        clear hb6 HL2 HK5
        go_wp2_with fail
        refine (HP1.out _ HK6.out).mono ?_
        rintro _ w7 ⟨rfl, hb7⟩
        have HK7 := hidM (HK6.out.trans (hb7.mono HK6.out.size))
        clear hb7 HP1 HK6
        go_wp2_with fail
        refine (HP2.out _ HK7.out).mono ?_
        rintro _ w8 ⟨rfl, hb8⟩
        have HK8 := hidM (HBR.out.trans ((HK7.out.trans (hb8.mono HK7.out.size)).mono hsR))
        clear hb8 HP2 HK7
        go_wp2_with fail
        go_roundw
        case rel => exact ⟨k + 1, by omega, by go_num, HK8.out⟩
        case measure => (show LN.length - ((k : Int) + 1).toNat < LN.length - ((k : Int)).toNat); omega
      · obtain rfl : k = LN.length := by omega
        have HGB := hidM (HBL.out.trans (HBR.out.mono HBL.out.size))
        go_wp2_with fail
        go_ret
        exact ⟨rfl, HGB.out⟩
  · obtain ⟨g3, rfl, hg3, hst⟩ := hst3 hl0
    have HST := hidM hst
    clear hst hst3
    go_wp2_with (first
      | (at_builtin; refine wpList_append_own _ rfl _ _ 37 rfl we.heap.size 9 i0 (.string .empty) 1 16 Tryz.underlying37 hi hq0 hq1 hq2 rfl (by decide) _ 2 [.string name, .string ⟨#[72, 69, 65, 68]⟩] rfl HO1.out ⟨g3, 0, none⟩ l3.length c3 (strsV l3) ?p0 ?p6 ?p1 ?p2 ?p3 ?p4 ?p5 ?_))
    case p0 => rfl
    case p6 => unfold strsV; simp
    case p1 =>
      intro j u hj
      rw [Addr.add_lit, Nat.zero_add]
      unfold strsV at hj
      rw [List.getElem?_map] at hj
      obtain ⟨z, hz, rfl⟩ := Option.map_eq_some_iff.1 hj
      obtain ⟨hj2, rfl⟩ := List.getElem?_eq_some_iff.1 hz
      exact HST.out j hj2
    case p2 =>
      intro u hu
      unfold strsV at hu
      obtain ⟨z, _, rfl⟩ := List.mem_map.1 hu
      rfl
    case p3 => unfold maxLen; omega
    case p4 => omega
    case p5 => omega
    intro v4 w4a hown4 hgrow4 _
    have HOL := hidM (HCAT.out w4a _ v4 (2 + l3.length) _ rfl rfl hown4)
    have HAL : Hid (Below we.heap.size we w4a) := HA1.out.grown hgrow4 (by omega) (fun j hj => (World.ownsRow.lt HO1.out j hj).1)
    clear hown4 hgrow4 HO1 HA1 HCAT HST
    generalize hLN : [name, (⟨#[72, 69, 65, 68]⟩ : ByteArray)] ++ l3 = LN at *
    have hlen1 : LN.length ≤ 100000 := by rw [← hLN]; simp; try omega
    have hlen2 : 2 ≤ LN.length := by rw [← hLN]; simp
    obtain ⟨aL, cL, hvL, hsL⟩ := HOL.out.shape
    obtain ⟨gL, rfl, _, hgL, hstL⟩ := hsL (by intro h; rw [h] at hlen2; simp at hlen2)
    have HSL := hidM hstL
    have HBL := hidM (HBe.out.trans (HAL.out.mono HBe.out.size))
    have HRL := hidM (HRe.out.below HAL.out)
    have HFL := hidM (HFe.out.below HAL.out hgle)
    have HRVL := hidM (HRVe.out.below HAL.out hgre)
    have hglL : g < w4a.heap.size := Nat.lt_of_lt_of_le hgle HAL.out.size
    have hgrL : gr < w4a.heap.size := Nat.lt_of_lt_of_le hgre HAL.out.size
    clear hstL hsL HOL HAL HBe HRe HFe HRVe hgle hgre
    obtain rfl := hvL
    clear hLN
    go_wp2_with fail
    go_loopw [92] (fun i wr => ∃ (k : Nat), k ≤ LN.length ∧ i = .int .i64 k ∧ Below w4a.heap.size w4a wr) (fun i _ => LN.length - (intOf i).toNat)
    case atStart => exact ⟨0, Nat.zero_le _, rfl, Below.refl _ _⟩
    case round =>
      obtain ⟨k, hk, rfl, hbr⟩ := hrel
      have HBR := hidM hbr
      have HRR := hidM (HRL.out.below hbr)
      have HFR := hidM (HFL.out.below hbr hglL)
      have HRVR := hidM (HRVL.out.below hbr hgrL)
      have HGR := hidM (HG.out.below (HBL.out.trans (hbr.mono HBL.out.size)))
      have hglR : g < wr.heap.size := Nat.lt_of_lt_of_le hglL hbr.size
      have hgrR : gr < wr.heap.size := Nat.lt_of_lt_of_le hgrL hbr.size
      have hsR := HBR.out.size
      clear hbr
      by_cases hlt : k < LN.length
      · have kk : (k : Int) < (LN.length : Int) := by omega
        have y0 := (HSL.out.below HBR.out hgL) k hlt
        have hxz := HZL.out k hlt
        generalize LN[k] = X at *
        by_cases h60 : (60 : Int) < (k : Int)
        · have HGB := hidM (HBL.out.trans (HBR.out.mono HBL.out.size))
          go_wp2_with fail
          all_goals (go_ret; exact ⟨rfl, HGB.out⟩)
        have HL1 := hidM (lookup_any r b 0 c mb gs rows X m wr HRR.out HGR.out)
        have HL2 := hidM (fun W (hW : Below wr.heap.size wr W) => rlookup_any g 0 cp gr cr us rows X W (Nat.lt_of_lt_of_le hglR hW.size) (HFR.out.below hW hglR) (by omega) HAU.out (Nat.lt_of_lt_of_le hgrR hW.size) (HRVR.out.below hW hgrR) hrl HZ4.out)
        have HP1 := hidM (fun W (hW : Below wr.heap.size wr W) => peeled_any r b 0 c mb gs rows X W (HRR.out.below hW) hxz)
        have HP2 := hidM (fun W (hW : Below wr.heap.size wr W) => rpeeled_any g 0 cp gr cr us rows X W (Nat.lt_of_lt_of_le hglR hW.size) (HFR.out.below hW hglR) (by omega) HAU.out (Nat.lt_of_lt_of_le hgrR hW.size) (HRVR.out.below hW hgrR) hrl)
        rw [HGE.out] at HL2 HP2
        rw [pair_out] at HL1 HL2
        generalize lookL (getL gs) rows X.data.toList = LR at *
        generalize peeledL (getL gs) rows X.data.toList = PL at *
        obtain ⟨le, lid⟩ := LR
        simp only at HL1 HL2
        obtain ⟨li, hli⟩ : ∃ li : Int, li = (le : Int) := ⟨_, rfl⟩
        rw [← hli] at HL1 HL2
        generalize mkB lid = LB at *
        generalize mkB PL = PB at *
        clear hli hxz HFR HRVR hglR hgrR HRR HGR
        go_wp2_with fail
        refine HL1.out.mono ?_
        rintro _ w5 ⟨rfl, hb5⟩
        have HK5 := hidM hb5
        clear hb5 HL1
        go_wp2_with fail
        refine (HL2.out _ HK5.out).mono ?_
        rintro _ w6 ⟨rfl, hb6⟩
        have HK6 := hidM (HK5.out.trans (hb6.mono HK5.out.size))
        clear hb6 HL2 HK5
        go_wp2_with fail
        refine (HP1.out _ HK6.out).mono ?_
        rintro _ w7 ⟨rfl, hb7⟩
        have HK7 := hidM (HK6.out.trans (hb7.mono HK6.out.size))
        clear hb7 HP1 HK6
        go_wp2_with fail
        refine (HP2.out _ HK7.out).mono ?_
        rintro _ w8 ⟨rfl, hb8⟩
        have HK8 := hidM (HBR.out.trans ((HK7.out.trans (hb8.mono HK7.out.size)).mono hsR))
        clear hb8 HP2 HK7
        go_wp2_with fail
        go_roundw
        case rel => exact ⟨k + 1, by omega, by go_num, HK8.out⟩
        case measure => (show LN.length - ((k : Int) + 1).toNat < LN.length - ((k : Int)).toNat); omega
      · obtain rfl : k = LN.length := by omega
        have HGB := hidM (HBL.out.trans (HBR.out.mono HBL.out.size))
        go_wp2_with fail
        go_ret
        exact ⟨rfl, HGB.out⟩
end Go.Proofs.YtjoomlpocpdonaaGreatDoor
namespace Go.Proofs.YtjoomlpocpdonaaGreatDoor
open Go.ChangeShapes Go.WideShapes Go.WideMaps Go.WideElems

def MI (w : World) : Prop := ∃ m, w.cell? ⟨0, 0, none⟩ = some (.int .i64 m)
theorem mi_of_open {w : World} (h : w.ShapedOpen Tryz.prog) : MI w :=
  cell_of_shapedOpen_int (P := Tryz.prog) (g := 0) (t := 3) (zero := #[.int .i64 0]) (k := .i64) h (of_decide_eq_true (by kernel_rfl)) (by kernel_rfl) rfl (by kernel_rfl) (by kernel_rfl) (by kernel_rfl)

theorem handed_open {H : Type} {enc : TypeId × Value → H} {a : Assume} {C : Checked} {os : Os} {f : FuncId} {fn : Func} {s : ChangeSpec} {conds : List PathCond} {apart fresh handsOn again : Bool} {X : World → Array Value → Prop}
    (hX : ∀ (w w' : World) (args : Array Value), w.heap = w'.heap → X w args → X w' args)
    (own : ownKnob C.prog.godebug = none) (started : os.Started) (noInit : C.prog.inits.idxOf? f = none) (hfn : C.prog.funcs[f]? = some fn)
    (wit : ∃ (w : World) (tape : Tape) (i : Input), w.os = os ∧ (w.forCall tape i).Shaped C.prog ∧ i.vars = [] ∧ Input.okWide C.prog (w.forCall tape i) .any w.heap.size f i ∧
      ((s.pre enc C.prog fn conds apart (w.forCall tape i).memory i.args ∧ X (w.forCall tape i).memory i.args) ∧ sizedMet enc C.prog fn (OpenSpec.ofChange s) apart (w.forCall tape i).memory i.args) ∧ a.holds C.prog (lone (Frame.enter C.prog f i.args .normal) [] (w.forCall tape i)))
    (K : ∀ (W : World) (base : Nat) (args : Array Value) (ds gs : List (DataW H)) (before : List MemPlace), W.ShapedOpen C.prog →
      (∀ (j : Nat) t v, fn.params[j]? = some t → args[j]? = some v → Value.okWide C.prog W .any base t v) →
      DataW.Whole enc C.prog fn.params.toList s.vars apart W args.toList ds gs before →
      conds.all (PathCond.test C.prog ⟨fn.params.toList, ds, s.plain.varTypes C.prog, gs⟩) = true →
      (DataW.weightsEach C.prog (fn.params.toList ++ s.plain.varTypes C.prog) (ds ++ gs)).all (· ≤ reachBytes) = true → X W args →
      Calls C.prog f args W fun e W' => ∃ v, e = .returned v ∧ s.post enc C.prog fn apart fresh handsOn again W args v W') :
    ReturnsInHanded a C os f .any (fun w args => (s.pre enc C.prog fn conds apart w args ∧ X w args) ∧ sizedMet enc C.prog fn (OpenSpec.ofChange s) apart w args) (s.post enc C.prog fn apart fresh handsOn again) := by
  refine returnsInHanded_of_calls own started noInit wit fun w tape i _ hso _ hok hpre _ => ?_
  obtain ⟨_,_,_, g, hg, _,_,_,_, hval⟩ := hok
  obtain rfl : g = fn := Option.some.inj (hg.symm.trans hfn)
  obtain ⟨⟨⟨ds, gs, before, hw, hc⟩, hx⟩, hz⟩ := hpre
  refine (K (w.forCall tape i) w.heap.size i.args ds gs before hso hval (DataW.Whole.of_heap (w' := w.forCall tape i) (by rfl) hw) hc (hz.weights hw) (hX _ _ _ (by rfl) hx)).mono fun e W' ⟨v, he, hp⟩ => ?_
  subst he
  exact ChangeSpec.post_blind hp
end Go.Proofs.YtjoomlpocpdonaaGreatDoor
namespace Go.Proofs.YtjoomlpocpdonaaGreatDoor
open Go.ChangeShapes Go.WideShapes Go.RowKit
theorem cells32 : Tryz.prog.cellsOf 48 = 2 := by kernel_rfl
theorem cells9' : Tryz.prog.cellsOf 9 = 1 := by kernel_rfl
theorem weightsAll_mem {H : Type} {P : Program} {e : TypeId} {l : List (DataW H)} {d : DataW H} (h : d ∈ l) {n : Nat} (hn : n ∈ d.weights P e) : n ∈ DataW.weightsAll P e l := by
  induction l with
  | nil => cases h
  | cons x l ih =>
    rw [DataW.weightsAll, List.mem_append]
    rcases List.mem_cons.1 h with rfl | h
    · exact .inl hn
    · exact .inr (ih h)
set_option maxRecDepth 100000 in
theorem open_files {H : Type} {enc : TypeId × Value → H} {W : World} {v : Value} {d : DataW H} {p : List MemPlace} {ts : List TypeId} {ds : List (DataW H)} {j : Nat} (hv1 : v.cells.toList = [v])
    (hw : (DataW.weightsEach Tryz.prog ts ds).all (· ≤ reachBytes) = true) (htj : ts[j]? = some 22) (hdj : ds[j]? = some d)
    (h : DataW.Trod enc Tryz.prog W 0 (fun _ => true) true 22 v d p) :
    ∃ fs, FilesV W v fs ∧ ∀ f ∈ fs, f.1.size ≤ 140737488355328 ∧ f.2.size ≤ 140737488355328 := by
  obtain ⟨fuel, hf⟩ := h
  rcases Deep.open_slice_pairs Tryz.underlying22 Tryz.underlying48 cells32 rfl rfl cells9' cells9' hf with ⟨h0, _⟩ | ⟨a, len, cap, m, n, V0, V1, D0, D1, P0, P1, h0, _, hlc, _, hm, hx, hall⟩
  · rw [hv1] at h0
    exact ⟨[], .inl ⟨by simpa using h0, rfl⟩, fun f hf => by cases hf⟩
  · rw [hv1] at h0
    have hv : v = .slice (some a) len cap := by simpa using h0
    by_cases hl : len = 0
    · subst hl
      exact ⟨[], .inr (.inl ⟨a, cap, hv, rfl⟩), fun f hf => by cases hf⟩
    · have hlm : len ≤ m := by rw [hm]; split <;> omega
      have each : ∀ i, i < len → ∃ f : FileB, W.cell? (a.add (i * 2)) = some (.string f.1) ∧ W.cell? (a.add (i * 2 + 1)) = some (.string f.2) ∧ f.1.size ≤ 140737488355328 ∧ f.2.size ≤ 140737488355328 := by
        intro i hi
        obtain ⟨c0, c1, t0, t1⟩ := hall i (by omega)
        obtain ⟨b0, e0, g0, _⟩ := DataW.trod_string Tryz.underlying9 t0
        obtain ⟨b1, e1, g1, _⟩ := DataW.trod_string Tryz.underlying9 t1
        simp only [List.cons.injEq, and_true] at e0 e1
        rw [e0] at c0
        rw [e1] at c1
        have hd : d = .slice ((List.range len).map fun i => .agg [D0 i, D1 i]) ((List.range (m - len)).map fun j => .agg [D0 (len + j), D1 (len + j)]) := congrArg Prod.fst hx
        have hmem : ∀ k, k ∈ (DataW.agg [D0 i, D1 i]).weights Tryz.prog 48 → k ≤ reachBytes := fun k hk => by
          have h1 : k ∈ d.weights Tryz.prog 22 := by
            rw [hd]
            simp only [DataW.weights, Tryz.underlying22]
            refine List.mem_cons_of_mem _ (List.mem_append.2 (.inl (weightsAll_mem (d := .agg [D0 i, D1 i]) (List.mem_map.2 ⟨i, List.mem_range.2 hi, rfl⟩) hk)))
          simpa using List.all_eq_true.1 hw _ (DataW.weights_mem_each htj hdj k h1)
        have k0 : D0 i = .lit (.string b0.data.toList) := congrArg Prod.fst g0
        have k1 : D1 i = .lit (.string b1.data.toList) := congrArg Prod.fst g1
        have s0 := hmem b0.size (by rw [Lib.size_eq]; simp [DataW.weights, DataW.weightsEach, Tryz.underlying48, k0])
        have s1 := hmem b1.size (by rw [Lib.size_eq]; simp [DataW.weights, DataW.weightsEach, Tryz.underlying48, k1])
        unfold reachBytes at s0 s1
        exact ⟨(b0, b1), c0, c1, (by show b0.size ≤ _; omega), (by show b1.size ≤ _; omega)⟩
      obtain ⟨F, hF⟩ := Deep.choose_lt each
      have ha : ∃ b off, a = ⟨b, off, none⟩ := by
        obtain ⟨c0, _⟩ := hF 0 (by omega)
        rcases a with ⟨b, off, x⟩
        cases x with
        | none => exact ⟨b, off, rfl⟩
        | some y =>
          simp [World.cell?, Addr.add] at c0
          split at c0 <;> cases c0
      obtain ⟨b, off, rfl⟩ := ha
      have hlen : ((List.range len).map F).length = len := by simp
      refine ⟨(List.range len).map F, .inr (.inr ⟨b, off, cap, by rw [hlen]; exact hv, ?_, by rw [hlen]; exact hlc⟩), ?_⟩
      · intro i hi
        rw [hlen] at hi
        obtain ⟨c0, c1, _⟩ := hF i hi
        simp only [List.getElem_map, List.getElem_range]
        rw [Addr.add_lit] at c0 c1
        exact ⟨c0, by rw [← Nat.add_assoc] at c1; exact c1⟩
      · intro f hf
        obtain ⟨i, hi, rfl⟩ := List.mem_map.1 hf
        exact (hF i (List.mem_range.1 hi)).2.2
end Go.Proofs.YtjoomlpocpdonaaGreatDoor
namespace Go.Proofs.YtjoomlpocpdonaaGreatDoor
open Go.ChangeShapes Go.WideShapes Go.ChangeAt Go.WideMaps Go.WideElems Go.RowKit

def laidT : List (String × DataW Unit) := [("unicode/utf8.acceptRanges", Rows.laid_unicode_utf8_acceptRanges), ("unicode/utf8.first", Rows.laid_unicode_utf8_first)]
theorem own : ownKnob Tryz.prog.godebug = none := by kernel_rfl
theorem laidOut : laidOutB Tryz.prog = true := by kernel_rfl
theorem laidT_met (os : Os) (args : Array Value) : laidMetH Tryz.prog laidT ((World.laidAll Tryz.prog os laidT).forCall (fun _ _ => 0) ⟨#[], args, []⟩).memory := by
  rw [MakeChecks.laidMetH_plain _ _ _ (by kernel_rfl)]; exact laidMet_laidAll _ (by kernel_rfl) (by kernel_rfl)
end Go.Proofs.YtjoomlpocpdonaaGreatDoor

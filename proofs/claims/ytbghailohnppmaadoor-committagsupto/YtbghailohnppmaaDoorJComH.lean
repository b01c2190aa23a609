/-
  attempt: what gives up by a panic is told by a number; Parse.
  Walks of commit: Check.
  Walks of commit: Format.
  Walks of commit: Parse.
-/
import Derived.Test.YtbghailohnppmaaDoorJComD
import Derived.Defers
import Derived.Recover
namespace Go.Proofs.YtbghailohnppmaaDoor
open Go.RowKit

theorem eql_nil (w : World) : (binOp .eql 20 .nilIface .nilIface).run Tryd.prog w = .ok (.bool true) w := by kernel_rfl
theorem eql_bad (w : World) : (binOp .eql 20 (.iface 85 (.agg #[])) .nilIface).run Tryd.prog w = .ok (.bool false) w := by kernel_rfl
theorem is_bad (w : World) : (Instr.typeAssert (.iface 85 (.agg #[])) 20 85 true).run Tryd.prog w = .ok (.tuple #[.agg #[], .bool true]) w := by kernel_rfl
theorem tmps56 (a b u : Value) : (#[a] ++ (Array.replicate 9 u).setIfInBounds 3 b) = #[a, u, u, u, b, u, u, u, u, u] := by kernel_rfl
set_option maxRecDepth 20000 in
theorem catch_idle (p : Addr) (w : World) :
    CallsD Tryd.prog 56 #[.pointer (some p)] .returning w fun e u' w' => e = .returned (.tuple #[]) ∧ u' = .returning ∧ w' = w := by
  have hnn := eql_nil
  refine callsD_of_wpS Tryd.func56 rfl fun c₀ cs hu => ?_
  apply wpS_seq
  apply wpS_region
  simp [wpOpsS, go_sem, recoverD, hu, Tryd.ntmps56, Exit.thenS]
  refine wpS_of_wp ?_
  rw [tmps56]
  go_wp2
  cases c₀
  simp_all [bodyPostS, results, Tryd.results56]
set_option maxRecDepth 20000 in
theorem catch_gave (p : Addr) (v : Value) (w : World) (hp : p.block < w.heap.size) (hc : w.cell? p = some v) (hz : w.frozen? p = false) :
    CallsD Tryd.prog 56 #[.pointer (some p)] (.panicking [{ v := .iface 85 (.agg #[]), recovered := false }]) w fun e u' w' =>
      e = .returned (.tuple #[]) ∧ u' = .panicking [{ v := .iface 85 (.agg #[]), recovered := true }] ∧ w' = (w.alloc (.cells #[] 85)).setCell p (.int .i64 3) := by
  have hnn := eql_bad
  have hta := is_bad
  have hfz : (w.alloc (.cells #[] 85)).frozen? p = false := by
    rw [((Below.refl w.heap.size w).alloc (Nat.le_refl _) _).frozen hp]; exact hz
  have hcc : (w.alloc (.cells #[] 85)).cell? p = some v := by
    rw [((Below.refl w.heap.size w).alloc (Nat.le_refl _) _).cell hp]; exact hc
  refine callsD_of_wpS Tryd.func56 rfl fun c₀ cs hu => ?_
  apply wpS_seq
  apply wpS_region
  simp [wpOpsS, go_sem, recoverD, hu, Tryd.ntmps56, Exit.thenS]
  refine wpS_of_wp ?_
  rw [tmps56]
  go_wp2
  simp [bodyPostS, results, Tryd.results56]
set_option maxHeartbeats 1000000 in
theorem attempt_ok (F : Nat) (cap : Array Value) (w : World) (Q : World → Prop) (hF : ∀ args w, (callFunc F args).run Tryd.prog w = .ok (.enter F args) w)
    (hc : Calls Tryd.prog F cap (w.alloc (.cells #[.int .i64 0] 28)) fun e w' => e = .returned (.tuple #[]) ∧ w'.heap[w.heap.size]? = some (.cells #[.int .i64 0] 28 (0, 0)) ∧ Q w') :
    Calls Tryd.prog 37 #[.func (.func F) #[] cap] w fun e w' => e = .returned (.int .i64 0) ∧ ∃ w1, Q w1 ∧ w' = w1.setCell ⟨w.heap.size, 0, none⟩ (.int .i64 0) := by
  have hmf : ∀ (fn : Fn) (first cap : Array Value) (w : World), (Instr.makeFunc fn first cap).run Tryd.prog w = .ok (.func fn first cap) w := fun _ _ _ _ => rfl
  go_enter_defers Tryd.func37, Tryd.ntmps37
  go_wp2_with fail
  refine hc.mono ?_
  rintro e w1 ⟨rfl, hk, hq⟩
  have c1 : w1.cell? ⟨w.heap.size, 0, none⟩ = some (.int .i64 0) := by rw [cell_of_row w1 _ _ _ 28 (0, 0) hk]; rfl
  have c2 : w1.frozen? ⟨w.heap.size, 0, none⟩ = false := frozen_of_row w1 _ 0 _ 28 hk
  have HQ := hidM hq
  have HK := hidM hk
  clear hq hk hc
  go_wp2
  refine leaves_cons (f := 56) (args := #[.pointer (some ⟨w.heap.size, 0, none⟩)]) (by simp) (by simp [go_sem]) ?_
  refine (catch_idle ⟨w.heap.size, 0, none⟩ _).mono ?_
  rintro e u' w'' ⟨rfl, rfl, rfl⟩
  have c3 : (w1.setCell ⟨w.heap.size, 0, none⟩ (.int .i64 0)).cell? ⟨w.heap.size, 0, none⟩ = some (.int .i64 0) := World.cell?_setCell_same _ _ _ c1
  simp [Leaves, settle, results, Tryd.results37, go_sem, c3]
  exact ⟨w1, HQ.out, rfl⟩

set_option maxHeartbeats 1000000 in
theorem attempt_gave (F : Nat) (cap : Array Value) (w : World) (Q : World → Prop) (hF : ∀ args w, (callFunc F args).run Tryd.prog w = .ok (.enter F args) w)
    (hc : Calls Tryd.prog F cap (w.alloc (.cells #[.int .i64 0] 28)) fun e w' => e = gave ∧ w'.heap[w.heap.size]? = some (.cells #[.int .i64 0] 28 (0, 0)) ∧ Q w') :
    Calls Tryd.prog 37 #[.func (.func F) #[] cap] w fun e w' => e = .returned (.int .i64 3) ∧ ∃ w1, Q w1 ∧ w.heap.size < w1.heap.size ∧ w' = (w1.alloc (.cells #[] 85)).setCell ⟨w.heap.size, 0, none⟩ (.int .i64 3) := by
  have hmf : ∀ (fn : Fn) (first cap : Array Value) (w : World), (Instr.makeFunc fn first cap).run Tryd.prog w = .ok (.func fn first cap) w := fun _ _ _ _ => rfl
  go_enter_defers Tryd.func37, Tryd.ntmps37
  go_wp2_with fail
  refine hc.mono ?_
  rintro e w1 ⟨rfl, hk, hq⟩
  have c1 : w1.cell? ⟨w.heap.size, 0, none⟩ = some (.int .i64 0) := by rw [cell_of_row w1 _ _ _ 28 (0, 0) hk]; rfl
  have c2 : w1.frozen? ⟨w.heap.size, 0, none⟩ = false := frozen_of_row w1 _ 0 _ 28 hk
  have hlt : w.heap.size < w1.heap.size := (Array.getElem?_eq_some_iff.1 hk).1
  have HQ := hidM hq
  have HK := hidM hk
  clear hq hk hc
  unfold gave
  go_wp2
  refine leaves_cons (f := 56) (args := #[.pointer (some ⟨w.heap.size, 0, none⟩)]) (by simp) (by simp [go_sem]) ?_
  refine (catch_gave ⟨w.heap.size, 0, none⟩ _ w1 hlt c1 c2).mono ?_
  rintro e u' w'' ⟨rfl, rfl, rfl⟩
  have c3 : ((w1.alloc (.cells #[] 85)).setCell ⟨w.heap.size, 0, none⟩ (.int .i64 3)).cell? ⟨w.heap.size, 0, none⟩ = some (.int .i64 3) :=
    World.cell?_setCell_same _ _ _ (u := .int .i64 0) (by rw [((Below.refl w1.heap.size w1).alloc (Nat.le_refl _) _).cell hlt]; exact c1)
  simp [Leaves, settle, results, Tryd.results37, go_sem, c3]
  exact ⟨w1, HQ.out, hlt, rfl⟩
end Go.Proofs.YtbghailohnppmaaDoor
namespace Go.Proofs.YtbghailohnppmaaDoor
open Go.RowKit

def checkE (t : ByteArray) (ps : List ByteArray) (a c : Sb) : Nat :=
  if 16 < ps.length then 2 else if (ps.all fun p => idB p.data.toList) && (idB t.data.toList && signedG (sgOf a) && signedG (sgOf c)) then 0 else 4
theorem check_big {t : ByteArray} {ps : List ByteArray} {a c : Sb} (h : 16 < ps.length) : checkE t ps a c = 2 := by unfold checkE; rw [if_pos h]
theorem check_par {t : ByteArray} {ps : List ByteArray} {a c : Sb} (h : ¬ 16 < ps.length) (hp : (ps.all fun p => idB p.data.toList) = false) : checkE t ps a c = 4 := by unfold checkE; rw [if_neg h, hp]; rfl
theorem check_rest {t : ByteArray} {ps : List ByteArray} {a c : Sb} (h : ¬ 16 < ps.length) (hp : (ps.all fun p => idB p.data.toList) = true) : checkE t ps a c = if idB t.data.toList && signedG (sgOf a) && signedG (sgOf c) then 0 else 4 := by unfold checkE; rw [if_neg h, hp]; rfl
def CBox (w : World) (g : Nat) (t : ByteArray) (pv : Value) (a c : Sb) (m : ByteArray) : Prop := w.heap[g]? = some (.cells (c26 t pv a c m) 26 (0, 0))
theorem CBox.cell {w : World} {g : Nat} {t : ByteArray} {pv : Value} {a c : Sb} {m : ByteArray} (h : CBox w g t pv a c m) (i : Nat) {v : Value} (hv : (c26 t pv a c m)[i]? = some v) : w.cell? ⟨g, i, none⟩ = some v := by
  rw [cell_of_row w g _ _ 26 (0, 0) h]; exact hv
theorem CBox.below {w w' : World} {g : Nat} {t : ByteArray} {pv : Value} {a c : Sb} {m : ByteArray} (h : CBox w g t pv a c m) (hb : Below w.heap.size w w') : CBox w' g t pv a c m := box_bel h hb
set_option maxHeartbeats 1000000 in
set_option maxRecDepth 20000 in
theorem check_any (t : ByteArray) (pv : Value) (ps : List ByteArray) (a c : Sb) (m : ByteArray) (w : World) (hp : StrsV w pv ps) (ht : t.size ≤ maxLen) (hps : ∀ p ∈ ps, p.size ≤ maxLen) :
    Calls Tryd.prog 13 #[.agg (c26 t pv a c m)] w fun e w' => e = .returned (.int .i64 (checkE t ps a c : Nat)) ∧ Below w.heap.size w w' := by
  obtain ⟨pa, pc, rfl, hst⟩ := hp
  obtain ⟨n, hn⟩ : ∃ n, ps.length = n := ⟨_, rfl⟩
  have HC0 : Hid (CBox (w.alloc (.cells (c26 t (.slice pa n pc) a c m) 26)) w.heap.size t (.slice pa n pc) a c m) := heap_alloc_new w _
  have HB0 : Hid (Below w.heap.size w (w.alloc (.cells (c26 t (.slice pa n pc) a c m) 26))) := (Below.refl _ w).alloc (Nat.le_refl _) _
  rw [hn]
  have HST := hidM hst
  have HN := hidM hn
  by_cases hbig : 16 < n
  · have HR : Hid (checkE t ps a c = 2) := check_big (by omega)
    have g0 : (16 : Int) < (n : Int) := by omega
    clear hst hn
    unfold c26 at *
    go_enter Tryd.func13, Tryd.ntmps13
    go_wp2
    go_ret
    exact ⟨by rw [HR.out]; rfl, HB0.out⟩
  · have g0 : ¬ (16 : Int) < (n : Int) := by omega
    have HID := hidM (fun p (h : p ∈ ps) V => id_any p V (hps p h))
    have HIT := hidM (fun V => id_any t V ht)
    have HSA := hidM (fun V => signed_any a V)
    have HSC := hidM (fun V => signed_any c V)
    have HRP := hidM (fun h => check_par (t := t) (ps := ps) (a := a) (c := c) (by rw [hn]; omega) h)
    have HRR := hidM (fun h => check_rest (t := t) (ps := ps) (a := a) (c := c) (by rw [hn]; omega) h)
    unfold sbV at HSA HSC
    clear hst hn
    go_enter Tryd.func13, Tryd.ntmps13
    unfold c26 at HC0 HB0
    unfold c26
    go_wp2
    unfold CBox c26 at HC0
    generalize w.alloc (.cells #[.string t, .slice pa n pc, .string a.who, .int .i64 a.time, .int .i64 a.zone, .string c.who, .int .i64 c.time, .int .i64 c.zone, .string m] 26) = W at *
    go_loopw [12] (fun i wr => ∃ (k : Nat), k ≤ n ∧ i = .int .i64 k ∧ ((ps.take k).all fun p => idB p.data.toList) = true ∧ Below W.heap.size W wr) (fun i _ => n - (intOf i).toNat)
    case atStart => exact ⟨0, Nat.zero_le _, rfl, rfl, Below.refl _ _⟩
    case round =>
      obtain ⟨k, hk, rfl, hall, hb⟩ := hrel
      have HB := hidM hb
      have HALL := hidM hall
      clear hb hall
      by_cases hlt : k < n
      · have kk : (k : Int) < (n : Int) := by omega
        have hkl : k < ps.length := by rw [HN.out]; exact hlt
        obtain ⟨g, rfl, hg, hat⟩ := HST.out (by intro e; rw [e] at hkl; simp at hkl)
        have ck : wr.cell? ⟨g, k, none⟩ = some (.string ps[k]) := by
          have h1 := hat k hkl
          have h2 : W.cell? ⟨g, k, none⟩ = some (.string ps[k]) := (HB0.out.cell (p := ⟨g, k, none⟩) hg).trans h1
          exact (HB.out.cell (p := ⟨g, k, none⟩) (World.block_lt_of_cell? W _ h2)).trans h2
        have HIK := hidM (HID.out ps[k] (List.getElem_mem hkl))
        have HTK : Hid (((ps.take (k + 1)).all fun p => idB p.data.toList) = idB ps[k].data.toList) := by
          unfold Hid
          rw [List.take_succ_eq_append_getElem hkl, List.all_append, HALL.out]
          simp
        have HAL : Hid (idB ps[k].data.toList = false → (ps.all fun p => idB p.data.toList) = false) := fun h => by
          rw [List.all_eq_false]
          exact ⟨ps[k], List.getElem_mem hkl, by rw [h]; simp⟩
        obtain ⟨P, hP⟩ : ∃ P, P = ps[k] := ⟨_, rfl⟩
        rw [← hP] at ck HIK HTK HAL
        clear hat hP
        cases hid : idB P.data.toList with
        | true =>
          rw [hid] at HIK HTK
          go_wp2_with fail
          refine (HIK.out _).mono ?_
          rintro _ w3 ⟨rfl, hw3⟩
          rw [hw3]
          clear hw3
          go_wp2
          go_roundw
          case rel => exact ⟨k + 1, by omega, by go_num, HTK.out, HB.out⟩
          case measure => (show n - ((k : Int) + 1).toNat < n - ((k : Int)).toNat); omega
        | false =>
          rw [hid] at HIK
          have HR := hidM (HRP.out (HAL.out hid))
          go_wp2_with fail
          refine (HIK.out _).mono ?_
          rintro _ w3 ⟨rfl, hw3⟩
          rw [hw3]
          clear hw3
          go_wp2
          go_ret
          exact ⟨by rw [HR.out]; rfl, HB0.out.trans (HB.out.mono HB0.out.size)⟩
      · have hkn : k = n := by omega
        have HR := hidM (HRR.out (by have := HALL.out; rw [List.take_of_length_le (by rw [HN.out]; omega)] at this; exact this))
        have kk : ¬ (k : Int) < (n : Int) := by omega
        have HBX := hidM (HB0.out.trans (HB.out.mono HB0.out.size))
        have HCW : Hid (∀ V, Below W.heap.size W V → CBox V w.heap.size t (.slice pa n pc) a c m) := fun V hV => CBox.below (show CBox W w.heap.size t (.slice pa n pc) a c m from HC0.out) hV
        have c0 := (HCW.out _ HB.out).cell 0 (v := .string t) rfl
        have a2 := (HCW.out _ HB.out).cell 2 (v := .string a.who) rfl
        have a3 := (HCW.out _ HB.out).cell 3 (v := .int .i64 a.time) rfl
        have a4 := (HCW.out _ HB.out).cell 4 (v := .int .i64 a.zone) rfl
        cases h1 : idB t.data.toList with
        | false =>
          rw [h1] at HIT HR
          go_wp2_with fail
          refine (HIT.out _).mono ?_
          rintro _ w3 ⟨rfl, hw3⟩
          rw [hw3]
          clear hw3
          go_wp2
          go_ret
          exact ⟨by rw [HR.out]; rfl, HBX.out⟩
        | true =>
          cases h2 : signedG (sgOf a) with
          | false =>
            rw [h1] at HIT
            rw [h1, h2] at HR
            rw [h2] at HSA
            go_wp2_with fail
            refine (HIT.out _).mono ?_
            rintro _ w3 ⟨rfl, hw3⟩
            rw [hw3]
            clear hw3
            go_wp2_with fail
            refine (HSA.out _).mono ?_
            rintro _ w4 ⟨rfl, hb4⟩
            have HB4 := hidM (HBX.out.trans (hb4.mono HBX.out.size))
            clear hb4
            go_wp2
            go_ret
            exact ⟨by rw [HR.out]; rfl, HB4.out⟩
          | true =>
            rw [h1] at HIT
            rw [h1, h2] at HR
            rw [h2] at HSA
            have HR2 : Hid (checkE t ps a c = if signedG (sgOf c) then 0 else 4) := by unfold Hid; rw [HR.out]; cases signedG (sgOf c) <;> rfl
            clear HR
            generalize signedG (sgOf c) = sc at *
            go_wp2_with fail
            refine (HIT.out _).mono ?_
            rintro _ w3 ⟨rfl, hw3⟩
            rw [hw3]
            clear hw3
            go_wp2_with fail
            refine (HSA.out _).mono ?_
            rintro _ w4 ⟨rfl, hb4⟩
            have HB4 := hidM (HBX.out.trans (hb4.mono HBX.out.size))
            have hbw := HB.out.trans (hb4.mono HB.out.size)
            have b5 := (HCW.out _ hbw).cell 5 (v := .string c.who) rfl
            have b6 := (HCW.out _ hbw).cell 6 (v := .int .i64 c.time) rfl
            have b7 := (HCW.out _ hbw).cell 7 (v := .int .i64 c.zone) rfl
            clear hb4 hbw
            go_wp2_with fail
            refine (HSC.out _).mono ?_
            rintro _ w5 ⟨rfl, hb5⟩
            have HB5 := hidM (HB4.out.trans (hb5.mono HB4.out.size))
            clear hb5
            cases sc with
            | true =>
              have HR3 : Hid (checkE t ps a c = 0) := HR2.out
              clear HR2 HRR HRP
              go_wp2
              go_ret
              exact ⟨by rw [HR3.out]; rfl, HB5.out⟩
            | false =>
              have HR3 : Hid (checkE t ps a c = 4) := HR2.out
              clear HR2 HRR HRP
              go_wp2
              go_ret
              exact ⟨by rw [HR3.out]; rfl, HB5.out⟩
end Go.Proofs.YtbghailohnppmaaDoor
namespace Go.Proofs.YtbghailohnppmaaDoor
open Go.RowKit

theorem bcells_app (l : List UInt8) (Z : ByteArray) : Lib.byteCells l ++ Lib.strCells Z = Lib.byteCells (l ++ Z.data.toList) := by
  unfold Lib.byteCells Lib.strCells
  rw [List.map_append]
/-- a builder at B that holds the bytes l; nothing below B has turned since W -/
structure BuX (W : World) (B : Nat) (l : List UInt8) (V : World) : Prop where
  bu : Lib.IsBuilder 59 5 B B (Lib.byteCells l) V
  bel : Below B W V
  lt : B ≤ V.heap.size
theorem builder_below {T e : TypeId} {B b : Nat} {bs : List Value} {w w' : World} (h : Lib.IsBuilder T e B b bs w) (hb : Below w.heap.size w w') : Lib.IsBuilder T e B b bs w' := by
  have one : ∀ p, Lib.BuilderAt T e B b p bs w → Lib.BuilderAt T e B b p bs w' := by
    intro p hp
    obtain ⟨h1, v, h2, h3, h4⟩ := hp
    refine ⟨h1, v, box_bel h2 hb, ?_, h4⟩
    obtain ⟨hl, h5⟩ := h3
    refine ⟨hl, ?_⟩
    rcases h5 with h5 | ⟨g, cap, cur, rfl, hBg, hg, hr⟩
    · exact .inl h5
    · exact .inr ⟨g, cap, cur, rfl, hBg, box_bel hg hb, hr⟩
  rcases h with h | h
  · exact .inl (one _ h)
  · exact .inr (one _ h)
theorem BuX.next {W : World} {B : Nat} {l : List UInt8} {V V' : World} (h : BuX W B l V) (hb : Below V.heap.size V V') : BuX W B l V' :=
  ⟨builder_below h.bu hb, h.bel.trans (hb.mono h.lt), Nat.le_trans h.lt hb.size⟩
theorem put_any {W : World} {B : Nat} {l : List UInt8} {V : World} (Z : ByteArray) (h : BuX W B l V) (hlen : l.length + Z.size ≤ 140737488355328) :
    Calls Tryd.prog 28 #[.pointer (some ⟨B, 0, none⟩), .string Z] V fun e w' => e = .returned (.tuple #[.int .i64 Z.size, .nilIface]) ∧ BuX W B (l ++ Z.data.toList) w' := by
  refine (Tryd.Builder_WriteString B B (Lib.byteCells l) Z V h.bu (by rw [Lib.byteCells_length]; exact hlen) h.lt).mono ?_
  rintro e w' ⟨he, hb, hbel⟩
  rw [bcells_app] at hb
  exact ⟨he, .inr hb, h.bel.trans hbel, Nat.le_trans h.lt hbel.size⟩
theorem id_size {p : ByteArray} (h : idB p.data.toList = true) : p.size = 40 := by
  unfold idB at h
  simp only [Bool.and_eq_true, decide_eq_true_eq] at h
  rw [← sl_len]; exact h.2
theorem signed_facts {s : Sb} (h : signedG (sgOf s) = true) : s.who.size ≤ 100 ∧ lineB s.who.data.toList = true ∧ 0 ≤ s.time ∧ s.time ≤ 253402300799 ∧ -840 ≤ s.zone ∧ s.zone ≤ 840 := by
  unfold signedG sgOf at h
  simp only [Bool.and_eq_true, decide_eq_true_eq] at h
  obtain ⟨⟨⟨⟨h1, h2⟩, h3⟩, h4⟩, h5⟩ := h
  have h6 := h1
  unfold lineB at h6
  simp only [Bool.and_eq_true, decide_eq_true_eq] at h6
  exact ⟨by rw [← sl_len]; exact h6.1.1.2, h1, h2, h3, h4, h5⟩
theorem sgB_size (s : Sb) (h : signedG (sgOf s) = true) : (sgB s).size ≤ 130 := by
  obtain ⟨h1, _, h2, h3, _⟩ := signed_facts h
  unfold sgB
  rw [ba_size]
  unfold sgL sgOf
  have := itoa_len s.time (by omega) (by omega)
  simp only [List.length_append, List.length_cons, sl_len, zone_len]
  omega
theorem join3 {x y z : ByteArray} {X Y : ByteArray} (h1 : x ++ y = X) (h2 : X ++ z = Y) : Y.data.toList = x.data.toList ++ y.data.toList ++ z.data.toList ∧ Y.size = x.size + y.size + z.size := by
  subst h1 h2
  constructor
  · simp [ByteArray.data_append]
  · rw [ByteArray.size_append, ByteArray.size_append]

end Go.Proofs.YtbghailohnppmaaDoor
namespace Go.Proofs.YtbghailohnppmaaDoor
open Go.RowKit

theorem below_setRow {B g : Nat} {w wr : World} {c : Array Value} (h : Below B w wr) (hg : B ≤ g) : Below B w (wr.setRow g c) :=
  h.trans ⟨rfl, rfl, rfl, by simp, fun k hk => setRow_other wr g k c (by omega)⟩
theorem own_mono {w : World} {A B : Nat} {v : Value} {l : List ByteArray} (h : OwnS w B v l) (hA : A ≤ B) : OwnS w A v l := by
  obtain ⟨hl, h2⟩ := h
  refine ⟨hl, ?_⟩
  rcases h2 with h2 | ⟨g, cap, cur, rfl, hBg, hr⟩
  · exact .inl h2
  · exact .inr ⟨g, cap, cur, rfl, by omega, hr⟩
theorem own_blocks {w W : World} {B : Nat} {v : Value} {l : List ByteArray} (h : OwnS w B v l) (hb : ∀ k, B ≤ k → k < w.heap.size → W.heap[k]? = w.heap[k]?) : OwnS W B v l := by
  obtain ⟨hl, h2⟩ := h
  refine ⟨hl, ?_⟩
  rcases h2 with h2 | ⟨g, cap, cur, rfl, hBg, hg, hr⟩
  · exact .inl h2
  · exact .inr ⟨g, cap, cur, rfl, hBg, (hb g hBg (Array.getElem?_eq_some_iff.1 hg).1).trans hg, hr⟩
def cV (c : Cm) (pv : Value) : Array Value := c26 (baL c.tree) pv (sbOf c.author) (sbOf c.committer) (baL c.message)
def FewPar (s : ByteArray) : Prop := ∀ t r0, lineP wTree s.data.toList = some (t, r0) → r0.length ≤ 1000000000 ∨ ∃ ps q, parsL r0 = some (ps, q) ∧ ps.length ≤ 100
set_option maxRecDepth 20000 in
theorem parse1_ok (C P b : Nat) (s : ByteArray) (W : World) (c : Cm) (hP : W.heap[P]? = some (.cells #[.pointer (some ⟨b, 0, none⟩)] 68 (0, 0))) (hC : W.heap[C]? = some (.cells z26 26 (0, 0)))
    (hG : GT W) (hR : RB W b s) (h5 : 5 ≤ b) (hs : s.size ≤ 281474976710656) (hN : FewPar s) (hCb : C ≠ b) (hc : changeP s.data.toList = some c) :
    Calls Tryd.prog 38 #[.pointer (some ⟨P, 0, none⟩), .pointer (some ⟨C, 0, none⟩)] W fun e w' => e = .returned (.tuple #[]) ∧ ∃ pv w1, But b W.heap.size W w1 ∧ OwnS w1 W.heap.size pv (c.parents.map baL) ∧ w' = w1.setRow C (cV c pv) := by
  have HC := hidM (change_any b s W hG hR h5 hs hN)
  unfold ChgPost at HC
  rw [hc] at HC
  have cp : W.cell? ⟨P, 0, none⟩ = some (.pointer (some ⟨b, 0, none⟩)) := by rw [cell_of_row W P _ _ 68 (0, 0) hP]; rfl
  have HX := hidM hC
  clear hc hP hC
  unfold cV
  go_enter Tryd.func38, Tryd.ntmps38
  go_wp2_with fail
  refine HC.out.mono ?_
  rintro _ w1 ⟨hb1, pv, rfl, ho⟩
  have HB1 := hidM hb1
  have HO1 := hidM ho
  obtain ⟨va, vn, vc, hpv⟩ := ho.slice
  subst hpv
  have HX1 := hidM (box_but HX.out hb1 hCb)
  unfold z26 at HX1
  clear hb1 ho
  unfold c26
  go_wp2_with (refine wpList_store_row rfl 26 (.tmp 1) (.tmp 3) rfl C #[.string (baL c.tree), .slice va vn vc, .string (sbOf c.author).who, .int .i64 (sbOf c.author).time, .int .i64 (sbOf c.author).zone, .string (sbOf c.committer).who, .int .i64 (sbOf c.committer).time, .int .i64 (sbOf c.committer).zone, .string (baL c.message)] rfl rfl 26 #[.string ⟨#[]⟩, .slice none 0 0, .string ⟨#[]⟩, .int .i64 0, .int .i64 0, .string ⟨#[]⟩, .int .i64 0, .int .i64 0, .string ⟨#[]⟩] HX1.out size26 rfl (ones26 _ _ _ _ _ _ _ _ _ _ _) ?_)
  go_end0
  exact ⟨rfl, _,_, HB1.out, HO1.out, rfl⟩
set_option maxRecDepth 20000 in
theorem parse1_no (C P b : Nat) (s : ByteArray) (W : World) (hP : W.heap[P]? = some (.cells #[.pointer (some ⟨b, 0, none⟩)] 68 (0, 0)))
    (hG : GT W) (hR : RB W b s) (h5 : 5 ≤ b) (hs : s.size ≤ 281474976710656) (hN : FewPar s) (hc : changeP s.data.toList = none) :
    Calls Tryd.prog 38 #[.pointer (some ⟨P, 0, none⟩), .pointer (some ⟨C, 0, none⟩)] W fun e w' => e = gave ∧ But b W.heap.size W w' := by
  have HC := hidM (change_any b s W hG hR h5 hs hN)
  unfold ChgPost at HC
  rw [hc] at HC
  have cp : W.cell? ⟨P, 0, none⟩ = some (.pointer (some ⟨b, 0, none⟩)) := by rw [cell_of_row W P _ _ 68 (0, 0) hP]; rfl
  simp only at HC
  unfold gave at HC
  clear hc hP
  go_enter Tryd.func38, Tryd.ntmps38
  go_wp2_with fail
  refine HC.out.mono ?_
  rintro _ w1 ⟨hb1, rfl⟩
  have HB1 := hidM hb1
  clear hb1
  go_wp2
  exact ⟨rfl, rfl, HB1.out⟩
theorem enters38 : ∀ args w, (callFunc 38 args).run Tryd.prog w = .ok (.enter 38 args) w := enters_of Tryd.func38 (by kernel_rfl) rfl
/-- what stands ready ahead of attempt: the commit's cell at H, the reader at H + 1, its variable at H + 2 -/
structure Rdy (H : Nat) (s : ByteArray) (W : World) : Prop where
  c : W.heap[H]? = some (.cells z26 26 (0, 0))
  r : RB W (H + 1) s
  p : W.heap[H + 2]? = some (.cells #[.pointer (some ⟨H + 1, 0, none⟩)] 68 (0, 0))
  gt : GT W
  size : W.heap.size = H + 3
  five : 5 ≤ H + 1
theorem patt_ok (H : Nat) (s : ByteArray) (W : World) (c : Cm) (h : Rdy H s W) (hs : s.size ≤ 281474976710656) (hN : FewPar s) (hc : changeP s.data.toList = some c) :
    Calls Tryd.prog 37 #[.func (.func 38) #[] #[.pointer (some ⟨H + 2, 0, none⟩), .pointer (some ⟨H, 0, none⟩)]] W fun e w' => e = .returned (.int .i64 0) ∧ Below H W w' ∧ ∃ pv, w'.heap[H]? = some (.cells (cV c pv) 26 (0, 0)) ∧ OwnS w' (H + 3) pv (c.parents.map baL) := by
  have hz := h.size
  have hb : Below W.heap.size W (W.alloc (.cells #[.int .i64 0] 28)) := (Below.refl _ W).alloc (Nat.le_refl _) _
  have nw : (W.alloc (.cells #[.int .i64 0] 28)).heap[W.heap.size]? = some (.cells #[.int .i64 0] 28 (0, 0)) := heap_alloc_new W _
  have sz : (W.alloc (.cells #[.int .i64 0] 28)).heap.size = H + 4 := by rw [World.size_alloc, hz]
  have main := parse1_ok H (H + 2) (H + 1) s _ c (box_bel h.p hb) (box_bel h.c hb) (h.gt.below hb) (h.r.below hb) h.five hs hN (by omega) hc
  refine (attempt_ok 38 _ W (fun w' => Below H W w' ∧ ∃ pv, w'.heap[H]? = some (.cells (cV c pv) 26 (0, 0)) ∧ OwnS w' (H + 4) pv (c.parents.map baL)) enters38 (main.mono ?_)).mono ?_
  · rintro e w' ⟨rfl, pv, w1, hb1, ho1, rfl⟩
    rw [sz] at hb1 ho1
    have hl : w1.heap[H]? = some (.cells z26 26 (0, 0)) := (hb1.block H (by omega) (by omega)).trans (box_bel h.c hb)
    have ht : ∀ k, k ≠ H → (w1.setRow H (cV c pv)).heap[k]? = w1.heap[k]? := fun k hk => setRow_other w1 H k _ hk
    refine ⟨rfl, ?_, ?_, pv, setRow_heap w1 H _ _ 26 (0, 0) hl, own_blocks ho1 (fun k hk _ => ht k (by omega))⟩
    · rw [ht _ (by omega), hb1.block _ (by omega) (by omega)]; exact nw
    · exact ⟨hb1.os, hb1.tape, hb1.output, by have := hb1.size; simp; rw [sz] at this; omega, fun k hk => by rw [ht k (by omega), hb1.block k (by omega) (by omega)]; exact hb.block k (by omega)⟩
  · rintro e w' ⟨rfl, w1, ⟨g1, pv, g2, g3⟩, rfl⟩
    have vb : ∀ k, k ≠ W.heap.size → (w1.setCell ⟨W.heap.size, 0, none⟩ (.int .i64 0)).heap[k]? = w1.heap[k]? := fun k hk => Below.heap_setCell w1 ⟨W.heap.size, 0, none⟩ _ k hk
    exact ⟨rfl, g1.setCell (p := ⟨W.heap.size, 0, none⟩) (by simp; omega) _, pv, (vb _ (by omega)).trans g2, own_mono (own_blocks g3 (fun k hk _ => vb k (by omega))) (by omega)⟩
theorem patt_no (H : Nat) (s : ByteArray) (W : World) (h : Rdy H s W) (hs : s.size ≤ 281474976710656) (hN : FewPar s) (hc : changeP s.data.toList = none) :
    Calls Tryd.prog 37 #[.func (.func 38) #[] #[.pointer (some ⟨H + 2, 0, none⟩), .pointer (some ⟨H, 0, none⟩)]] W fun e w' => e = .returned (.int .i64 3) ∧ Below H W w' ∧ w'.heap[H]? = some (.cells z26 26 (0, 0)) := by
  have hz := h.size
  have hb : Below W.heap.size W (W.alloc (.cells #[.int .i64 0] 28)) := (Below.refl _ W).alloc (Nat.le_refl _) _
  have nw : (W.alloc (.cells #[.int .i64 0] 28)).heap[W.heap.size]? = some (.cells #[.int .i64 0] 28 (0, 0)) := heap_alloc_new W _
  have sz : (W.alloc (.cells #[.int .i64 0] 28)).heap.size = H + 4 := by rw [World.size_alloc, hz]
  have main := parse1_no H (H + 2) (H + 1) s _ (box_bel h.p hb) (h.gt.below hb) (h.r.below hb) h.five hs hN hc
  refine (attempt_gave 38 _ W (fun w' => Below H W w' ∧ w'.heap[H]? = some (.cells z26 26 (0, 0))) enters38 (main.mono ?_)).mono ?_
  · rintro e w' ⟨rfl, hb1⟩
    rw [sz] at hb1
    refine ⟨rfl, ?_, ?_, (hb1.block H (by omega) (by omega)).trans (box_bel h.c hb)⟩
    · rw [hb1.block _ (by omega) (by omega)]; exact nw
    · exact ⟨hb1.os, hb1.tape, hb1.output, by have := hb1.size; rw [sz] at this; omega, fun k hk => by rw [hb1.block k (by omega) (by omega)]; exact hb.block k (by omega)⟩
  · rintro e w' ⟨rfl, w1, ⟨g1, g2⟩, hlt, rfl⟩
    have vb : ∀ k, k < W.heap.size → ((w1.alloc (.cells #[] 85)).setCell ⟨W.heap.size, 0, none⟩ (.int .i64 3)).heap[k]? = w1.heap[k]? := fun k hk =>
      (Below.heap_setCell _ ⟨W.heap.size, 0, none⟩ _ k (by simp; omega)).trans (Below.heap_alloc w1 _ k (by omega))
    exact ⟨rfl, (g1.alloc (by have := g1.size; omega) _).setCell (p := ⟨W.heap.size, 0, none⟩) (by simp; omega) _, (vb _ (by omega)).trans g2⟩
/-- the error of a text's reading -/
def parE (s : ByteArray) : Nat := match changeP s.data.toList with
  | none => 3
  | some c => checkE (baL c.tree) (c.parents.map baL) (sbOf c.author) (sbOf c.committer)
def ParPost (s : ByteArray) (w : World) (e : Ending) (w' : World) : Prop := Below w.heap.size w w' ∧
  ((parE s ≠ 0 ∧ e = .returned (.tuple #[.agg z26, .int .i64 (parE s : Nat)])) ∨
   (parE s = 0 ∧ ∃ c pv, changeP s.data.toList = some c ∧ e = .returned (.tuple #[.agg (cV c pv), .int .i64 0]) ∧ OwnS w' w.heap.size pv (c.parents.map baL)))
theorem baL_size (l : List UInt8) : (baL l).size = l.length := ba_size l
theorem change_small {s : ByteArray} {c : Cm} (h : changeP s.data.toList = some c) : c.tree.length ≤ s.size ∧ ∀ p ∈ c.parents, p.length ≤ s.size := by
  have hl := congrArg List.length (changeP_some h)
  rw [sl_len] at hl
  unfold textL at hl
  simp only [List.length_append, List.length_cons] at hl
  refine ⟨by omega, fun p hp => ?_⟩
  have : p.length ≤ (parsT c.parents).length := by
    unfold parsT
    obtain ⟨a, b, e⟩ := List.append_of_mem hp
    rw [e, List.flatMap_append, List.flatMap_cons]
    simp only [List.length_append]
    omega
  omega
theorem run_box_tmp {fn : Func} {p u : Tmp} {ty : TypeId} {P : Program} (h : fn.results = #[.cell p ty, .tmp u]) (tmps : Array Value) (w : World) (g : Nat) (cs : Array Value)
    (hp : tmps.getD p undef = .pointer (some ⟨g, 0, none⟩)) (hr : (loadVar ty ⟨g, 0, none⟩).run P w = .ok (.agg cs) w) :
    (results fn tmps).run P w = .ok (.tuple #[.agg cs, tmps.getD u undef]) w := by
  rw [results_cell_tmp h, hp]
  simp [asAddr, hr, Result.andThen]
set_option maxHeartbeats 2000000 in
set_option maxRecDepth 100000 in
theorem parse_any (s : ByteArray) (w : World) (hG : GT w) (hs : s.size ≤ 281474976710656) (hN : FewPar s) (h5 : 5 ≤ w.heap.size) :
    Calls Tryd.prog 17 #[.string s] w fun e w' => ParPost s w e w' := by
  have hmf : ∀ (fn : Fn) (first cap : Array Value) (w : World), (Instr.makeFunc fn first cap).run Tryd.prog w = .ok (.func fn first cap) w := fun _ _ _ _ => rfl
  have HRD : Hid (Rdy w.heap.size s (((w.alloc (.cells z26 26)).alloc (.cells #[.string s] 70)).alloc (.cells #[.pointer (some ⟨w.heap.size + 1, 0, none⟩)] 68))) := by
    have b1 : Below w.heap.size w (w.alloc (.cells z26 26)) := (Below.refl _ w).alloc (Nat.le_refl _) _
    have h1 := heap_alloc_new w (.cells z26 26)
    have s1 : (w.alloc (.cells z26 26)).heap.size = w.heap.size + 1 := World.size_alloc _ _
    generalize w.alloc (.cells z26 26) = w1 at *
    have b2 : Below w1.heap.size w1 (w1.alloc (.cells #[.string s] 70)) := (Below.refl _ w1).alloc (Nat.le_refl _) _
    have h2 := heap_alloc_new w1 (.cells #[.string s] 70)
    have s2 : (w1.alloc (.cells #[.string s] 70)).heap.size = w.heap.size + 2 := by rw [World.size_alloc, s1]
    rw [s1] at h2
    generalize w1.alloc (.cells #[.string s] 70) = w2 at *
    have b3 : Below w2.heap.size w2 (w2.alloc (.cells #[.pointer (some ⟨w.heap.size + 1, 0, none⟩)] 68)) := (Below.refl _ w2).alloc (Nat.le_refl _) _
    have h3 := heap_alloc_new w2 (.cells #[.pointer (some ⟨w.heap.size + 1, 0, none⟩)] 68)
    have s3 : (w2.alloc (.cells #[.pointer (some ⟨w.heap.size + 1, 0, none⟩)] 68)).heap.size = w.heap.size + 3 := by rw [World.size_alloc, s2]
    rw [s2] at h3
    exact ⟨box_bel (box_bel h1 b2) b3, box_bel h2 b3, h3, ((hG.below b1).below b2).below b3, s3, by omega⟩
  have HB0 : Hid (Below w.heap.size w (((w.alloc (.cells z26 26)).alloc (.cells #[.string s] 70)).alloc (.cells #[.pointer (some ⟨w.heap.size + 1, 0, none⟩)] 68))) :=
    (((Below.refl w.heap.size w).alloc (Nat.le_refl _) _).alloc (by simp) _).alloc (by simp; omega) _
  have HG := hidM hG
  cases hc : changeP s.data.toList with
  | none =>
    have HA := hidM (patt_no _ s _ HRD.out hs hN hc)
    have HPE : Hid (parE s = 3) := by unfold Hid parE; rw [hc]
    unfold z26 at HA HRD HB0
    clear hG hN hc HRD
    go_enter Tryd.func17, Tryd.ntmps17
    go_wp2_with fail
    refine HA.out.mono ?_
    rintro _ w1 ⟨rfl, hb1, hz1⟩
    have HB1 := hidM (HB0.out.trans hb1)
    have HZ1 := hidM hz1
    clear hb1 hz1 HA
    go_wp2_with (refine wpList_store_row rfl 26 (.tmp 2) (.tmp 16) rfl w.heap.size #[.string ⟨#[]⟩, .slice none 0 0, .string ⟨#[]⟩, .int .i64 0, .int .i64 0, .string ⟨#[]⟩, .int .i64 0, .int .i64 0, .string ⟨#[]⟩] rfl rfl 26 #[.string ⟨#[]⟩, .slice none 0 0, .string ⟨#[]⟩, .int .i64 0, .int .i64 0, .string ⟨#[]⟩, .int .i64 0, .int .i64 0, .string ⟨#[]⟩] HZ1.out size26 rfl (ones26 _ _ _ _ _ _ _ _ _ _ _) ?_)
    exact bodyPost_ret (run_box_tmp rfl _ _ w.heap.size _ rfl (run_loadVar_row _ w.heap.size 26 26 _ (0, 0) _ (setRow_heap _ _ _ _ 26 _ HZ1.out) Tryd.underlying26 rfl size26)) rfl ⟨below_setRow HB1.out (Nat.le_refl _), .inl ⟨by rw [HPE.out]; decide, by rw [HPE.out]; rfl⟩⟩
  | some c =>
    have HA := hidM (patt_ok _ s _ c HRD.out hs hN hc)
    obtain ⟨sm1, sm2⟩ := change_small hc
    have hT : (baL c.tree).size ≤ maxLen := by rw [baL_size]; unfold maxLen; omega
    have hPS : ∀ p ∈ c.parents.map baL, p.size ≤ maxLen := fun p hp => by
      obtain ⟨q, hq, rfl⟩ := List.mem_map.1 hp
      rw [baL_size]
      have := sm2 q hq
      unfold maxLen
      omega
    unfold cV at HA
    have HFIN : Hid (∀ (pv : Value) (V : World) (e : Ending), Below w.heap.size w V → OwnS V (w.heap.size + 3) pv (c.parents.map baL) → checkE (baL c.tree) (c.parents.map baL) (sbOf c.author) (sbOf c.committer) = 0 → e = .returned (.tuple #[.agg (c26 (baL c.tree) pv (sbOf c.author) (sbOf c.committer) (baL c.message)), .int .i64 0]) → ParPost s w e V) := fun pv V e h1 h2 h3 h4 => by
      have hp : parE s = 0 := by unfold parE; rw [hc]; exact h3
      exact ⟨h1, .inr ⟨hp, c, pv, hc, h4, own_mono h2 (by omega)⟩⟩
    have HBAD : Hid (∀ (V : World) (e : Ending), Below w.heap.size w V → checkE (baL c.tree) (c.parents.map baL) (sbOf c.author) (sbOf c.committer) ≠ 0 → e = .returned (.tuple #[.agg z26, .int .i64 (checkE (baL c.tree) (c.parents.map baL) (sbOf c.author) (sbOf c.committer) : Nat)]) → ParPost s w e V) := fun V e h1 h2 h3 => by
      have hp : parE s = checkE (baL c.tree) (c.parents.map baL) (sbOf c.author) (sbOf c.committer) := by unfold parE; rw [hc]
      exact ⟨h1, .inl ⟨by rw [hp]; exact h2, by rw [hp]; exact h3⟩⟩
    clear sm1 sm2
    generalize baL c.tree = T at *
    generalize c.parents.map baL = PS at *
    generalize sbOf c.author = A at *
    generalize sbOf c.committer = C at *
    generalize baL c.message = M at *
    unfold z26 at HA HRD HB0 HBAD
    unfold c26 at HA HFIN
    clear hG hN hc HRD
    obtain ⟨E, hE⟩ : ∃ E, E = checkE T PS A C := ⟨_, rfl⟩
    rw [← hE] at HBAD HFIN
    have HE := hidM hE
    clear hE
    go_enter Tryd.func17, Tryd.ntmps17
    go_wp2_with fail
    refine HA.out.mono ?_
    rintro _ w1 ⟨rfl, hb1, pv, hz1, ho1⟩
    have HB1 := hidM (HB0.out.trans hb1)
    have HZ1 := hidM hz1
    have HO1 := hidM ho1
    obtain ⟨va, vn, vc, hpv⟩ := ho1.slice
    subst hpv
    have HCK := hidM (check_any T (.slice va vn vc) PS A C M w1 ho1.strs hT hPS)
    rw [← HE.out] at HCK
    unfold c26 at HCK
    have k0 : w1.cell? ⟨w.heap.size, 0, none⟩ = some (.string T) := by rw [cell_of_row _ _ _ _ 26 (0, 0) hz1]; rfl
    have k1 : w1.cell? ⟨w.heap.size, 1, none⟩ = some (.slice va vn vc) := by rw [cell_of_row _ _ _ _ 26 (0, 0) hz1]; rfl
    have k2 : w1.cell? ⟨w.heap.size, 2, none⟩ = some (.string A.who) := by rw [cell_of_row _ _ _ _ 26 (0, 0) hz1]; rfl
    have k3 : w1.cell? ⟨w.heap.size, 3, none⟩ = some (.int .i64 A.time) := by rw [cell_of_row _ _ _ _ 26 (0, 0) hz1]; rfl
    have k4 : w1.cell? ⟨w.heap.size, 4, none⟩ = some (.int .i64 A.zone) := by rw [cell_of_row _ _ _ _ 26 (0, 0) hz1]; rfl
    have k5 : w1.cell? ⟨w.heap.size, 5, none⟩ = some (.string C.who) := by rw [cell_of_row _ _ _ _ 26 (0, 0) hz1]; rfl
    have k6 : w1.cell? ⟨w.heap.size, 6, none⟩ = some (.int .i64 C.time) := by rw [cell_of_row _ _ _ _ 26 (0, 0) hz1]; rfl
    have k7 : w1.cell? ⟨w.heap.size, 7, none⟩ = some (.int .i64 C.zone) := by rw [cell_of_row _ _ _ _ 26 (0, 0) hz1]; rfl
    have k8 : w1.cell? ⟨w.heap.size, 8, none⟩ = some (.string M) := by rw [cell_of_row _ _ _ _ 26 (0, 0) hz1]; rfl
    clear hb1 hz1 ho1 HA hT hPS
    go_wp2_with fail
    refine HCK.out.mono ?_
    rintro _ w2 ⟨rfl, hb2⟩
    have HZ2 := hidM (box_bel HZ1.out hb2)
    have HB2 := hidM (HB1.out.trans (hb2.mono HB1.out.size))
    have HO2 := hidM (own_blocks HO1.out (fun k _ hk => hb2.block k hk))
    have l0 : w2.cell? ⟨w.heap.size, 0, none⟩ = some (.string T) := by rw [cell_of_row _ _ _ _ 26 (0, 0) HZ2.out]; rfl
    have l1 : w2.cell? ⟨w.heap.size, 1, none⟩ = some (.slice va vn vc) := by rw [cell_of_row _ _ _ _ 26 (0, 0) HZ2.out]; rfl
    have l2 : w2.cell? ⟨w.heap.size, 2, none⟩ = some (.string A.who) := by rw [cell_of_row _ _ _ _ 26 (0, 0) HZ2.out]; rfl
    have l3 : w2.cell? ⟨w.heap.size, 3, none⟩ = some (.int .i64 A.time) := by rw [cell_of_row _ _ _ _ 26 (0, 0) HZ2.out]; rfl
    have l4 : w2.cell? ⟨w.heap.size, 4, none⟩ = some (.int .i64 A.zone) := by rw [cell_of_row _ _ _ _ 26 (0, 0) HZ2.out]; rfl
    have l5 : w2.cell? ⟨w.heap.size, 5, none⟩ = some (.string C.who) := by rw [cell_of_row _ _ _ _ 26 (0, 0) HZ2.out]; rfl
    have l6 : w2.cell? ⟨w.heap.size, 6, none⟩ = some (.int .i64 C.time) := by rw [cell_of_row _ _ _ _ 26 (0, 0) HZ2.out]; rfl
    have l7 : w2.cell? ⟨w.heap.size, 7, none⟩ = some (.int .i64 C.zone) := by rw [cell_of_row _ _ _ _ 26 (0, 0) HZ2.out]; rfl
    have l8 : w2.cell? ⟨w.heap.size, 8, none⟩ = some (.string M) := by rw [cell_of_row _ _ _ _ 26 (0, 0) HZ2.out]; rfl
    clear hb2 HCK HZ1 HB1 HO1 k0 k1 k2 k3 k4 k5 k6 k7 k8
    by_cases h0 : E = 0
    · have HF2 := hidM (fun pv V e h1 h2 h4 => HFIN.out pv V e h1 h2 h0 h4)
      subst h0
      clear HFIN HBAD
      go_wp2_with (refine wpList_store_row rfl 26 (.tmp 2) (.tmp 18) rfl w.heap.size #[.string T, .slice va vn vc, .string A.who, .int .i64 A.time, .int .i64 A.zone, .string C.who, .int .i64 C.time, .int .i64 C.zone, .string M] rfl rfl 26 #[.string T, .slice va vn vc, .string A.who, .int .i64 A.time, .int .i64 A.zone, .string C.who, .int .i64 C.time, .int .i64 C.zone, .string M] HZ2.out size26 rfl (ones26 _ _ _ _ _ _ _ _ _ _ _) ?_)
      exact bodyPost_ret (run_box_tmp rfl _ _ w.heap.size _ rfl (run_loadVar_row _ w.heap.size 26 26 _ (0, 0) _ (setRow_heap _ _ _ _ 26 _ HZ2.out) Tryd.underlying26 rfl size26)) rfl (HF2.out _ _ _ (below_setRow HB2.out (Nat.le_refl _)) (own_blocks HO2.out (fun k hk _ => setRow_other w2 _ k _ (by omega))) rfl)
    · have hne : ((E : Int) != 0) = true := by simp; omega
      go_wp2_with (refine wpList_store_row rfl 26 (.tmp 2) (.tmp 16) rfl w.heap.size #[.string ⟨#[]⟩, .slice none 0 0, .string ⟨#[]⟩, .int .i64 0, .int .i64 0, .string ⟨#[]⟩, .int .i64 0, .int .i64 0, .string ⟨#[]⟩] rfl rfl 26 #[.string T, .slice va vn vc, .string A.who, .int .i64 A.time, .int .i64 A.zone, .string C.who, .int .i64 C.time, .int .i64 C.zone, .string M] HZ2.out size26 rfl (ones26 _ _ _ _ _ _ _ _ _ _ _) ?_)
      exact bodyPost_ret (run_box_tmp rfl _ _ w.heap.size _ rfl (run_loadVar_row _ w.heap.size 26 26 _ (0, 0) _ (setRow_heap _ _ _ _ 26 _ HZ2.out) Tryd.underlying26 rfl size26)) rfl (HBAD.out _ _ (below_setRow HB2.out (Nat.le_refl _)) h0 rfl)
end Go.Proofs.YtbghailohnppmaaDoor

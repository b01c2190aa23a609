/-
  Walks of commit: the reader: a line, the message, who and when.
  Walks of commit: the lines of a commit.
-/
import Derived.Test.YtbghailohnppmaaDoorJComB
import Derived.Deep.RegionHeld
namespace Go.Proofs.YtbghailohnppmaaDoor
open Go.RowKit

/-- of what lies below B only block b has turned -/
structure But (b B : Nat) (w w' : World) : Prop where
  os : w'.os = w.os
  tape : w'.tape = w.tape
  output : w'.output = w.output
  size : w.heap.size ≤ w'.heap.size
  block : ∀ k, k < B → k ≠ b → w'.heap[k]? = w.heap[k]?
theorem But.refl (b B : Nat) (w : World) : But b B w w := ⟨rfl, rfl, rfl, Nat.le_refl _, fun _ _ _ => rfl⟩
theorem But.trans {b B : Nat} {u v w : World} (h : But b B u v) (k : But b B v w) : But b B u w :=
  ⟨k.os.trans h.os, k.tape.trans h.tape, k.output.trans h.output, Nat.le_trans h.size k.size, fun n h1 h2 => (k.block n h1 h2).trans (h.block n h1 h2)⟩
theorem But.of_below {b B : Nat} {w w' : World} (h : Below B w w') : But b B w w' := ⟨h.os, h.tape, h.output, h.size, fun k h1 _ => h.block k h1⟩
theorem But.mono {b A B : Nat} {w w' : World} (h : But b B w w') (hA : A ≤ B) : But b A w w' := ⟨h.os, h.tape, h.output, h.size, fun k h1 h2 => h.block k (by omega) h2⟩
theorem But.below {b A B : Nat} {w w' : World} (h : But b B w w') (hA : A ≤ B) (hb : A ≤ b) : Below A w w' := ⟨h.os, h.tape, h.output, h.size, fun k h1 => h.block k (by omega) (by omega)⟩
theorem GT.but {b : Nat} {w w' : World} (h : GT w) (hb : But b w.heap.size w w') (h5 : 5 ≤ b) : GT w' := by
  obtain ⟨h1, ⟨a, c, h2⟩, ⟨d, e, h3⟩⟩ := h
  have l3 := World.block_lt_of_cell? w _ h2
  have l4 := World.block_lt_of_cell? w _ h3
  have hl : Below (min b w.heap.size) w w' := hb.below (by omega) (by omega)
  have l3 : 3 < w.heap.size := l3
  have l4 : 4 < w.heap.size := l4
  refine ⟨?_, ⟨a, c, (hl.cell (p := ⟨3, 0, none⟩) (by show 3 < _; omega)).trans h2⟩, ⟨d, e, (hl.cell (p := ⟨4, 0, none⟩) (by show 4 < _; omega)).trans h3⟩⟩
  have hblk : ∀ k, k < 5 → w'.heap[k]? = w.heap[k]? := fun k hk => hl.block k (by omega)
  have q1 := h1.pow
  refine ⟨Nat.lt_of_lt_of_le h1.two hb.size, ?_⟩
  · unfold Lib.TabIs World.var? at q1 ⊢
    rw [gPow] at q1 ⊢
    simp only [Option.bind_some] at q1 ⊢
    rw [hblk 2 (by decide)]
    exact q1
/-- the reader's box -/
def RB (w : World) (b : Nat) (s : ByteArray) : Prop := w.heap[b]? = some (.cells #[.string s] 70 (0, 0))
theorem RB.cell {w : World} {b : Nat} {s : ByteArray} (h : RB w b s) : w.cell? ⟨b, 0, none⟩ = some (.string s) := by
  rw [cell_of_row w b _ _ 70 (0, 0) h]; rfl
theorem RB.frozen {w : World} {b : Nat} {s : ByteArray} (h : RB w b s) : w.frozen? ⟨b, 0, none⟩ = false := by simp [World.frozen?, show w.heap[b]? = _ from h]
theorem RB.lt {w : World} {b : Nat} {s : ByteArray} (h : RB w b s) : b < w.heap.size := (Array.getElem?_eq_some_iff.1 h).1
theorem RB.set {w : World} {b : Nat} {s : ByteArray} (h : RB w b s) (t : ByteArray) : RB (w.setCell ⟨b, 0, none⟩ (.string t)) b t := by
  unfold RB
  rw [setCell_eq_setRow w _ 0 #[.string s] 70 (0, 0) _ h]
  exact setRow_heap w _ _ _ 70 (0, 0) h
theorem RB.below {w w' : World} {b : Nat} {s : ByteArray} (h : RB w b s) (hb : Below w.heap.size w w') : RB w' b s := (hb.block b h.lt).trans h
theorem setCell_but (w : World) (b o : Nat) (v : Value) : But b w.heap.size w (w.setCell ⟨b, o, none⟩ v) :=
  ⟨rfl, rfl, rfl, by simp [World.setCell], fun k _ hk => Below.heap_setCell w ⟨b, o, none⟩ v k hk⟩
theorem cut1_split (c : UInt8) (l : List UInt8) : cut1 c l = splitC c l := by
  induction l with
  | nil => rfl
  | cons b l ih => rw [cut1, splitC, ih]
theorem trim_drop {l w : List UInt8} (h : Lib.hasPrefix l w = true) : Lib.trimPrefix l w = l.drop w.length := by
  unfold Lib.trimPrefix
  first | rw [if_pos h] | simp [h]

set_option maxRecDepth 20000 in
theorem line_ok (b : Nat) (s word : ByteArray) (w : World) (x r : List UInt8) (hR : RB w b s) (hs : s.size ≤ 281474976710656) (h : lineP word.data.toList s.data.toList = some (x, r)) :
    Calls Tryd.prog 57 #[.pointer (some ⟨b, 0, none⟩), .string word] w fun e w' => e = .returned (.string ⟨x.toArray⟩) ∧ RB w' b ⟨r.toArray⟩ ∧ But b w.heap.size w w' := by
  have HC := hidM (fun V => cut_any s 10 V (by omega))
  unfold lineP at h
  rw [cut1_split] at h
  cases e : splitC 10 s.data.toList with
  | none => rw [e] at h; cases h
  | some pq =>
    obtain ⟨p, q⟩ := pq
    rw [e] at h
    simp only at h
    split at h
    · rename_i hw
      injection h with h
      injection h with h1 h2
      subst h2
      have hc : cutR 10 s.data.toList = (p, q, true) := by unfold cutR; rw [e]
      rw [hc] at HC
      simp only at HC
      have HP := hidM (fun V => Tryd.strings_CutPrefix ⟨p.toArray⟩ word V)
      have hpl : (⟨p.toArray⟩ : ByteArray).data.toList = p := rfl
      rw [hpl, hw, trim_drop hw, h1] at HP
      have HR := hidM hR
      have c0 := hR.cell
      have f0 := hR.frozen
      clear h1 hw hc e hpl hR
      generalize (⟨p.toArray⟩ : ByteArray) = P at *
      generalize (⟨q.toArray⟩ : ByteArray) = Q at *
      generalize (⟨x.toArray⟩ : ByteArray) = X at *
      go_enter Tryd.func57, Tryd.ntmps57
      go_wp2_with fail
      refine (HC.out _).mono ?_
      rintro _ w1 ⟨rfl, nm, hw1⟩
      have c1 : w1.cell? ⟨b, 0, none⟩ = some (.string s) := by rw [hw1]; exact c0
      have f1 : w1.frozen? ⟨b, 0, none⟩ = false := by rw [hw1]; exact f0
      have HR1 : Hid (RB w1 b s) := by unfold Hid; rw [hw1]; exact HR.out
      have HB1 : Hid (But b w.heap.size w w1) := But.of_below (by rw [hw1]; exact below_drewN (Below.refl _ _) _)
      clear hw1
      go_wp2_with fail
      refine (HP.out _).mono ?_
      rintro _ w2 ⟨rfl, hw2⟩
      rw [hw2]
      clear hw2
      go_wp2
      go_ret
      exact ⟨rfl, HR1.out.set _, HB1.out.trans ((setCell_but w1 b 0 _).mono HB1.out.size)⟩
    · cases h
set_option maxRecDepth 20000 in
theorem line_no (b : Nat) (s word : ByteArray) (w : World) (hR : RB w b s) (hs : s.size ≤ 281474976710656) (h : lineP word.data.toList s.data.toList = none) :
    Calls Tryd.prog 57 #[.pointer (some ⟨b, 0, none⟩), .string word] w fun e w' => e = gave ∧ But b w.heap.size w w' := by
  have HC := hidM (fun V => cut_any s 10 V (by omega))
  unfold lineP at h
  rw [cut1_split] at h
  have c0 := hR.cell
  have f0 := hR.frozen
  cases e : splitC 10 s.data.toList with
  | none =>
    have hc : cutR 10 s.data.toList = (s.data.toList, [], false) := by unfold cutR; rw [e]
    rw [hc] at HC
    simp only at HC
    have HP := hidM (fun V => Tryd.strings_CutPrefix ⟨s.data.toList.toArray⟩ word V)
    clear h hc e hR
    generalize (⟨s.data.toList.toArray⟩ : ByteArray) = P at *
    generalize Lib.hasPrefix P.data.toList word.data.toList = bb at *
    go_enter Tryd.func57, Tryd.ntmps57
    go_wp2_with fail
    refine (HC.out _).mono ?_
    rintro _ w1 ⟨rfl, nm, hw1⟩
    have HB1 : Hid (But b w.heap.size w w1) := But.of_below (by rw [hw1]; exact below_drewN (Below.refl _ _) _)
    clear hw1
    go_wp2_with fail
    refine (HP.out _).mono ?_
    rintro _ w2 ⟨rfl, hw2⟩
    rw [hw2]
    clear hw2
    go_wp2
    exact ⟨rfl, rfl, HB1.out⟩
  | some pq =>
    obtain ⟨p, q⟩ := pq
    rw [e] at h
    simp only at h
    have hw : Lib.hasPrefix p word.data.toList = false := by
      cases hh : Lib.hasPrefix p word.data.toList with
      | false => rfl
      | true => rw [hh] at h; cases h
    have hc : cutR 10 s.data.toList = (p, q, true) := by unfold cutR; rw [e]
    rw [hc] at HC
    simp only at HC
    have HP := hidM (fun V => Tryd.strings_CutPrefix ⟨p.toArray⟩ word V)
    have hpl : (⟨p.toArray⟩ : ByteArray).data.toList = p := rfl
    rw [hpl, hw] at HP
    clear h hw hc e hpl hR
    generalize (⟨p.toArray⟩ : ByteArray) = P at *
    generalize (⟨q.toArray⟩ : ByteArray) = Q at *
    go_enter Tryd.func57, Tryd.ntmps57
    go_wp2_with fail
    refine (HC.out _).mono ?_
    rintro _ w1 ⟨rfl, nm, hw1⟩
    have HB1 : Hid (But b w.heap.size w w1) := But.of_below (by rw [hw1]; exact below_drewN (Below.refl _ _) _)
    clear hw1
    go_wp2_with fail
    refine (HP.out _).mono ?_
    rintro _ w2 ⟨rfl, hw2⟩
    rw [hw2]
    clear hw2
    go_wp2
    exact ⟨rfl, rfl, HB1.out⟩
def msgP : List UInt8 → Option (List UInt8)
  | 10 :: m => some m
  | _ => none
theorem msg_pref (l : List UInt8) : (msgP l = none ∧ Lib.hasPrefix l [10] = false) ∨ ∃ m, msgP l = some m ∧ Lib.hasPrefix l [10] = true ∧ Lib.trimPrefix l [10] = m ∧ l = 10 :: m := by
  cases l with
  | nil => exact .inl ⟨rfl, rfl⟩
  | cons c m =>
    by_cases h : c = 10
    · subst h
      have hp : Lib.hasPrefix (10 :: m) [10] = true := by simp [Lib.hasPrefix, List.isPrefixOf]
      exact .inr ⟨m, rfl, hp, by rw [trim_drop hp]; rfl, rfl⟩
    · refine .inl ⟨?_, ?_⟩
      · unfold msgP; split
        · rename_i e; injection e with e1 e2; exact absurd e1 h
        · rfl
      · simp [Lib.hasPrefix, List.isPrefixOf]
        exact fun e => h e.symm
theorem message_ok (b : Nat) (s : ByteArray) (w : World) (m : List UInt8) (hR : RB w b s) (h : msgP s.data.toList = some m) :
    Calls Tryd.prog 60 #[.pointer (some ⟨b, 0, none⟩)] w fun e w' => e = .returned (.string ⟨m.toArray⟩) ∧ w' = w := by
  have HP := hidM (fun V => Tryd.strings_CutPrefix s ⟨#[10]⟩ V)
  have hl : (⟨#[10]⟩ : ByteArray).data.toList = [10] := rfl
  rw [hl] at HP
  rcases msg_pref s.data.toList with ⟨h1, -⟩ | ⟨m', h1, h2, h3, -⟩
  · rw [h] at h1; cases h1
  · rw [h] at h1
    injection h1 with h1
    subst h1
    rw [h2, h3] at HP
    have c0 := hR.cell
    clear h h2 h3 hl hR
    generalize (⟨m.toArray⟩ : ByteArray) = X at *
    go_enter Tryd.func60, Tryd.ntmps60
    go_wp2_with fail
    refine (HP.out _).mono ?_
    rintro _ w1 ⟨rfl, hw1⟩
    rw [hw1]
    clear hw1
    go_wp2
    go_ret
    exact ⟨rfl, rfl⟩
theorem message_no (b : Nat) (s : ByteArray) (w : World) (hR : RB w b s) (h : msgP s.data.toList = none) :
    Calls Tryd.prog 60 #[.pointer (some ⟨b, 0, none⟩)] w fun e w' => e = gave ∧ w' = w := by
  have HP := hidM (fun V => Tryd.strings_CutPrefix s ⟨#[10]⟩ V)
  have hl : (⟨#[10]⟩ : ByteArray).data.toList = [10] := rfl
  rw [hl] at HP
  rcases msg_pref s.data.toList with ⟨-, h1⟩ | ⟨m', h1, -⟩
  · rw [h1] at HP
    have c0 := hR.cell
    clear h hl hR h1
    generalize (⟨(Lib.trimPrefix s.data.toList [10]).toArray⟩ : ByteArray) = X at *
    go_enter Tryd.func60, Tryd.ntmps60
    go_wp2_with fail
    refine (HP.out _).mono ?_
    rintro _ w1 ⟨rfl, hw1⟩
    rw [hw1]
    clear hw1
    go_wp2
    exact ⟨rfl, rfl, rfl⟩
  · rw [h] at h1; cases h1
theorem size24 : (Tryd.prog.info? 24).map (·.size) = some 3 := by kernel_rfl
theorem ones24 (a : ByteArray) (n m : Int) : (#[.string a, .int .i64 n, .int .i64 m] : Array Value).all (·.oneCell') = true := by simp [Value.oneCell']
theorem box_but {w w' : World} {k b : Nat} {o : Obj} (h : w.heap[k]? = some o) (hb : But b w.heap.size w w') (hk : k ≠ b) : w'.heap[k]? = some o :=
  (hb.block k (Array.getElem?_eq_some_iff.1 h).1 hk).trans h
theorem box_bel {w w' : World} {k : Nat} {o : Obj} (h : w.heap[k]? = some o) (hb : Below w.heap.size w w') : w'.heap[k]? = some o :=
  (hb.block k (Array.getElem?_eq_some_iff.1 h).1).trans h
theorem setRow_but {b B g : Nat} {w wr : World} {c : Array Value} (h : But b B w wr) (hg : B ≤ g) : But b B w (wr.setRow g c) :=
  h.trans ⟨rfl, rfl, rfl, by simp, fun k hk _ => setRow_other wr g k c (by omega)⟩
def sgV (g : Sg) : Value := .agg #[.string ⟨g.who.toArray⟩, .int .i64 g.time, .int .i64 g.zone]
def SignPost (b : Nat) (o : Option (Sg × List UInt8)) (w : World) (e : Ending) (w' : World) : Prop := But b w.heap.size w w' ∧ match o with
  | some (g, r) => e = .returned (sgV g) ∧ RB w' b ⟨r.toArray⟩
  | none => e = gave
theorem ba_size (l : List UInt8) : (⟨l.toArray⟩ : ByteArray).size = l.length := by show l.toArray.size = _; rw [List.size_toArray]
set_option maxHeartbeats 1000000 in
set_option maxRecDepth 20000 in
theorem sign_any (b : Nat) (s word : ByteArray) (w : World) (hG : GT w) (hR : RB w b s) (h5 : 5 ≤ b) (hs : s.size ≤ 281474976710656) :
    Calls Tryd.prog 59 #[.pointer (some ⟨b, 0, none⟩), .string word] w fun e w' => SignPost b (signLn word.data.toList s.data.toList) w e w' := by
  have hblt := hR.lt
  have HA0 : Hid ((w.alloc (.cells #[.string ⟨#[]⟩, .int .i64 0, .int .i64 0] 24)).heap[w.heap.size]? = some (.cells #[.string ⟨#[]⟩, .int .i64 0, .int .i64 0] 24 (0, 0))) := heap_alloc_new w _
  have HB0 : Hid (Below w.heap.size w (w.alloc (.cells #[.string ⟨#[]⟩, .int .i64 0, .int .i64 0] 24))) := (Below.refl _ w).alloc (Nat.le_refl _) _
  have HR0 := hidM (hR.below HB0.out)
  have HG0 := hidM (hG.below HB0.out)
  have hXb : w.heap.size ≠ b := by omega
  clear hR hG
  unfold SignPost signLn
  cases e1 : lineP word.data.toList s.data.toList with
  | none =>
    have HL := hidM (line_no b s word _ HR0.out hs e1)
    clear e1
    go_enter Tryd.func59, Tryd.ntmps59
    go_wp2_with fail
    refine HL.out.mono ?_
    rintro _ w1 ⟨rfl, hb1⟩
    have HB1 := hidM ((But.of_below HB0.out).trans (hb1.mono HB0.out.size))
    clear hb1
    unfold gave
    go_wp2
    exact ⟨rfl, HB1.out, rfl⟩
  | some xr =>
    obtain ⟨x, r⟩ := xr
    have hxl : x.length ≤ s.size := by have := lineP_len e1; rw [← sl_len s]; omega
    have HL := hidM (line_ok b s word _ x r HR0.out hs e1)
    have hxs := ba_size x
    have HXL : Hid ((⟨x.toArray⟩ : ByteArray).data.toList = x) := rfl
    obtain ⟨X, hX⟩ : ∃ X : ByteArray, X = ⟨x.toArray⟩ := ⟨_, rfl⟩
    rw [← hX] at HL hxs HXL
    have hXs : X.size ≤ 281474976710656 := by omega
    clear e1 hxl hxs hX
    simp only
    unfold signP
    have HXL2 := hidM HXL.out
    cases e2 : last1 32 x with
    | none =>
      have HC := hidM (fun V => cutLast_no X V hXs (by rw [HXL.out]; exact e2))
      clear e2
      go_enter Tryd.func59, Tryd.ntmps59
      go_wp2_with fail
      refine HL.out.mono ?_
      rintro _ w1 ⟨rfl, hr1, hb1⟩
      have HB1 := hidM ((But.of_below HB0.out).trans (hb1.mono HB0.out.size))
      clear hb1 hr1
      go_wp2_with fail
      refine (HC.out _).mono ?_
      rintro _ w2 ⟨rfl, hb2⟩
      have HB2 := hidM (HB1.out.trans ((But.of_below hb2).mono HB1.out.size))
      clear hb2
      unfold gave
      go_wp2
      exact ⟨rfl, HB2.out, rfl⟩
    | some ao =>
      obtain ⟨a, o⟩ := ao
      have HC := hidM (fun V => cutLast_ok X V a o hXs (by rw [HXL.out]; exact e2))
      have hal := congrArg List.length (last1_some e2).1
      rw [← HXL.out, sl_len, List.length_append, List.length_cons] at hal
      have has := ba_size a
      have hos := ba_size o
      have HAL : Hid ((⟨a.toArray⟩ : ByteArray).data.toList = a) := rfl
      have HOL : Hid ((⟨o.toArray⟩ : ByteArray).data.toList = o) := rfl
      obtain ⟨A, hA⟩ : ∃ A : ByteArray, A = ⟨a.toArray⟩ := ⟨_, rfl⟩
      obtain ⟨O, hO⟩ : ∃ O : ByteArray, O = ⟨o.toArray⟩ := ⟨_, rfl⟩
      rw [← hA] at HC HAL has
      rw [← hO] at HC HOL hos
      have hAs : A.size ≤ 281474976710656 := by omega
      have hOs : O.size ≤ 281474976710656 := by omega
      clear e2 hal has hos hA hO
      simp only
      cases e3 : last1 32 a with
      | none =>
        have HD := hidM (fun V => cutLast_no A V hAs (by rw [HAL.out]; exact e3))
        clear e3
        go_enter Tryd.func59, Tryd.ntmps59
        go_wp2_with fail
        refine HL.out.mono ?_
        rintro _ w1 ⟨rfl, hr1, hb1⟩
        have HB1 := hidM ((But.of_below HB0.out).trans (hb1.mono HB0.out.size))
        clear hb1 hr1
        go_wp2_with fail
        refine (HC.out _).mono ?_
        rintro _ w2 ⟨rfl, hb2⟩
        have HB2 := hidM (HB1.out.trans ((But.of_below hb2).mono HB1.out.size))
        clear hb2
        go_wp2_with fail
        refine (HD.out _).mono ?_
        rintro _ w3 ⟨rfl, hb3⟩
        have HB3 := hidM (HB2.out.trans ((But.of_below hb3).mono HB2.out.size))
        clear hb3
        unfold gave
        go_wp2
        exact ⟨rfl, HB3.out, rfl⟩
      | some ws =>
        obtain ⟨wh, sc⟩ := ws
        have HD := hidM (fun V => cutLast_ok A V wh sc hAs (by rw [HAL.out]; exact e3))
        have hal := congrArg List.length (last1_some e3).1
        rw [← HAL.out, sl_len, List.length_append, List.length_cons] at hal
        have hcs := ba_size sc
        have HSL : Hid ((⟨sc.toArray⟩ : ByteArray).data.toList = sc) := rfl
        obtain ⟨S, hS⟩ : ∃ S : ByteArray, S = ⟨sc.toArray⟩ := ⟨_, rfl⟩
        rw [← hS] at HD HSL hcs
        have hSs : S.size ≤ 281474976710656 := by omega
        clear e3 hal hcs hS
        simp only
        cases e4 : timeP sc with
        | none =>
          have HT := hidM (fun V hV => number_no S V hV hSs (by rw [HSL.out]; exact e4))
          clear e4
          go_enter Tryd.func59, Tryd.ntmps59
          go_wp2_with fail
          refine HL.out.mono ?_
          rintro _ w1 ⟨rfl, hr1, hb1⟩
          have HB1 := hidM ((But.of_below HB0.out).trans (hb1.mono HB0.out.size))
          have HG1 := hidM (HG0.out.but hb1 h5)
          clear hb1 hr1
          go_wp2_with fail
          refine (HC.out _).mono ?_
          rintro _ w2 ⟨rfl, hb2⟩
          have HB2 := hidM (HB1.out.trans ((But.of_below hb2).mono HB1.out.size))
          have HG2 := hidM (HG1.out.below hb2)
          clear hb2
          go_wp2_with fail
          refine (HD.out _).mono ?_
          rintro _ w3 ⟨rfl, hb3⟩
          have HB3 := hidM (HB2.out.trans ((But.of_below hb3).mono HB2.out.size))
          have HG3 := hidM (HG2.out.below hb3)
          clear hb3
          go_wp2_with fail
          refine (HT.out _ HG3.out).mono ?_
          rintro _ w4 ⟨rfl, hb4⟩
          have HB4 := hidM (HB3.out.trans ((But.of_below hb4).mono HB3.out.size))
          clear hb4
          unfold gave
          go_wp2
          exact ⟨rfl, HB4.out, rfl⟩
        | some n =>
          have HT := hidM (fun V hV => number_ok S V hV n hSs (by rw [HSL.out]; exact e4))
          simp only
          cases e5 : minP o with
          | none =>
            have HM := hidM (fun V hV => minutes_no O V hV hOs (by rw [HOL.out]; exact e5))
            clear e4 e5
            go_enter Tryd.func59, Tryd.ntmps59
            go_wp2_with fail
            refine HL.out.mono ?_
            rintro _ w1 ⟨rfl, hr1, hb1⟩
            have HB1 := hidM ((But.of_below HB0.out).trans (hb1.mono HB0.out.size))
            have HG1 := hidM (HG0.out.but hb1 h5)
            clear hb1 hr1
            go_wp2_with fail
            refine (HC.out _).mono ?_
            rintro _ w2 ⟨rfl, hb2⟩
            have HB2 := hidM (HB1.out.trans ((But.of_below hb2).mono HB1.out.size))
            have HG2 := hidM (HG1.out.below hb2)
            clear hb2
            go_wp2_with fail
            refine (HD.out _).mono ?_
            rintro _ w3 ⟨rfl, hb3⟩
            have HB3 := hidM (HB2.out.trans ((But.of_below hb3).mono HB2.out.size))
            have HG3 := hidM (HG2.out.below hb3)
            clear hb3
            go_wp2_with fail
            refine (HT.out _ HG3.out).mono ?_
            rintro _ w4 ⟨rfl, hb4⟩
            have HB4 := hidM (HB3.out.trans ((But.of_below hb4).mono HB3.out.size))
            have HG4 := hidM (HG3.out.below hb4)
            clear hb4
            go_wp2_with fail
            refine (HM.out _ HG4.out).mono ?_
            rintro _ w5 ⟨rfl, hb5⟩
            have HB5 := hidM (HB4.out.trans ((But.of_below hb5).mono HB4.out.size))
            clear hb5
            unfold gave
            go_wp2
            exact ⟨rfl, HB5.out, rfl⟩
          | some z =>
            have HM := hidM (fun V => minutes_ok O V z hOs (by rw [HOL.out]; exact e5))
            clear e4 e5
            unfold sgV
            simp only
            generalize (⟨wh.toArray⟩ : ByteArray) = WH at *
            go_enter Tryd.func59, Tryd.ntmps59
            go_wp2_with fail
            refine HL.out.mono ?_
            rintro _ w1 ⟨rfl, hr1, hb1⟩
            have HB1 := hidM ((But.of_below HB0.out).trans (hb1.mono HB0.out.size))
            have HG1 := hidM (HG0.out.but hb1 h5)
            have HX1 := hidM (box_but HA0.out hb1 hXb)
            have HR1 := hidM hr1
            clear hb1 hr1
            go_wp2_with fail
            refine (HC.out _).mono ?_
            rintro _ w2 ⟨rfl, hb2⟩
            have HB2 := hidM (HB1.out.trans ((But.of_below hb2).mono HB1.out.size))
            have HG2 := hidM (HG1.out.below hb2)
            have HX2 := hidM (box_bel HX1.out hb2)
            have HR2 := hidM (HR1.out.below hb2)
            clear hb2
            go_wp2_with fail
            refine (HD.out _).mono ?_
            rintro _ w3 ⟨rfl, hb3⟩
            have HB3 := hidM (HB2.out.trans ((But.of_below hb3).mono HB2.out.size))
            have HG3 := hidM (HG2.out.below hb3)
            have HX3 := hidM (box_bel HX2.out hb3)
            have HR3 := hidM (HR2.out.below hb3)
            clear hb3
            go_wp2_with fail
            refine (HT.out _ HG3.out).mono ?_
            rintro _ w4 ⟨rfl, hb4⟩
            have HB4 := hidM (HB3.out.trans ((But.of_below hb4).mono HB3.out.size))
            have HX4 := hidM (box_bel HX3.out hb4)
            have HR4 := hidM (HR3.out.below hb4)
            clear hb4
            go_wp2_with fail
            refine (HM.out _).mono ?_
            rintro _ w5 ⟨rfl, hb5⟩
            have HB5 := hidM (HB4.out.trans ((But.of_below hb5).mono HB4.out.size))
            have HX5 := hidM (box_bel HX4.out hb5)
            have HR5 := hidM (HR4.out.below hb5)
            clear hb5 HX1 HX2 HX3 HX4 HR1 HR2 HR3 HR4 HB1 HB2 HB3 HB4
            go_wp2_with (refine wpList_store_row rfl 24 (.tmp 4) (.tmp 26) rfl w.heap.size #[.string WH, .int .i64 n, .int .i64 z] rfl rfl 24 #[.string ⟨#[]⟩, .int .i64 0, .int .i64 0] HX5.out size24 rfl (ones24 _ _ _) ?_)
            exact bodyPost_ret (results_cell_row rfl _ _ w.heap.size 24 _ (0, 0) _ rfl (setRow_heap _ _ _ _ 24 _ HX5.out) Tryd.underlying24 rfl size24) rfl ⟨setRow_but HB5.out (Nat.le_refl _), rfl, (setRow_other w5 _ b _ (by omega)).trans HR5.out⟩
end Go.Proofs.YtbghailohnppmaaDoor
namespace Go.Proofs.YtbghailohnppmaaDoor
open Go.RowKit

theorem step_append_own {P : Program} {ops : Array Oper} {o : Oper} {a : Act} {w : World} {K : Act → World → Prop} {Q : Exit → Act → World → Prop} {E : Prop}
    (hg : o.guard = none) (s x : Operand) (t : TypeId) (hop : o.op = Op.call { callee := Callee.builtin Builtin.append, args := #[s, x], argTypes := #[t, t] })
    (base : Nat) (e : TypeId) (i : TypeInfo) (z : Value) (size bytes : Nat) (h1 : P.underlying t = some (.slice e)) (h2 : P.info? e = some i) (h3 : i.zero = some z) (h4 : i.size = size) (h5 : i.bytes = bytes) (h6 : z.cells.size = size) (h7 : 0 < size)
    (v : Value) (n : Nat) (xs : List Value) (hs : a.eval s = v) (hown : w.ownsRow base e size v n xs)
    (ad : Addr) (m c : Nat) (news : List Value) (hx : a.eval x = .slice (some ad) m c) (hn : news.length = m * size) (hc : ∀ j u, news[j]? = some u → w.cell? (ad.add j) = some u) (h1c : ∀ u ∈ news, u.oneCell' = true)
    (b1 : n + m ≤ maxLen) (b2 : (n + m) * bytes ≤ 140737488355328) (b3 : base ≤ w.heap.size)
    (hK : ∀ v' w', w'.ownsRow base e size v' (n + m) (xs ++ news) → w.grownBy w' v.ownBlock → K (a.put o.dst v') w') :
    if Region.wanted o (yielded ops a.tmps) = true then Oper.wp P o a w K Q else E := by
  have hw : Region.wanted o (yielded ops a.tmps) = true := by simp [Region.wanted, hg]
  rw [if_pos hw]
  obtain ⟨v', w', hrun, r1, r2, _⟩ := run_append_own (P := P) w base t o.type e i z size bytes h1 h2 h3 h4 h5 h6 h7 v n xs hown ad m c news hn hc h1c b1 b2 b3
  unfold Oper.wp
  simp [execOp, hop, resolve, invoke, builtin, hs, hx, hrun, Result.andThen]
  exact hK v' w' r1 r2
theorem cell_eq {w w' : World} {k : Nat} (h : w'.heap[k]? = w.heap[k]?) (j : Nat) : w'.cell? ⟨k, j, none⟩ = w.cell? ⟨k, j, none⟩ := by
  unfold World.cell?
  rw [h]
theorem GT.blocks {w w' : World} (h : GT w) (hs : w.heap.size ≤ w'.heap.size) (hb : ∀ k, k < 5 → w'.heap[k]? = w.heap[k]?) : GT w' := by
  obtain ⟨h1, ⟨a, c, h2⟩, ⟨d, e, h3⟩⟩ := h
  refine ⟨?_, ⟨a, c, (cell_eq (hb 3 (by decide)) 0).trans h2⟩, ⟨d, e, (cell_eq (hb 4 (by decide)) 0).trans h3⟩⟩
  have q1 := h1.pow
  refine ⟨Nat.lt_of_lt_of_le h1.two hs, ?_⟩
  unfold Lib.TabIs World.var? at q1 ⊢
  rw [gPow] at q1 ⊢
  simp only [Option.bind_some] at q1 ⊢
  rw [hb 2 (by decide)]
  exact q1
def strsV (l : List ByteArray) : List Value := l.map Value.string
def OwnS (w : World) (B : Nat) (v : Value) (l : List ByteArray) : Prop := w.ownsRow B 9 1 v l.length (strsV l)
theorem OwnS.push {w : World} {B : Nat} {v : Value} {l : List ByteArray} {x : ByteArray} (h : w.ownsRow B 9 1 v (l.length + 1) (strsV l ++ [.string x])) : OwnS w B v (l ++ [x]) := by
  unfold OwnS strsV
  rw [List.map_append]
  simpa [strsV] using h
theorem OwnS.shape {w : World} {B : Nat} {v : Value} {l : List ByteArray} (h : OwnS w B v l) : ∃ a c, v = .slice a l.length c ∧ (l ≠ [] → ∃ g, a = some ⟨g, 0, none⟩ ∧ B ≤ g ∧ g < w.heap.size ∧ StrsAt w g l) := by
  rcases h.2 with ⟨hnil, hn⟩ | ⟨g, cap, cur, rfl, hbase, hbk, h1, h2, h3, h4⟩
  · exact ⟨none, 0, by rw [hnil, hn], fun hne => absurd (List.eq_nil_of_length_eq_zero hn) hne⟩
  · have hlt : g < w.heap.size := (Array.getElem?_eq_some_iff.1 hbk).1
    refine ⟨_, cap, rfl, fun _ => ⟨g, rfl, hbase, hlt, fun j hj => ?_⟩⟩
    have : (cur.toList.take (l.length * 1))[j]? = (strsV l)[j]? := by rw [h4]
    rw [List.getElem?_take_of_lt (by omega)] at this
    rw [cell_of_row w g _ _ 9 (0, 0) hbk, ← Array.getElem?_toList, this]
    simp [strsV, hj]
theorem OwnS.strs {w : World} {B : Nat} {v : Value} {l : List ByteArray} (h : OwnS w B v l) : StrsV w v l := by
  obtain ⟨a, c, hv, hs⟩ := h.shape
  exact ⟨a, c, hv, fun hne => by obtain ⟨g, h1, _, h2, h3⟩ := hs hne; exact ⟨g, h1, h2, h3⟩⟩
def z26 : Array Value := #[.string ⟨#[]⟩, .slice none 0 0, .string ⟨#[]⟩, .int .i64 0, .int .i64 0, .string ⟨#[]⟩, .int .i64 0, .int .i64 0, .string ⟨#[]⟩]
def c26 (t : ByteArray) (pv : Value) (a c : Sb) (m : ByteArray) : Array Value := #[.string t, pv, .string a.who, .int .i64 a.time, .int .i64 a.zone, .string c.who, .int .i64 c.time, .int .i64 c.zone, .string m]
def noS : Sb := ⟨⟨#[]⟩, 0, 0⟩
/-- the boxes of a reading, and the parents that were read -/
structure ChX (w : World) (b : Nat) (cs : Array Value) (s : ByteArray) (pv : Value) (ps : List ByteArray) (V : World) : Prop where
  but : But b w.heap.size w V
  z : V.heap[w.heap.size]? = some (.cells z26 26 (0, 0))
  c : V.heap[w.heap.size + 1]? = some (.cells cs 26 (0, 0))
  rd : RB V b s
  own : OwnS V (w.heap.size + 2) pv ps
  gt : GT V
theorem ChX.lt {w : World} {b : Nat} {cs : Array Value} {s : ByteArray} {pv : Value} {ps : List ByteArray} {V : World} (h : ChX w b cs s pv ps V) : w.heap.size + 2 ≤ V.heap.size := by
  have := (Array.getElem?_eq_some_iff.1 h.c).1
  omega
theorem own_but {w W : World} {B b : Nat} {v : Value} {l : List ByteArray} (h : OwnS w B v l) (hb : But b w.heap.size w W) (hB : b < B) : OwnS W B v l := by
  obtain ⟨hl, h2⟩ := h
  refine ⟨hl, ?_⟩
  rcases h2 with h2 | ⟨g, cap, cur, rfl, hBg, hg, hr⟩
  · exact .inl h2
  · exact .inr ⟨g, cap, cur, rfl, hBg, (hb.block g (Array.getElem?_eq_some_iff.1 hg).1 (by omega)).trans hg, hr⟩
theorem ChX.next {w : World} {b : Nat} {cs : Array Value} {s r : ByteArray} {pv : Value} {ps : List ByteArray} {V V' : World} (h : ChX w b cs s pv ps V) (hb : But b V.heap.size V V') (hr : RB V' b r) (h5 : 5 ≤ b) (hlt : b < w.heap.size) : ChX w b cs r pv ps V' :=
  ⟨h.but.trans (hb.mono h.but.size), box_but h.z hb (by omega), box_but h.c hb (by omega), hr, own_but h.own hb (by omega), h.gt.but hb h5⟩
theorem ChX.below {w : World} {b : Nat} {cs : Array Value} {s : ByteArray} {pv : Value} {ps : List ByteArray} {V V' : World} (h : ChX w b cs s pv ps V) (hb : Below V.heap.size V V') (hlt : b < w.heap.size) : ChX w b cs s pv ps V' :=
  ⟨h.but.trans ((But.of_below hb).mono h.but.size), box_bel h.z hb, box_bel h.c hb, h.rd.below hb, own_but h.own (But.of_below (b := b) hb) (by omega), h.gt.below hb⟩
theorem ChX.store {w : World} {b : Nat} {cs cs' : Array Value} {s : ByteArray} {pv : Value} {ps : List ByteArray} {V : World} (h : ChX w b cs s pv ps V) (hlt : b < w.heap.size) (h5 : 5 ≤ b) : ChX w b cs' s pv ps (V.setRow (w.heap.size + 1) cs') := by
  have hbt : But b w.heap.size V (V.setRow (w.heap.size + 1) cs') := setRow_but (But.refl b w.heap.size V) (by omega)
  have hc := setRow_heap V (w.heap.size + 1) cs cs' 26 (0, 0) h.c
  have ho : ∀ k, k ≠ w.heap.size + 1 → (V.setRow (w.heap.size + 1) cs').heap[k]? = V.heap[k]? := fun k hk => setRow_other V _ k cs' hk
  refine ⟨h.but.trans hbt, (ho _ (by omega)).trans h.z, hc, (ho b (by omega)).trans h.rd, ?_, ?_⟩
  · obtain ⟨hl, h2⟩ := h.own
    refine ⟨hl, ?_⟩
    rcases h2 with h2 | ⟨g, cap, cur, rfl, hBg, hg, hr⟩
    · exact .inl h2
    · exact .inr ⟨g, cap, cur, rfl, hBg, (ho g (by omega)).trans hg, hr⟩
  · exact h.gt.blocks (by simp) (fun k hk => ho k (by omega))
-- CHANGE
theorem cell_new_at (w : World) (v : Value) (t n : Nat) (hn : w.heap.size = n) : ∀ j u, [v][j]? = some u → (w.alloc (.cells #[v] t)).cell? ((⟨n, 0, none⟩ : Addr).add j) = some u := by
  intro j u hj
  subst hn
  cases j with
  | zero =>
    simp at hj
    subst hj
    exact World.cell?_alloc_mark w _ t (0, 0) 0
  | succ j => simp at hj
theorem ChX.cell1 {w : World} {b : Nat} {cs : Array Value} {s : ByteArray} {pv : Value} {ps : List ByteArray} {V : World} (h : ChX w b cs s pv ps V) {v : Value} (hv : cs[1]? = some v) : V.cell? ⟨w.heap.size + 1, 1, none⟩ = some v := by
  rw [cell_of_row _ _ _ _ 26 (0, 0) h.c]; exact hv
theorem ChX.cellN {w : World} {b : Nat} {cs : Array Value} {s : ByteArray} {pv : Value} {ps : List ByteArray} {V : World} (h : ChX w b cs s pv ps V) (i : Nat) {v : Value} (hv : cs[i]? = some v) : V.cell? ⟨w.heap.size + 1, i, none⟩ = some v := by
  rw [cell_of_row _ _ _ _ 26 (0, 0) h.c]; exact hv
theorem size26 : (Tryd.prog.info? 26).map (·.size) = some 9 := by kernel_rfl
theorem ones26 (t a c m : ByteArray) (p : Option Addr) (x y : Nat) (i j k l : Int) : (#[.string t, .slice p x y, .string a, .int .i64 i, .int .i64 j, .string c, .int .i64 k, .int .i64 l, .string m] : Array Value).all (·.oneCell') = true := by simp [Value.oneCell']
theorem change_step {l : List UInt8} {t r r1 r2 r3 : List UInt8} {ps : List (List UInt8)} {a c : Sg} (h1 : lineP wTree l = some (t, r)) (h2 : parsL r = some (ps, r1)) (h3 : signLn wAuthor r1 = some (a, r2)) (h4 : signLn wCommitter r2 = some (c, r3)) :
    changeP l = (msgP r3).map fun m => ⟨t, ps, a, c, m⟩ := by
  unfold changeP
  rw [h1]; simp only; rw [h2]; simp only; rw [h3]; simp only; rw [h4]; simp only
  unfold msgP
  split
  · rfl
  · rename_i hx
    split
    · rename_i m
      exact absurd rfl (hx m)
    · rfl
theorem own_set {V : World} {B : Nat} {pv : Value} {l : List ByteArray} {c : Array Value} (h : OwnS V (B + 2) pv l) : OwnS (V.setRow B c) B pv l := by
  obtain ⟨hl, h2⟩ := h
  refine ⟨hl, ?_⟩
  rcases h2 with h2 | ⟨g, cap, cur, rfl, hBg, hg, hr⟩
  · exact .inl h2
  · exact .inr ⟨g, cap, cur, rfl, by omega, (setRow_other V B g c (by omega)).trans hg, hr⟩
theorem ChX.free {w : World} {b : Nat} {cs : Array Value} {s : ByteArray} {pv : Value} {ps : List ByteArray} {V : World} (h : ChX w b cs s pv ps V) (i : Nat) : V.frozen? ⟨w.heap.size + 1, i, none⟩ = false := by simp [World.frozen?, h.c]
theorem ChX.set1 {w : World} {b : Nat} {cs : Array Value} {s : ByteArray} {pv : Value} {ps : List ByteArray} {V : World} (h : ChX w b cs s pv ps V) (i : Nat) (x : Value) (hlt : b < w.heap.size) (h5 : 5 ≤ b) : ChX w b (cs.setIfInBounds i x) s pv ps (V.setCell ⟨w.heap.size + 1, i, none⟩ x) := by
  rw [setCell_eq_setRow V _ i cs 26 (0, 0) x h.c]
  exact h.store hlt h5
theorem ChX.drew {w : World} {b : Nat} {cs : Array Value} {s : ByteArray} {pv : Value} {ps : List ByteArray} {V : World} (h : ChX w b cs s pv ps V) (hlt : b < w.heap.size) : ChX w b cs s pv ps V.drew :=
  h.below ((Below.refl _ V).trans ⟨rfl, rfl, rfl, Nat.le_refl _, fun _ _ => rfl⟩) hlt
theorem ChX.grow {w : World} {b : Nat} {cs : Array Value} {s x : ByteArray} {pv v' : Value} {ps : List ByteArray} {V V' : World} (h : ChX w b cs s pv ps V) (hown : V'.ownsRow (w.heap.size + 2) 9 1 v' (ps.length + 1) (strsV ps ++ [.string x])) (hg : V.grownBy V' pv.ownBlock) (h5 : 5 ≤ b) (hlt : b < w.heap.size) : ChX w b cs s v' (ps ++ [x]) V' := by
  have hb : Below (w.heap.size + 2) V V' := (Below.refl _ V).grown hg h.lt (fun k hk => (World.ownsRow.lt h.own k hk).1)
  exact ⟨h.but.trans (But.of_below ⟨hb.os, hb.tape, hb.output, hb.size, fun k hk => hb.block k (by omega)⟩), (hb.block _ (by omega)).trans h.z, (hb.block _ (by omega)).trans h.c, (hb.block b (by omega)).trans h.rd, OwnS.push hown, h.gt.blocks hb.size (fun k hk => hb.block k (by omega))⟩
theorem OwnS.slice {w : World} {B : Nat} {v : Value} {l : List ByteArray} (h : OwnS w B v l) : ∃ a n c, v = .slice a n c := by
  obtain ⟨a, c, hv, -⟩ := h.shape
  exact ⟨a, _, c, hv⟩
theorem info9 : (Tryd.prog.info? 9).map (fun i => (i.zero, i.size, i.bytes)) = some (some (.string ByteArray.empty), 1, 16) := by kernel_rfl
def restN (w : World) (b : Nat) : Nat := match w.cell? ⟨b, 0, none⟩ with | some (.string s) => s.size | _ => 0
theorem RB.rest {w : World} {b : Nat} {s : ByteArray} (h : RB w b s) : restN w b = s.size := by unfold restN; rw [h.cell]
def baL (l : List UInt8) : ByteArray := ⟨l.toArray⟩
def sbOf (g : Sg) : Sb := ⟨⟨g.who.toArray⟩, g.time, g.zone⟩
def ChgPost (b : Nat) (s : ByteArray) (w : World) (e : Ending) (w' : World) : Prop := But b w.heap.size w w' ∧ match changeP s.data.toList with
  | none => e = gave
  | some c => ∃ pv, e = .returned (.agg (c26 (baL c.tree) pv (sbOf c.author) (sbOf c.committer) (baL c.message))) ∧ OwnS w' w.heap.size pv (c.parents.map baL)
theorem chg_fail {b : Nat} {s : ByteArray} {w w' : World} (h : changeP s.data.toList = none) (hb : But b w.heap.size w w') : ChgPost b s w gave w' := by
  unfold ChgPost
  rw [h]
  exact ⟨hb, rfl⟩
theorem chg_done {b : Nat} {s : ByteArray} {w w' : World} {c : Cm} {pv : Value} (h : changeP s.data.toList = some c) (hb : But b w.heap.size w w') (ho : OwnS w' w.heap.size pv (c.parents.map baL)) :
    ChgPost b s w (.returned (.agg (c26 (baL c.tree) pv (sbOf c.author) (sbOf c.committer) (baL c.message)))) w' := by
  unfold ChgPost
  rw [h]
  exact ⟨hb, pv, rfl, ho⟩
set_option maxHeartbeats 2000000 in
set_option maxRecDepth 100000 in
theorem change_any (b : Nat) (s : ByteArray) (w : World) (hG : GT w) (hR : RB w b s) (h5 : 5 ≤ b) (hs : s.size ≤ 281474976710656)
    (hN : ∀ t r0, lineP wTree s.data.toList = some (t, r0) → r0.length ≤ 1000000000 ∨ ∃ ps q, parsL r0 = some (ps, q) ∧ ps.length ≤ 100) :
    Calls Tryd.prog 39 #[.pointer (some ⟨b, 0, none⟩)] w fun e w' => ChgPost b s w e w' := by
  have hblt := hR.lt
  have HX0 : Hid (ChX w b z26 s (.slice none 0 0) [] ((w.alloc (.cells z26 26)).alloc (.cells z26 26))) := by
    have h2 : Below w.heap.size w ((w.alloc (.cells z26 26)).alloc (.cells z26 26)) := ((Below.refl _ w).alloc (Nat.le_refl _) _).alloc (by simp) _
    exact ⟨But.of_below h2, heap_alloc2_old _ _ _, heap_alloc2_new _ _ _, hR.below h2, ⟨rfl, .inl ⟨rfl, rfl⟩⟩, hG.below h2⟩
  obtain ⟨i0, hi, hz0, hz1, hz2⟩ := info_parts info9
  have hwt : (⟨wTree.toArray⟩ : ByteArray) = ⟨#[116, 114, 101, 101, 32]⟩ := rfl
  have HWP : Hid ((⟨#[112, 97, 114, 101, 110, 116, 32]⟩ : ByteArray).data.toList = wParent) := rfl
  cases e1 : lineP wTree s.data.toList with
  | none =>
    have HL := hidM (line_no b s ⟨wTree.toArray⟩ _ HX0.out.rd hs e1)
    have HCN : Hid (changeP s.data.toList = none) := by unfold Hid changeP; rw [e1]
    rw [hwt] at HL
    unfold z26 at HX0 HL
    clear hG hR e1 hwt hN
    go_enter Tryd.func39, Tryd.ntmps39
    go_wp2_with fail
    refine HL.out.mono ?_
    rintro _ w1 ⟨rfl, hb1⟩
    have HB1 := hidM (HX0.out.but.trans (hb1.mono HX0.out.but.size))
    clear hb1
    unfold gave
    go_wp2
    exact ⟨rfl, chg_fail HCN.out HB1.out⟩
  | some tr =>
    obtain ⟨t, r0⟩ := tr
    have HL := hidM (line_ok b s ⟨wTree.toArray⟩ _ t r0 HX0.out.rd hs e1)
    have hr0 : r0.length ≤ s.size := by have := lineP_len e1; rw [← sl_len s]; omega
    rw [hwt] at HL
    have HN := hidM (hN t r0 e1)
    have HE1 := hidM e1
    clear hG hR e1 hwt hN
    obtain ⟨T, hT⟩ : ∃ T : ByteArray, T = ⟨t.toArray⟩ := ⟨_, rfl⟩
    rw [← hT] at HL
    have HTB : Hid (baL t = T) := hT.symm
    clear hT
    unfold z26 at HX0 HL
    go_enter Tryd.func39, Tryd.ntmps39
    go_wp2_with fail
    refine HL.out.mono ?_
    rintro _ w1 ⟨rfl, hr1, hb1⟩
    have HX1 := hidM (HX0.out.next hb1 hr1 h5 hblt)
    have c1 : w1.cell? ⟨w.heap.size + 1, 0, none⟩ = some (.string ⟨#[]⟩) := by rw [cell_of_row _ _ _ _ 26 (0, 0) HX1.out.c]; rfl
    have f1 : w1.frozen? ⟨w.heap.size + 1, 0, none⟩ = false := HX1.out.free 0
    have HX2 : Hid (ChX w b (c26 T (.slice none 0 0) noS noS ⟨#[]⟩) ⟨r0.toArray⟩ (.slice none 0 0) (([] : List (List UInt8)).map baL) (w1.setCell ⟨w.heap.size + 1, 0, none⟩ (.string T))) := HX1.out.set1 0 (.string T) hblt h5
    clear hb1 hr1 HX1 HX0 HL
    go_wp2
    go_loopw [11] (fun _ wr => ∃ (r : List UInt8) (ps : List (List UInt8)) (pv : Value), r.length ≤ s.size ∧ (match parsL r with | none => parsL r0 = none | some (xs, q) => parsL r0 = some (ps ++ xs, q)) ∧ ps.length ≤ s.size ∧ ps.length + r.length ≤ r0.length ∧ ChX w b (c26 T pv noS noS ⟨#[]⟩) ⟨r.toArray⟩ pv (ps.map baL) wr) (fun _ wr => restN wr b)
    case atStart => exact ⟨r0, [], _, hr0, by cases parsL r0 with | none => rfl | some x => rfl, Nat.zero_le _, Nat.le_of_eq (Nat.zero_add _), HX2.out⟩
    case round =>
      obtain ⟨r, ps, pv, hrs, hpr, hpl, hprl, hX⟩ := hrel
      have HX := hidM hX
      have HPR := hidM hpr
      have crd := hX.rd.cell
      have hmz := hX.rd.rest
      rw [ba_size] at hmz
      clear hX hpr HX2 c1 f1
      have HHP := hidM (fun V => Tryd.strings_HasPrefix ⟨r.toArray⟩ ⟨#[112, 97, 114, 101, 110, 116, 32]⟩ V)
      have hrl : (⟨r.toArray⟩ : ByteArray).data.toList = r := rfl
      rw [HWP.out, hrl] at HHP
      obtain ⟨RR, hRR⟩ : ∃ RR : ByteArray, RR = ⟨r.toArray⟩ := ⟨_, rfl⟩
      cases hpf : Lib.hasPrefix r wParent with
      | true =>
        rw [hpf] at HHP
        have hRz : (⟨r.toArray⟩ : ByteArray).size ≤ 281474976710656 := by rw [ba_size]; omega
        have hPE := parsL_eq r
        rw [hpf, if_pos rfl] at hPE
        cases e2 : lineP wParent r with
        | none =>
          rw [e2] at hPE
          have HP0 : Hid (parsL r0 = none) := by have := HPR.out; rw [hPE] at this; exact this
          have HCN : Hid (changeP s.data.toList = none) := by unfold Hid changeP; rw [HE1.out]; simp only; rw [HP0.out]
          have HLF : Hid (∀ V, ChX w b (c26 T pv noS noS ⟨#[]⟩) ⟨r.toArray⟩ pv (ps.map baL) V → Calls Tryd.prog 57 #[.pointer (some ⟨b, 0, none⟩), .string ⟨#[112, 97, 114, 101, 110, 116, 32]⟩] V fun e w' => e = gave ∧ But b V.heap.size V w') := fun V hV => line_no b _ _ V hV.rd hRz (by rw [HWP.out, hrl]; exact e2)
          unfold gave at HLF
          rw [← hRR] at HHP HX HLF crd
          clear HPR hPE e2 hpf hrl hRz hRR
          go_wp2_with fail
          refine (HHP.out _).mono ?_
          rintro _ w3 ⟨rfl, hw3⟩
          rw [hw3]
          clear hw3
          go_upto_region 4 with fail
          have HX0 := hidM (HX.out.drew hblt)
          refine wp_region_held_drew (S := fun _ => True) (by kernel_rfl) trivial (fun _ => ?_)
          change wpAnyH _ _ _ _ _ _ _ (⟨#[_,_,_,_,_,_,_,_,_,_,_,_,_,_,_,_,_,_,_,_,_,_,_,_,_,_,_,_,_], _⟩ : Act) _
          refine wpAnyH_take (i := 0) (v := ?_) rfl (by kernel_rfl) (by kernel_rfl) (by kernel_rfl) (fun _ _ _ h => h) (Or.inl ⟨by kernel_rfl, ?_⟩) trivial ?_
          rotate_left
          · intro w hSw
            clear hSw
            go_simp
            try with_reducible rfl
          change wpAnyH _ _ _ _ _ _ _ (⟨#[_,_,_,_,_,_,_,_,_,_,_,_,_,_,_,_,_,_,_,_,_,_,_,_,_,_,_,_,_], _⟩ : Act) _
          refine wpAnyH_take (i := 2) (v := ?_) rfl (by kernel_rfl) (by kernel_rfl) (by kernel_rfl) (fun _ _ _ h => h) (Or.inl ⟨by kernel_rfl, ?_⟩) trivial ?_
          rotate_left
          · intro w hSw
            clear hSw
            go_simp
            try with_reducible rfl
          change wpAnyH _ _ _ _ _ _ _ (⟨#[_,_,_,_,_,_,_,_,_,_,_,_,_,_,_,_,_,_,_,_,_,_,_,_,_,_,_,_,_], _⟩ : Act) _
          refine wpAnyH_ready (rs := [1, 3]) (by kernel_rfl) (by simp) ?_
          refine AllReadyH.cons rfl (fun K hK => ?_) (AllReadyH.cons rfl (fun K hK => ?_) (AllReadyH.nil))
          · have cl := HX0.out.cell1 (v := pv) rfl
            go_simp
            refine hK.out _ _ trivial (fun _ => ?_)
            clear hK K cl
            change wpAnyH _ _ _ _ _ _ _ (⟨#[_,_,_,_,_,_,_,_,_,_,_,_,_,_,_,_,_,_,_,_,_,_,_,_,_,_,_,_,_], _⟩ : Act) _
            refine wpAnyH_ready (rs := [3]) (by kernel_rfl) (by simp) ?_
            refine AllReadyH.cons rfl (fun K hK => ?_) (AllReadyH.nil)
            go_simp
            with_reducible refine (HLF.out _ HX0.out).mono ?_
            rintro _ w9 ⟨rfl, hb9⟩
            exact ⟨rfl, chg_fail HCN.out (HX0.out.but.trans (hb9.mono HX0.out.but.size))⟩
          · go_simp
            with_reducible refine (HLF.out _ HX0.out).mono ?_
            rintro _ w9 ⟨rfl, hb9⟩
            exact ⟨rfl, chg_fail HCN.out (HX0.out.but.trans (hb9.mono HX0.out.but.size))⟩
        | some xq =>
          obtain ⟨x, q⟩ := xq
          rw [e2] at hPE
          have hlen := lineP_len e2
          have h7 : wParent.length = 7 := rfl
          have HPN : Hid (match parsL q with | none => parsL r0 = none | some (xs, z) => parsL r0 = some ((ps ++ [x]) ++ xs, z)) := by
            have h1 := HPR.out
            rw [hPE] at h1
            simp only at h1
            unfold Hid
            cases e3 : parsL q with
            | none => rw [e3] at h1; exact h1
            | some y => obtain ⟨xs, z⟩ := y; rw [e3] at h1; simpa using h1
          have HLC : Hid (∀ V, ChX w b (c26 T pv noS noS ⟨#[]⟩) ⟨r.toArray⟩ pv (ps.map baL) V → Calls Tryd.prog 57 #[.pointer (some ⟨b, 0, none⟩), .string ⟨#[112, 97, 114, 101, 110, 116, 32]⟩] V fun e w' => e = .returned (.string ⟨x.toArray⟩) ∧ RB w' b ⟨q.toArray⟩ ∧ But b V.heap.size V w') := fun V hV => line_ok b _ _ V x q hV.rd hRz (by rw [HWP.out, hrl]; exact e2)
          obtain ⟨X, hXX⟩ : ∃ X : ByteArray, X = ⟨x.toArray⟩ := ⟨_, rfl⟩
          have HXB : Hid (baL x = X) := hXX.symm
          rw [← hRR] at HHP HX HLC crd
          rw [← hXX] at HLC
          have HM1 : Hid ((ps.map baL).length + 1 ≤ maxLen) := by unfold Hid maxLen; rw [List.length_map]; omega
          have HM2 : Hid (((ps.map baL).length + 1) * 16 ≤ 140737488355328) := by
            unfold Hid
            rw [List.length_map]
            rcases HN.out with h | ⟨ps', q', h, h100⟩
            · omega
            · have h1 := HPR.out
              rw [hPE] at h1
              simp only at h1
              cases e3 : parsL q with
              | none => rw [e3] at h1; simp only at h1; rw [h] at h1; cases h1
              | some y =>
                obtain ⟨xs, z⟩ := y
                rw [e3] at h1
                simp only at h1
                rw [h] at h1
                injection h1 with h1
                injection h1 with h1 _
                have := congrArg List.length h1
                rw [List.length_append] at this
                omega
          clear HPR hPE e2 hpf hrl hRz hRR hXX
          go_wp2_with fail
          refine (HHP.out _).mono ?_
          rintro _ w3 ⟨rfl, hw3⟩
          rw [hw3]
          clear hw3
          go_upto_region 4 with fail
          have HX0 := hidM (HX.out.drew hblt)
          refine wp_region_noPanic ?_
          refine wp_region_held_drew (S := fun _ => True) (by kernel_rfl) trivial (fun _ => ?_)
          change wpAnyH _ _ _ _ _ _ _ (⟨#[_,_,_,_,_,_,_,_,_,_,_,_,_,_,_,_,_,_,_,_,_,_,_,_,_,_,_,_,_], _⟩ : Act) _
          refine wpAnyH_take (i := 0) (v := ?_) rfl (by kernel_rfl) (by kernel_rfl) (by kernel_rfl) (fun _ _ _ h => h) (Or.inl ⟨by kernel_rfl, ?_⟩) trivial ?_
          rotate_left
          · intro w hSw
            clear hSw
            go_simp
            try with_reducible rfl
          change wpAnyH _ _ _ _ _ _ _ (⟨#[_,_,_,_,_,_,_,_,_,_,_,_,_,_,_,_,_,_,_,_,_,_,_,_,_,_,_,_,_], _⟩ : Act) _
          refine wpAnyH_take (i := 2) (v := ?_) rfl (by kernel_rfl) (by kernel_rfl) (by kernel_rfl) (fun _ _ _ h => h) (Or.inl ⟨by kernel_rfl, ?_⟩) trivial ?_
          rotate_left
          · intro w hSw
            clear hSw
            go_simp
            try with_reducible rfl
          change wpAnyH _ _ _ _ _ _ _ (⟨#[_,_,_,_,_,_,_,_,_,_,_,_,_,_,_,_,_,_,_,_,_,_,_,_,_,_,_,_,_], _⟩ : Act) _
          refine wpAnyH_ready (rs := [1, 3]) (by kernel_rfl) (by simp) ?_
          refine AllReadyH.cons rfl (fun K hK => ?_) (AllReadyH.cons rfl (fun K hK => ?_) (AllReadyH.nil))
          · have cl := HX0.out.cell1 (v := pv) rfl
            go_simp
            refine hK.out _ _ trivial (fun _ => ?_)
            clear hK K cl
            change wpAnyH _ _ _ _ _ _ _ (⟨#[_,_,_,_,_,_,_,_,_,_,_,_,_,_,_,_,_,_,_,_,_,_,_,_,_,_,_,_,_], _⟩ : Act) _
            refine wpAnyH_ready (rs := [3]) (by kernel_rfl) (by simp) ?_
            refine AllReadyH.cons rfl (fun K hK => ?_) (AllReadyH.nil)
            go_simp
            with_reducible refine (HLC.out _ HX0.out).mono ?_
            rintro _ w9 ⟨rfl, hr9, hb9⟩
            have HX9 := hidM (HX0.out.next hb9 hr9 h5 hblt)
            refine hK.out _ _ trivial (fun _ => ?_)
            clear hK K hr9 hb9
            change wpAnyH _ _ _ _ _ _ _ (⟨#[_,_,_,_,_,_,_,_,_,_,_,_,_,_,_,_,_,_,_,_,_,_,_,_,_,_,_,_,_], _⟩ : Act) _
            refine wpAnyH_ready (rs := [4]) (by kernel_rfl) (by simp) ?_
            refine AllReadyH.cons rfl (fun K hK => ?_) (AllReadyH.nil)
            go_simp
            have HXa : Hid (ChX w b (c26 T pv noS noS ⟨#[]⟩) ⟨q.toArray⟩ pv (ps.map baL) (w9.alloc (.cells #[.string X] 9))) := HX9.out.below ((Below.refl _ w9).alloc (Nat.le_refl _) _) hblt
            refine hK.out _ _ trivial (fun _ => ?_)
            clear hK K
            change wpAnyH _ _ _ _ _ _ _ (⟨#[_,_,_,_,_,_,_,_,_,_,_,_,_,_,_,_,_,_,_,_,_,_,_,_,_,_,_,_,_], _⟩ : Act) _
            refine wpAnyH_ready (rs := [5]) (by kernel_rfl) (by simp) ?_
            refine AllReadyH.cons rfl (fun K hK => ?_) (AllReadyH.nil)
            refine step_append_own rfl _ _ 22 rfl (w.heap.size + 2) 9 i0 (.string .empty) 1 16 Tryd.underlying22 hi hz0 hz1 hz2 rfl (by decide) pv (ps.map baL).length (strsV (ps.map baL)) rfl HXa.out.own ⟨w9.heap.size, 0, none⟩ 1 1 [.string X] (by rfl) rfl (cell_new_at _ _ _ _ rfl) (by intro u hu; simp at hu; subst hu; rfl) HM1.out HM2.out HXa.out.lt ?_
            intro v' w10 hown' hgrow
            obtain ⟨va, vn, vc, rfl⟩ := (OwnS.push hown').slice
            have HX10 := hidM (HXa.out.grow hown' hgrow h5 hblt)
            refine hK.out _ _ trivial (fun _ => ?_)
            clear hK K hgrow hown'
            change wpAnyH _ _ _ _ _ _ _ (⟨#[_,_,_,_,_,_,_,_,_,_,_,_,_,_,_,_,_,_,_,_,_,_,_,_,_,_,_,_,_], _⟩ : Act) _
            refine wpAnyH_take (i := 6) (v := ?_) rfl (by kernel_rfl) (by kernel_rfl) (by kernel_rfl) (fun _ _ _ h => h) (Or.inl ⟨by kernel_rfl, ?_⟩) trivial ?_
            rotate_left
            · intro w hSw
              clear hSw
              go_simp
              try with_reducible rfl
            change wpAnyH _ _ _ _ _ _ _ (⟨#[_,_,_,_,_,_,_,_,_,_,_,_,_,_,_,_,_,_,_,_,_,_,_,_,_,_,_,_,_], _⟩ : Act) _
            refine wpAnyH_ready (rs := [7]) (by kernel_rfl) (by simp) ?_
            refine AllReadyH.cons rfl (fun K hK => ?_) (AllReadyH.nil)
            have cl := HX10.out.cell1 (v := pv) rfl
            have fl := HX10.out.free 1
            go_simp
            have HX11 := hidM (HX10.out.set1 1 (.slice va vn vc) hblt h5)
            refine hK.out _ _ trivial (fun _ => ?_)
            clear hK K cl fl
            change wpAnyH _ _ _ _ _ _ _ (⟨#[_,_,_,_,_,_,_,_,_,_,_,_,_,_,_,_,_,_,_,_,_,_,_,_,_,_,_,_,_], _⟩ : Act) _
            refine wpAnyH_done (by kernel_rfl) ?_ _
            refine NoPanic.normal ?_
            go_wp2
            go_roundw
            case rel => exact ⟨q, ps ++ [x], _, by omega, HPN.out, by rw [List.length_append, List.length_singleton]; omega, by rw [List.length_append, List.length_singleton]; omega, by rw [List.map_append]; simp only [List.map_cons, List.map_nil]; rw [HXB.out]; exact HX11.out⟩
            case measure => rw [hmz]; show restN _ b < _; rw [HX11.out.rd.rest, ba_size]; omega
          · go_simp
            with_reducible refine (HLC.out _ HX0.out).mono ?_
            rintro _ w9 ⟨rfl, hr9, hb9⟩
            have HX9 := hidM (HX0.out.next hb9 hr9 h5 hblt)
            refine hK.out _ _ trivial (fun _ => ?_)
            clear hK K hr9 hb9
            change wpAnyH _ _ _ _ _ _ _ (⟨#[_,_,_,_,_,_,_,_,_,_,_,_,_,_,_,_,_,_,_,_,_,_,_,_,_,_,_,_,_], _⟩ : Act) _
            refine wpAnyH_ready (rs := [1, 4]) (by kernel_rfl) (by simp) ?_
            refine AllReadyH.cons rfl (fun K hK => ?_) (AllReadyH.cons rfl (fun K hK => ?_) (AllReadyH.nil))
            · have cl := HX9.out.cell1 (v := pv) rfl
              go_simp
              refine hK.out _ _ trivial (fun _ => ?_)
              clear hK K cl
              change wpAnyH _ _ _ _ _ _ _ (⟨#[_,_,_,_,_,_,_,_,_,_,_,_,_,_,_,_,_,_,_,_,_,_,_,_,_,_,_,_,_], _⟩ : Act) _
              refine wpAnyH_ready (rs := [4]) (by kernel_rfl) (by simp) ?_
              refine AllReadyH.cons rfl (fun K hK => ?_) (AllReadyH.nil)
              go_simp
              have HXa : Hid (ChX w b (c26 T pv noS noS ⟨#[]⟩) ⟨q.toArray⟩ pv (ps.map baL) (w9.alloc (.cells #[.string X] 9))) := HX9.out.below ((Below.refl _ w9).alloc (Nat.le_refl _) _) hblt
              refine hK.out _ _ trivial (fun _ => ?_)
              clear hK K
              change wpAnyH _ _ _ _ _ _ _ (⟨#[_,_,_,_,_,_,_,_,_,_,_,_,_,_,_,_,_,_,_,_,_,_,_,_,_,_,_,_,_], _⟩ : Act) _
              refine wpAnyH_ready (rs := [5]) (by kernel_rfl) (by simp) ?_
              refine AllReadyH.cons rfl (fun K hK => ?_) (AllReadyH.nil)
              refine step_append_own rfl _ _ 22 rfl (w.heap.size + 2) 9 i0 (.string .empty) 1 16 Tryd.underlying22 hi hz0 hz1 hz2 rfl (by decide) pv (ps.map baL).length (strsV (ps.map baL)) rfl HXa.out.own ⟨w9.heap.size, 0, none⟩ 1 1 [.string X] (by rfl) rfl (cell_new_at _ _ _ _ rfl) (by intro u hu; simp at hu; subst hu; rfl) HM1.out HM2.out HXa.out.lt ?_
              intro v' w10 hown' hgrow
              obtain ⟨va, vn, vc, rfl⟩ := (OwnS.push hown').slice
              have HX10 := hidM (HXa.out.grow hown' hgrow h5 hblt)
              refine hK.out _ _ trivial (fun _ => ?_)
              clear hK K hgrow hown'
              change wpAnyH _ _ _ _ _ _ _ (⟨#[_,_,_,_,_,_,_,_,_,_,_,_,_,_,_,_,_,_,_,_,_,_,_,_,_,_,_,_,_], _⟩ : Act) _
              refine wpAnyH_take (i := 6) (v := ?_) rfl (by kernel_rfl) (by kernel_rfl) (by kernel_rfl) (fun _ _ _ h => h) (Or.inl ⟨by kernel_rfl, ?_⟩) trivial ?_
              rotate_left
              · intro w hSw
                clear hSw
                go_simp
                try with_reducible rfl
              change wpAnyH _ _ _ _ _ _ _ (⟨#[_,_,_,_,_,_,_,_,_,_,_,_,_,_,_,_,_,_,_,_,_,_,_,_,_,_,_,_,_], _⟩ : Act) _
              refine wpAnyH_ready (rs := [7]) (by kernel_rfl) (by simp) ?_
              refine AllReadyH.cons rfl (fun K hK => ?_) (AllReadyH.nil)
              have cl := HX10.out.cell1 (v := pv) rfl
              have fl := HX10.out.free 1
              go_simp
              have HX11 := hidM (HX10.out.set1 1 (.slice va vn vc) hblt h5)
              refine hK.out _ _ trivial (fun _ => ?_)
              clear hK K cl fl
              change wpAnyH _ _ _ _ _ _ _ (⟨#[_,_,_,_,_,_,_,_,_,_,_,_,_,_,_,_,_,_,_,_,_,_,_,_,_,_,_,_,_], _⟩ : Act) _
              refine wpAnyH_done (by kernel_rfl) ?_ _
              refine NoPanic.normal ?_
              go_wp2
              go_roundw
              case rel => exact ⟨q, ps ++ [x], _, by omega, HPN.out, by rw [List.length_append, List.length_singleton]; omega, by rw [List.length_append, List.length_singleton]; omega, by rw [List.map_append]; simp only [List.map_cons, List.map_nil]; rw [HXB.out]; exact HX11.out⟩
              case measure => rw [hmz]; show restN _ b < _; rw [HX11.out.rd.rest, ba_size]; omega
            · go_simp
              have HXa : Hid (ChX w b (c26 T pv noS noS ⟨#[]⟩) ⟨q.toArray⟩ pv (ps.map baL) (w9.alloc (.cells #[.string X] 9))) := HX9.out.below ((Below.refl _ w9).alloc (Nat.le_refl _) _) hblt
              refine hK.out _ _ trivial (fun _ => ?_)
              clear hK K
              change wpAnyH _ _ _ _ _ _ _ (⟨#[_,_,_,_,_,_,_,_,_,_,_,_,_,_,_,_,_,_,_,_,_,_,_,_,_,_,_,_,_], _⟩ : Act) _
              refine wpAnyH_ready (rs := [1]) (by kernel_rfl) (by simp) ?_
              refine AllReadyH.cons rfl (fun K hK => ?_) (AllReadyH.nil)
              have cl := HXa.out.cell1 (v := pv) rfl
              go_simp
              refine hK.out _ _ trivial (fun _ => ?_)
              clear hK K cl
              change wpAnyH _ _ _ _ _ _ _ (⟨#[_,_,_,_,_,_,_,_,_,_,_,_,_,_,_,_,_,_,_,_,_,_,_,_,_,_,_,_,_], _⟩ : Act) _
              refine wpAnyH_ready (rs := [5]) (by kernel_rfl) (by simp) ?_
              refine AllReadyH.cons rfl (fun K hK => ?_) (AllReadyH.nil)
              refine step_append_own rfl _ _ 22 rfl (w.heap.size + 2) 9 i0 (.string .empty) 1 16 Tryd.underlying22 hi hz0 hz1 hz2 rfl (by decide) pv (ps.map baL).length (strsV (ps.map baL)) rfl HXa.out.own ⟨w9.heap.size, 0, none⟩ 1 1 [.string X] (by rfl) rfl (cell_new_at _ _ _ _ rfl) (by intro u hu; simp at hu; subst hu; rfl) HM1.out HM2.out HXa.out.lt ?_
              intro v' w10 hown' hgrow
              obtain ⟨va, vn, vc, rfl⟩ := (OwnS.push hown').slice
              have HX10 := hidM (HXa.out.grow hown' hgrow h5 hblt)
              refine hK.out _ _ trivial (fun _ => ?_)
              clear hK K hgrow hown'
              change wpAnyH _ _ _ _ _ _ _ (⟨#[_,_,_,_,_,_,_,_,_,_,_,_,_,_,_,_,_,_,_,_,_,_,_,_,_,_,_,_,_], _⟩ : Act) _
              refine wpAnyH_take (i := 6) (v := ?_) rfl (by kernel_rfl) (by kernel_rfl) (by kernel_rfl) (fun _ _ _ h => h) (Or.inl ⟨by kernel_rfl, ?_⟩) trivial ?_
              rotate_left
              · intro w hSw
                clear hSw
                go_simp
                try with_reducible rfl
              change wpAnyH _ _ _ _ _ _ _ (⟨#[_,_,_,_,_,_,_,_,_,_,_,_,_,_,_,_,_,_,_,_,_,_,_,_,_,_,_,_,_], _⟩ : Act) _
              refine wpAnyH_ready (rs := [7]) (by kernel_rfl) (by simp) ?_
              refine AllReadyH.cons rfl (fun K hK => ?_) (AllReadyH.nil)
              have cl := HX10.out.cell1 (v := pv) rfl
              have fl := HX10.out.free 1
              go_simp
              have HX11 := hidM (HX10.out.set1 1 (.slice va vn vc) hblt h5)
              refine hK.out _ _ trivial (fun _ => ?_)
              clear hK K cl fl
              change wpAnyH _ _ _ _ _ _ _ (⟨#[_,_,_,_,_,_,_,_,_,_,_,_,_,_,_,_,_,_,_,_,_,_,_,_,_,_,_,_,_], _⟩ : Act) _
              refine wpAnyH_done (by kernel_rfl) ?_ _
              refine NoPanic.normal ?_
              go_wp2
              go_roundw
              case rel => exact ⟨q, ps ++ [x], _, by omega, HPN.out, by rw [List.length_append, List.length_singleton]; omega, by rw [List.length_append, List.length_singleton]; omega, by rw [List.map_append]; simp only [List.map_cons, List.map_nil]; rw [HXB.out]; exact HX11.out⟩
              case measure => rw [hmz]; show restN _ b < _; rw [HX11.out.rd.rest, ba_size]; omega
      | false =>
        rw [hpf] at HHP
        have hRz : (⟨r.toArray⟩ : ByteArray).size ≤ 281474976710656 := by rw [ba_size]; omega
        have hPE := parsL_eq r
        rw [hpf, if_neg (by simp)] at hPE
        have HP0 : Hid (parsL r0 = some (ps, r)) := by have := HPR.out; rw [hPE] at this; simp only [List.append_nil] at this; exact this
        have HSG := hidM (fun V (hG : GT V) (hR : RB V b ⟨r.toArray⟩) => sign_any b ⟨r.toArray⟩ ⟨#[97, 117, 116, 104, 111, 114, 32]⟩ V hG hR h5 hRz)
        have hwa : (⟨#[97, 117, 116, 104, 111, 114, 32]⟩ : ByteArray).data.toList = wAuthor := rfl
        rw [hwa, hrl] at HSG
        unfold SignPost at HSG
        rw [← hRR] at HHP HX crd HSG
        clear HPR hPE hpf hrl hRz hRR hwa
        cases e3 : signLn wAuthor r with
        | none =>
          rw [e3] at HSG
          have HCN : Hid (changeP s.data.toList = none) := by unfold Hid changeP; rw [HE1.out]; simp only; rw [HP0.out]; simp only; rw [e3]
          unfold gave at HSG
          go_wp2_with fail
          refine (HHP.out _).mono ?_
          rintro _ w3 ⟨rfl, hw3⟩
          rw [hw3]
          clear hw3
          go_wp2_with fail
          refine (HSG.out _ HX.out.gt HX.out.rd).mono ?_
          rintro _ w9 ⟨hb9, rfl⟩
          have HB9 := hidM (HX.out.but.trans (hb9.mono HX.out.but.size))
          clear hb9
          go_wp2
          exact ⟨rfl, chg_fail HCN.out HB9.out⟩
        | some ar =>
          obtain ⟨a, r2⟩ := ar
          rw [e3] at HSG
          simp only at HSG
          unfold sgV at HSG
          go_wp2_with fail
          refine (HHP.out _).mono ?_
          rintro _ w3 ⟨rfl, hw3⟩
          rw [hw3]
          clear hw3
          go_wp2_with fail
          refine (HSG.out _ HX.out.gt HX.out.rd).mono ?_
          rintro _ w9 ⟨hb9, rfl, hr9⟩
          have HX9 := hidM (HX.out.next hb9 hr9 h5 hblt)
          have f2 := HX9.out.free 2
          have f3 := HX9.out.free 3
          have f4 := HX9.out.free 4
          have c2 := HX9.out.cellN 2 (v := .string ⟨#[]⟩) rfl
          have c3 := HX9.out.cellN 3 (v := .int .i64 0) rfl
          have c4 := HX9.out.cellN 4 (v := .int .i64 0) rfl
          have HXA : Hid (ChX w b (c26 T pv (sbOf a) noS ⟨#[]⟩) ⟨r2.toArray⟩ pv (ps.map baL) (((w9.setCell ⟨w.heap.size + 1, 2, none⟩ (.string ⟨a.who.toArray⟩)).setCell ⟨w.heap.size + 1, 3, none⟩ (.int .i64 a.time)).setCell ⟨w.heap.size + 1, 4, none⟩ (.int .i64 a.zone))) := ((HX9.out.set1 2 _ hblt h5).set1 3 _ hblt h5).set1 4 _ hblt h5
          clear hb9 hr9 HX9
          go_upto_region 6 with fail
          generalize (((w9.setCell ⟨w.heap.size + 1, 2, none⟩ (.string ⟨a.who.toArray⟩)).setCell ⟨w.heap.size + 1, 3, none⟩ (.int .i64 a.time)).setCell ⟨w.heap.size + 1, 4, none⟩ (.int .i64 a.zone)) = WA at *
          have hr2z : r2.length ≤ s.size := by
            have := congrArg List.length (signLn_some e3).1
            simp only [List.length_append, List.length_cons] at this
            omega
          have h2z : (⟨r2.toArray⟩ : ByteArray).size ≤ 281474976710656 := by rw [ba_size]; omega
          have HSC := hidM (sign_any b ⟨r2.toArray⟩ ⟨#[99, 111, 109, 109, 105, 116, 116, 101, 114, 32]⟩ WA HXA.out.gt HXA.out.rd h5 h2z)
          have hwc : (⟨#[99, 111, 109, 109, 105, 116, 116, 101, 114, 32]⟩ : ByteArray).data.toList = wCommitter := rfl
          have hrl2 : (⟨r2.toArray⟩ : ByteArray).data.toList = r2 := rfl
          rw [hwc, hrl2] at HSC
          unfold SignPost at HSC
          have HE3 := hidM e3
          clear hwc hrl2 h2z f2 f3 f4 c2 c3 c4 e3 HSG HHP crd HX
          cases e4 : signLn wCommitter r2 with
          | none =>
            rw [e4] at HSC
            have HCN : Hid (changeP s.data.toList = none) := by unfold Hid changeP; rw [HE1.out]; simp only; rw [HP0.out]; simp only; rw [HE3.out]; simp only; rw [e4]
            simp only at HSC
            unfold gave at HSC
            go_wp2_with fail
            refine HSC.out.mono ?_
            rintro _ w9 ⟨hb9, rfl⟩
            have HB9 := hidM (HXA.out.but.trans (hb9.mono HXA.out.but.size))
            clear hb9
            go_wp2
            exact ⟨rfl, chg_fail HCN.out HB9.out⟩
          | some cr =>
            obtain ⟨c, r3⟩ := cr
            rw [e4] at HSC
            simp only at HSC
            unfold sgV at HSC
            have hmap := change_step HE1.out HP0.out HE3.out e4
            have HMP := hidM hmap
            clear hmap e4
            go_wp2_with fail
            refine HSC.out.mono ?_
            rintro _ w9 ⟨hb9, rfl, hr9⟩
            have HX9 := hidM (HXA.out.next hb9 hr9 h5 hblt)
            have f5 := HX9.out.free 5
            have f6 := HX9.out.free 6
            have f7 := HX9.out.free 7
            have c5 := HX9.out.cellN 5 (v := .string ⟨#[]⟩) rfl
            have c6 := HX9.out.cellN 6 (v := .int .i64 0) rfl
            have c7 := HX9.out.cellN 7 (v := .int .i64 0) rfl
            have HXC : Hid (ChX w b (c26 T pv (sbOf a) (sbOf c) ⟨#[]⟩) ⟨r3.toArray⟩ pv (ps.map baL) (((w9.setCell ⟨w.heap.size + 1, 5, none⟩ (.string ⟨c.who.toArray⟩)).setCell ⟨w.heap.size + 1, 6, none⟩ (.int .i64 c.time)).setCell ⟨w.heap.size + 1, 7, none⟩ (.int .i64 c.zone))) := ((HX9.out.set1 5 _ hblt h5).set1 6 _ hblt h5).set1 7 _ hblt h5
            clear hb9 hr9 HX9
            go_upto_region 7 with fail
            generalize (((w9.setCell ⟨w.heap.size + 1, 5, none⟩ (.string ⟨c.who.toArray⟩)).setCell ⟨w.heap.size + 1, 6, none⟩ (.int .i64 c.time)).setCell ⟨w.heap.size + 1, 7, none⟩ (.int .i64 c.zone)) = WC at *
            clear f5 f6 f7 c5 c6 c7 HXA HSC
            have hrl3 : (⟨r3.toArray⟩ : ByteArray).data.toList = r3 := rfl
            cases e5 : msgP r3 with
            | none =>
              have HM := hidM (message_no b ⟨r3.toArray⟩ WC HXC.out.rd (by rw [hrl3]; exact e5))
              have HCN : Hid (changeP s.data.toList = none) := by unfold Hid; rw [HMP.out, e5]; rfl
              unfold gave at HM
              clear hrl3
              go_wp2_with fail
              refine HM.out.mono ?_
              rintro _ w9 ⟨rfl, hw9⟩
              rw [hw9]
              clear hw9
              go_wp2
              exact ⟨rfl, chg_fail HCN.out HXC.out.but⟩
            | some m =>
              have HM := hidM (message_ok b ⟨r3.toArray⟩ WC m HXC.out.rd (by rw [hrl3]; exact e5))
              have HCS : Hid (changeP s.data.toList = some ⟨t, ps, a, c, m⟩) := by unfold Hid; rw [HMP.out, e5]; rfl
              clear hrl3
              have f8 := HXC.out.free 8
              have c8 := HXC.out.cellN 8 (v := .string ⟨#[]⟩) rfl
              have HXD : Hid (ChX w b (c26 T pv (sbOf a) (sbOf c) ⟨m.toArray⟩) ⟨r3.toArray⟩ pv (ps.map baL) (WC.setCell ⟨w.heap.size + 1, 8, none⟩ (.string ⟨m.toArray⟩))) := HXC.out.set1 8 _ hblt h5
              go_wp2_with fail
              refine HM.out.mono ?_
              rintro _ w9 ⟨rfl, hw9⟩
              rw [hw9]
              clear hw9
              go_upto_region 8 with fail
              generalize WC.setCell ⟨w.heap.size + 1, 8, none⟩ (.string ⟨m.toArray⟩) = WD at *
              clear f8 c8 HM HXC
              have k0 := HXD.out.cellN 0 (v := .string T) rfl
              have k1 := HXD.out.cellN 1 (v := pv) rfl
              have k2 := HXD.out.cellN 2 (v := .string ⟨a.who.toArray⟩) rfl
              have k3 := HXD.out.cellN 3 (v := .int .i64 a.time) rfl
              have k4 := HXD.out.cellN 4 (v := .int .i64 a.zone) rfl
              have k5 := HXD.out.cellN 5 (v := .string ⟨c.who.toArray⟩) rfl
              have k6 := HXD.out.cellN 6 (v := .int .i64 c.time) rfl
              have k7 := HXD.out.cellN 7 (v := .int .i64 c.zone) rfl
              have k8 := HXD.out.cellN 8 (v := .string ⟨m.toArray⟩) rfl
              have hZ := HXD.out.z
              unfold z26 at hZ
              have HZ := hidM hZ
              obtain ⟨va, vn, vc, hpv⟩ := HXD.out.own.slice
              subst hpv
              clear hZ
              go_wp2_with (refine wpList_store_row rfl 26 (.tmp 2) (.tmp 28) rfl w.heap.size #[.string T, .slice va vn vc, .string ⟨a.who.toArray⟩, .int .i64 a.time, .int .i64 a.zone, .string ⟨c.who.toArray⟩, .int .i64 c.time, .int .i64 c.zone, .string ⟨m.toArray⟩] rfl rfl 26 #[.string ⟨#[]⟩, .slice none 0 0, .string ⟨#[]⟩, .int .i64 0, .int .i64 0, .string ⟨#[]⟩, .int .i64 0, .int .i64 0, .string ⟨#[]⟩] HZ.out size26 rfl (ones26 _ _ _ _ _ _ _ _ _ _ _) ?_)
              have hfin := fun C => chg_done (pv := .slice va vn vc) HCS.out (setRow_but (c := C) HXD.out.but (Nat.le_refl _)) (own_set HXD.out.own)
              simp only at hfin
              rw [HTB.out] at hfin
              exact bodyPost_ret (results_cell_row rfl _ _ w.heap.size 26 _ (0, 0) _ rfl (setRow_heap _ _ _ _ 26 _ HZ.out) Tryd.underlying26 rfl size26) rfl (hfin _)
end Go.Proofs.YtbghailohnppmaaDoor

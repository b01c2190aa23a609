/-
  The second of any fourteen bytes (Unstamp); a call's three answers, the second in a box.
  Walks of pseudo: cut.
  Walks of pseudo: baseOf.
  Walks of pseudo: Parse, Is.
-/
import Derived.Test.YtmhjdahmmdfbcaaGreatDoorJCalN
namespace Go.Proofs.YtmhjdahmmdfbcaaGreatDoor
open Go.RowKit

/-- the second of a date, and what is wrong with it -/
def unixF (y m d h mi s : Nat) : Int × Int := if dayB (y : Int) (m : Int) (d : Int) && timeB (h : Int) (mi : Int) (s : Int) then (((dN y m d * 86400 + h * 3600 + mi * 60 + s : Nat) : Int) - 62135596800, 0) else (0, 1)
theorem unix_any (y m d h mi s : Nat) (k : Int) (w : World) (hG : GT w) : Calls Tryz.prog 97 #[.agg #[.int .i64 (y : Int), .int .i64 (m : Int), .int .i64 (d : Int), .int .i64 (h : Int), .int .i64 (mi : Int), .int .i64 (s : Int), .int .i64 k]] w fun x w' => x = .returned (.tuple #[.int .i64 (unixF y m d h mi s).1, .int .i64 (unixF y m d h mi s).2]) ∧ Below w.heap.size w w' := by
  unfold unixF
  cases hn : dayB (y : Int) (m : Int) (d : Int) && timeB (h : Int) (mi : Int) (s : Int) with
  | false => exact unix_no y m d h mi s k w hG hn
  | true =>
    rw [Bool.and_eq_true] at hn
    obtain ⟨h1, h2⟩ := hn
    have hd := of_decide_eq_true h1
    unfold timeB at h2
    simp only [Bool.and_eq_true, decide_eq_true_eq] at h2
    obtain ⟨⟨⟨t1, t2⟩, t3, t4⟩, t5, t6⟩ := h2
    obtain ⟨d1, d2, d3, d4⟩ := hd
    have hm : 1 ≤ (m : Int) ∧ (m : Int) ≤ 12 := by
      refine Classical.byContradiction fun hc => ?_
      unfold daysI at d4
      rw [if_neg hc] at d4
      omega
    rw [days_cast] at d4
    have hday : IsDay (dN y m d) y m d := ⟨by omega, by omega, by omega, by omega, by omega, by omega, rfl⟩
    exact unix_yes (dN y m d) y m d h mi s k w hG hday (by omega) (by omega) (by omega)
def digQ (s : ByteArray) : Bool := s.data.toList.all fun c => decide (48 ≤ c.toNat) && decide (c.toNat ≤ 57)
theorem dig_q (s : ByteArray) : digB s = digQ s := by
  rw [Bool.eq_iff_iff]
  unfold digB digQ
  rw [decide_eq_true_iff, List.all_eq_true]
  refine forall_congr' fun c => forall_congr' fun _ => ?_
  unfold isDig
  simp
/-- what Unstamp answers -/
def uns (s : ByteArray) : Int × Int :=
  if s.size = 14 ∧ digQ s = true then unixF (two s 0 * 100 + two s 2) (two s 4) (two s 6) (two s 8) (two s 10) (two s 12) else (0, 3)
theorem unstamp_any (s : ByteArray) (w : World) (hG : GT w) : Calls Tryz.prog 65 #[.string s] w fun x w' => x = .returned (.tuple #[.int .i64 (uns s).1, .int .i64 (uns s).2]) ∧ Below w.heap.size w w' := by
  unfold uns
  rw [← dig_q]
  by_cases h : s.size = 14 ∧ digB s = true
  · rw [if_pos h]
    exact unstamp_via s w hG h.1 h.2 _ _ (fun V hV => unix_any _ _ _ _ _ _ 0 V hV)
  · rw [if_neg h]
    refine unstamp_bad s w ?_
    by_cases h1 : s.size = 14
    · exact Or.inr (by cases hd : digB s with | true => exact absurd ⟨h1, hd⟩ h | false => rfl)
    · exact Or.inl h1
theorem results_tct {fn : Func} {t p u : Tmp} {ty : TypeId} {P : Program} (h : fn.results = #[.tmp t, .cell p ty, .tmp u]) (tmps : Array Value) (w : World) (g : Nat) (cs : Array Value)
    (hp : tmps.getD p undef = .pointer (some ⟨g, 0, none⟩)) (hr : (loadVar ty ⟨g, 0, none⟩).run P w = .ok (.agg cs) w) :
    (results fn tmps).run P w = .ok (.tuple #[tmps.getD t undef, .agg cs, tmps.getD u undef]) w := by
  have hp' : tmps[p]?.getD undef = .pointer (some ⟨g, 0, none⟩) := by simpa using hp
  simp only [results, h]
  simp [hp', asAddr, hr, Result.andThen]
end Go.Proofs.YtmhjdahmmdfbcaaGreatDoor
namespace Go.Proofs.YtmhjdahmmdfbcaaGreatDoor
open Go.RowKit

structure CutR where
  front : ByteArray
  time : Int
  rev : ByteArray
  ok : Bool
  deriving DecidableEq
def noCut : CutR := ⟨⟨#[]⟩, 0, ⟨#[]⟩, false⟩
def cutAt (pre : ByteArray) (k : Nat) : CutR :=
  if revB (pre.extract (k + 1) pre.size) then ⟨pre.extract 0 (k - 14), (uns (pre.extract (k - 14) k)).1, pre.extract (k + 1) pre.size, (uns (pre.extract (k - 14) k)).2 == 0⟩ else noCut
def cutPre (pre : ByteArray) : CutR := if Lib.lastIndexByte pre 45 < 14 then noCut else cutAt pre (Lib.lastIndexByte pre 45).toNat
def cutV (c : CutR) : Value := .tuple #[.string c.front, .agg #[.string ⟨#[]⟩, .int .i64 c.time, .string c.rev], .bool c.ok]

theorem size29 : (Tryz.prog.info? 29).map (·.size) = some 3 := by kernel_rfl
theorem ones29 (a c : ByteArray) (n : Int) : (#[.string a, .int .i64 n, .string c] : Array Value).all (·.oneCell') = true := by simp [Value.oneCell']

theorem box3_set {V : World} {B : Nat} {a b c x y z : Value} (h : V.heap[B]? = some (.cells #[a, b, c] 29 (0, 0))) :
    (((V.setCell ⟨B, 0, none⟩ x).setCell ⟨B, 1, none⟩ y).setCell ⟨B, 2, none⟩ z).drew.heap[B]? = some (.cells #[x, y, z] 29 (0, 0)) := by
  have h1 : (V.setCell ⟨B, 0, none⟩ x).heap[B]? = some (.cells #[x, b, c] 29 (0, 0)) := by
    rw [setCell_eq_setRow V _ 0 #[a, b, c] 29 (0, 0) x h]
    exact setRow_heap V _ _ _ 29 (0, 0) h
  have h2 : ((V.setCell ⟨B, 0, none⟩ x).setCell ⟨B, 1, none⟩ y).heap[B]? = some (.cells #[x, y, c] 29 (0, 0)) := by
    rw [setCell_eq_setRow _ _ 1 #[x, b, c] 29 (0, 0) y h1]
    exact setRow_heap _ _ _ _ 29 (0, 0) h1
  show (((V.setCell ⟨B, 0, none⟩ x).setCell ⟨B, 1, none⟩ y).setCell ⟨B, 2, none⟩ z).heap[B]? = _
  rw [setCell_eq_setRow _ _ 2 #[x, y, c] 29 (0, 0) z h2]
  exact setRow_heap _ _ _ _ 29 (0, 0) h2
set_option maxHeartbeats 2000000 in
set_option maxRecDepth 100000 in
theorem pcut_any (pre : ByteArray) (w : World) (hG : GT w) (hs : pre.size ≤ 200) :
    Calls Tryz.prog 33 #[.string pre] w fun e w' => e = .returned (cutV (cutPre pre)) ∧ Below w.heap.size w w' := by
  have HLI := hidM (fun V => Tryz.strings_LastIndex_one pre ⟨#[45]⟩ rfl (by omega) V)
  have HSP := hidM (Lib.lastIndexByte_spec pre 45)
  have HX := hidM (heap_alloc_new w (.cells #[.string ⟨#[]⟩, .int .i64 0, .string ⟨#[]⟩] 29))
  have HB0 : Hid (Below w.heap.size w (w.alloc (.cells #[.string ⟨#[]⟩, .int .i64 0, .string ⟨#[]⟩] 29))) := (Below.refl _ w).alloc (Nat.le_refl _) _
  have HG0 := hidM (hG.below HB0.out)
  clear hG
  have HC : Hid (cutPre pre = if Lib.lastIndexByte pre 45 < 14 then noCut else cutAt pre (Lib.lastIndexByte pre 45).toNat) := rfl
  go_enter Tryz.func33, Tryz.ntmps33
  go_wp2_with fail
  refine (HLI.out _).mono ?_
  rintro _ w1 ⟨rfl, hw1⟩
  rw [hw1]
  clear hw1 HLI
  have h45 : (((⟨#[45]⟩ : ByteArray)[0]'(by decide)).toNat : Int) = 45 := rfl
  rw [h45]
  clear h45
  generalize Lib.lastIndexByte pre 45 = A at *
  generalize w.alloc (.cells #[.string ⟨#[]⟩, .int .i64 0, .string ⟨#[]⟩] 29) = W at *
  by_cases hA : A < 14
  · obtain ⟨f, hf⟩ : ∃ f, f = A - 14 := ⟨_, rfl⟩
    have hA1 : -1 ≤ A := by rcases HSP.out with ⟨h, _⟩ | ⟨i, _, h, _⟩ <;> omega
    have HF := hidM hf
    have e1 : A - 14 = f := hf.symm
    have g1 : f < 0 := by omega
    have HR : Hid (cutPre pre = noCut) := by unfold Hid; rw [HC.out, if_pos hA]
    clear HC HSP hf
    go_wp2_with (refine wpList_store_row rfl 29 (.tmp 3) (.tmp 23) rfl w.heap.size #[.string ⟨#[]⟩, .int .i64 0, .string ⟨#[]⟩] rfl rfl 29 #[.string ⟨#[]⟩, .int .i64 0, .string ⟨#[]⟩] HX.out size29 rfl (ones29 _ _ _) ?_)
    exact bodyPost_ret (results_tct rfl _ _ w.heap.size _ rfl (run_loadVar_row _ w.heap.size 29 29 _ (0, 0) _ (setRow_heap _ _ _ _ 29 _ HX.out) Tryz.underlying29 rfl size29)) rfl ⟨by rw [HR.out]; rfl, below_setRow HB0.out (Nat.le_refl _)⟩
  · obtain ⟨k, hk, rfl⟩ : ∃ k : Nat, k < pre.size ∧ A = (k : Int) := by
      rcases HSP.out with ⟨h, _⟩ | ⟨i, hi, h, _⟩
      · omega
      · exact ⟨i, hi, h⟩
    have HR : Hid (cutPre pre = cutAt pre k) := by unfold Hid; rw [HC.out, if_neg hA]; rfl
    unfold cutAt at HR
    clear HC HSP
    obtain ⟨f, rfl⟩ : ∃ f, k = f + 14 := ⟨k - 14, by omega⟩
    rw [Nat.add_sub_cancel] at HR
    have e1 : ((f + 14 : Nat) : Int) - 14 = (f : Int) := by omega
    have g1 : ¬ (f : Int) < 0 := by omega
    have e2 : ((f + 14 : Nat) : Int) + 1 = ((f + 15 : Nat) : Int) := by omega
    have g2 : f + 15 ≤ pre.size := by omega
    have g3 : f ≤ f + 14 := by omega
    have g4 : f ≤ pre.size := by omega
    have HRV := hidM (fun V => rev_any (pre.extract (f + 15) pre.size) V)
    have HUN := hidM (fun V => unstamp_any (pre.extract f (f + 14)) V)
    go_wp2_with fail
    refine (HRV.out _).mono ?_
    rintro _ w2 ⟨rfl, hb2⟩
    have HX2 := hidM (box_kept HX.out hb2)
    have HB2 := hidM (HB0.out.trans (hb2.mono HB0.out.size))
    have HG2 := hidM (HG0.out.below hb2)
    clear hb2 HX HB0 HG0 HRV
    rw [show f + 14 + 1 = f + 15 from rfl] at HR
    cases hrv : revB (pre.extract (f + 15) pre.size) with
    | false =>
      rw [hrv] at HR
      go_wp2_with (refine wpList_store_row rfl 29 (.tmp 3) (.tmp 23) rfl w.heap.size #[.string ⟨#[]⟩, .int .i64 0, .string ⟨#[]⟩] rfl rfl 29 #[.string ⟨#[]⟩, .int .i64 0, .string ⟨#[]⟩] HX2.out size29 rfl (ones29 _ _ _) ?_)
      exact bodyPost_ret (results_tct rfl _ _ w.heap.size _ rfl (run_loadVar_row _ w.heap.size 29 29 _ (0, 0) _ (setRow_heap _ _ _ _ 29 _ HX2.out) Tryz.underlying29 rfl size29)) rfl ⟨by rw [HR.out]; rfl, below_setRow HB2.out (Nat.le_refl _)⟩
    | true =>
      rw [hrv] at HR
      rw [if_pos rfl] at HR
      go_wp2_with fail
      refine (HUN.out _ HG2.out).mono ?_
      rintro _ w3 ⟨rfl, hb3⟩
      have HX3 := hidM (box_kept HX2.out hb3)
      have HB3 := hidM (HB2.out.trans (hb3.mono HB2.out.size))
      clear hb3 HX2 HB2 HG2 HUN
      generalize (uns (pre.extract f (f + 14))).1 = n at *
      generalize (uns (pre.extract f (f + 14))).2 = er at *
      go_wp2_with fail
      have c0 : w3.cell? ⟨w.heap.size, 0, none⟩ = some (.string ⟨#[]⟩) := by rw [cell_of_row _ _ _ _ 29 (0, 0) HX3.out]; rfl
      have c1 : w3.cell? ⟨w.heap.size, 1, none⟩ = some (.int .i64 0) := by rw [cell_of_row _ _ _ _ 29 (0, 0) HX3.out]; rfl
      have c2 : w3.cell? ⟨w.heap.size, 2, none⟩ = some (.string ⟨#[]⟩) := by rw [cell_of_row _ _ _ _ 29 (0, 0) HX3.out]; rfl
      have f0 : w3.frozen? ⟨w.heap.size, 0, none⟩ = false := by simp [World.frozen?, HX3.out]
      have f1 : w3.frozen? ⟨w.heap.size, 1, none⟩ = false := by simp [World.frozen?, HX3.out]
      have f2 : w3.frozen? ⟨w.heap.size, 2, none⟩ = false := by simp [World.frozen?, HX3.out]
      have g5 : ((f : Int) + 14 + 1) = ((f + 15 : Nat) : Int) := by omega
      have HX4 := hidM (box3_set (x := .string ⟨#[]⟩) (y := .int .i64 n) (z := .string (pre.extract (f + 15) pre.size)) HX3.out)
      have HB4 : Hid (Below w.heap.size w (((w3.setCell ⟨w.heap.size, 0, none⟩ (.string ⟨#[]⟩)).setCell ⟨w.heap.size, 1, none⟩ (.int .i64 n)).setCell ⟨w.heap.size, 2, none⟩ (.string (pre.extract (f + 15) pre.size))).drew) :=
        (((HB3.out.setCell (Nat.le_refl _) _).setCell (Nat.le_refl _) _).setCell (Nat.le_refl _) _).drew
      go_region
      generalize (((w3.setCell ⟨w.heap.size, 0, none⟩ (.string ⟨#[]⟩)).setCell ⟨w.heap.size, 1, none⟩ (.int .i64 n)).setCell ⟨w.heap.size, 2, none⟩ (.string (pre.extract (f + 15) pre.size))).drew = w4 at *
      go_wp2
      exact bodyPost_ret (results_tct rfl _ _ w.heap.size _ rfl (run_loadVar_row _ w.heap.size 29 29 _ (0, 0) _ HX4.out Tryz.underlying29 rfl size29)) rfl ⟨by rw [HR.out]; rfl, HB4.out⟩
end Go.Proofs.YtmhjdahmmdfbcaaGreatDoor
namespace Go.Proofs.YtmhjdahmmdfbcaaGreatDoor
open Go.RowKit

def lessV (v : Ver) : Ver := ⟨v.major, v.minor, ⟨(lessL v.patch.data.toList).toArray⟩, ⟨#[]⟩, v.build, v.short⟩
def preV (v : Ver) (p : ByteArray) : Ver := ⟨v.major, v.minor, v.patch, p, v.build, v.short⟩
def baseR (v : Ver) (front : ByteArray) : ByteArray × Bool :=
  if front.toList.isEmpty then (⟨#[]⟩, (v.minor.toList == [48]) && (v.patch.toList == [48]) && v.build.toList.isEmpty)
  else if front.toList == [48, 46] then (if v.patch.toList == [48] then (⟨#[]⟩, false) else (wriV (lessV v), true))
  else if Lib.hasSuffix front.data.toList [46, 48, 46] then (wriV (preV v ⟨(Lib.trimSuffix front.data.toList [46, 48, 46]).toArray⟩), true) else (⟨#[]⟩, false)

theorem trim_len (l : List UInt8) : (trim0 l).length ≤ l.length := by
  unfold trim0
  split
  · split <;> simp
  · exact Nat.le_refl _
theorem less_len (l : List UInt8) : (lessL l).length ≤ l.length + 1 := by
  unfold lessL
  refine Nat.le_trans (trim_len _) ?_
  unfold lessAt
  simp
  omega
theorem box6_one {V : World} {B : Nat} {a b c d e n y : Value} (h : V.heap[B]? = some (.cells #[a, b, c, d, e, n] 43 (0, 0))) :
    (V.setCell ⟨B, 3, none⟩ y).heap[B]? = some (.cells #[a, b, c, y, e, n] 43 (0, 0)) := by
  rw [setCell_eq_setRow V _ 3 #[a, b, c, d, e, n] 43 (0, 0) y h]
  exact setRow_heap V _ _ _ 43 (0, 0) h
theorem box6_two {V : World} {B : Nat} {a b c d e n x y : Value} (h : V.heap[B]? = some (.cells #[a, b, c, d, e, n] 43 (0, 0))) :
    ((V.setCell ⟨B, 2, none⟩ x).setCell ⟨B, 3, none⟩ y).heap[B]? = some (.cells #[a, b, x, y, e, n] 43 (0, 0)) := by
  refine box6_one (d := d) ?_
  rw [setCell_eq_setRow V _ 2 #[a, b, c, d, e, n] 43 (0, 0) x h]
  exact setRow_heap V _ _ _ 43 (0, 0) h
set_option maxHeartbeats 2000000 in
set_option maxRecDepth 100000 in
theorem baseOf_any (v : Ver) (front : ByteArray) (w : World) (z1 : v.major.size ≤ 200) (z2 : v.minor.size ≤ 200) (z3 : v.patch.size ≤ 200) (z5 : v.build.size ≤ 200) (z6 : front.size ≤ 200)
    (hp0 : 0 < v.patch.size) (hpd : ∀ c ∈ v.patch.data.toList, 1 ≤ c.toNat) :
    Calls Tryz.prog 34 #[verA v, .string front] w fun e w' => e = .returned (.tuple #[.string (baseR v front).1, .bool (baseR v front).2]) ∧ Below w.heap.size w w' := by
  have HB0 : Hid (Below w.heap.size w (w.alloc (.cells #[.string v.major, .string v.minor, .string v.patch, .string v.pre, .string v.build, .int .i64 (v.short : Int)] 43))) := (Below.refl _ w).alloc (Nat.le_refl _) _
  have HX0 := hidM (heap_alloc_new w (.cells #[.string v.major, .string v.minor, .string v.patch, .string v.pre, .string v.build, .int .i64 (v.short : Int)] 43))
  cases hF : front.toList.isEmpty with
  | true =>
    have HR : Hid (baseR v front = (⟨#[]⟩, (v.minor.toList == [48]) && (v.patch.toList == [48]) && v.build.toList.isEmpty)) := by unfold Hid baseR; rw [hF, if_pos rfl]
    unfold verA
    have HF := hidM hF
    generalize baseR v front = R at *
    generalize hm : (v.minor.toList == [48]) = bm at *
    generalize hp : (v.patch.toList == [48]) = bp at *
    generalize hbu : v.build.toList.isEmpty = bb at *
    generalize v.major = a at *
    generalize v.minor = b at *
    generalize v.patch = c at *
    generalize v.pre = d at *
    generalize v.build = e at *
    generalize (v.short : Int) = n at *
    go_enter Tryz.func34, Tryz.ntmps34
    go_wp2_with fail
    have HX1 := HX0
    generalize w.alloc (.cells #[.string a, .string b, .string c, .string d, .string e, .int .i64 n] 43) = W at *
    have c1 : W.cell? ⟨w.heap.size, 1, none⟩ = some (.string b) := by rw [cell_of_row _ _ _ _ 43 (0, 0) HX1.out]; rfl
    have c2 : W.cell? ⟨w.heap.size, 2, none⟩ = some (.string c) := by rw [cell_of_row _ _ _ _ 43 (0, 0) HX1.out]; rfl
    have c4 : W.cell? ⟨w.heap.size, 4, none⟩ = some (.string e) := by rw [cell_of_row _ _ _ _ 43 (0, 0) HX1.out]; rfl
    cases bm <;> cases bp <;> cases bb
    all_goals as_aux_lemma =>
      go_quiet (fail)
      go_wp2
      refine bodyPost_ret (results_tmp2 rfl _ _ _) rfl ?_
      exact ⟨by rw [HR.out]; rfl, below_drewN HB0.out _⟩
  | false =>
    cases h0 : front.toList == [48, 46] with
    | true =>
      cases hp : v.patch.toList == [48] with
      | true =>
        as_aux_lemma =>
        have HR : Hid (baseR v front = (⟨#[]⟩, false)) := by unfold Hid baseR; rw [hF, h0, hp]; rfl
        unfold verA
        generalize baseR v front = R at *
        generalize v.major = a at *
        generalize v.minor = b at *
        generalize v.patch = c at *
        generalize v.pre = d at *
        generalize v.build = e at *
        generalize (v.short : Int) = n at *
        go_enter Tryz.func34, Tryz.ntmps34
        go_wp2
        refine bodyPost_ret (results_tmp2 rfl _ _ _) rfl ?_
        exact ⟨by rw [HR.out]; rfl, HB0.out⟩
      | false =>
        as_aux_lemma =>
        have HR : Hid (baseR v front = (wriV (lessV v), true)) := by unfold Hid baseR; rw [hF, h0, hp]; rfl
        have HL := hidM (fun V => oneLess_any v.patch V (by omega) hp0 hpd)
        have HW : Hid (∀ V, Calls Tryz.prog 28 #[.agg #[.string v.major, .string v.minor, .string ⟨(lessL v.patch.data.toList).toArray⟩, .string ⟨#[]⟩, .string v.build, .int .i64 (v.short : Int)]] V fun e w' => e = .returned (.string (wriV (lessV v))) ∧ Below V.heap.size V w') :=
          fun V => written_any (lessV v) V (by show v.major.size ≤ _; omega) (by show v.minor.size ≤ _; omega) (by
            show (lessL v.patch.data.toList).toArray.size ≤ _
            have := less_len v.patch.data.toList
            have := len_size v.patch
            rw [List.size_toArray]; omega) (Nat.zero_le _) (by show v.build.size ≤ _; omega)
        unfold verA
        clear hpd
        generalize baseR v front = R at *
        generalize wriV (lessV v) = T at *
        generalize (⟨(lessL v.patch.data.toList).toArray⟩ : ByteArray) = u at *
        generalize v.major = a at *
        generalize v.minor = b at *
        generalize v.patch = c at *
        generalize v.pre = d at *
        generalize v.build = e at *
        generalize (v.short : Int) = n at *
        go_enter Tryz.func34, Tryz.ntmps34
        go_wp2_with fail
        refine (HL.out _).mono ?_
        rintro _ w2 ⟨rfl, hb2⟩
        have HX2 := hidM (box_kept HX0.out hb2)
        have HB2 := hidM (HB0.out.trans (hb2.mono HB0.out.size))
        have c2 : w2.cell? ⟨w.heap.size, 2, none⟩ = some (.string c) := by rw [cell_of_row _ _ _ _ 43 (0, 0) HX2.out]; rfl
        have c3 : w2.cell? ⟨w.heap.size, 3, none⟩ = some (.string d) := by rw [cell_of_row _ _ _ _ 43 (0, 0) HX2.out]; rfl
        have f2 : w2.frozen? ⟨w.heap.size, 2, none⟩ = false := by simp [World.frozen?, HX2.out]
        have f3 : w2.frozen? ⟨w.heap.size, 3, none⟩ = false := by simp [World.frozen?, HX2.out]
        have HX3 := hidM (box6_two (x := .string u) (y := .string ⟨#[]⟩) HX2.out)
        have HB3 : Hid (Below w.heap.size w ((w2.setCell ⟨w.heap.size, 2, none⟩ (.string u)).setCell ⟨w.heap.size, 3, none⟩ (.string ⟨#[]⟩))) := (HB2.out.setCell (Nat.le_refl _) _).setCell (Nat.le_refl _) _
        clear hb2 HX0 HB0 HL HB2
        go_wp2_with (refine wpList_load_row rfl 43 (.tmp 2) rfl w.heap.size rfl 43 #[.string a, .string b, .string u, .string ⟨#[]⟩, .string e, .int .i64 n] (0, 0) _ HX3.out Tryz.underlying43 rfl size23 ?_)
        refine (HW.out _).mono ?_
        rintro _ w4 ⟨rfl, hb4⟩
        have HB4 := hidM (HB3.out.trans (hb4.mono HB3.out.size))
        go_wp2
        refine bodyPost_ret (results_tmp2 rfl _ _ _) rfl ?_
        exact ⟨by rw [HR.out]; rfl, HB4.out⟩
    | false =>
      have HCS := hidM (fun V => Tryz.strings_CutSuffix front ⟨#[46, 48, 46]⟩ V (by omega))
      cases hs : Lib.hasSuffix front.data.toList [46, 48, 46] with
      | true =>
        as_aux_lemma =>
        have HR : Hid (baseR v front = (wriV (preV v ⟨(Lib.trimSuffix front.data.toList [46, 48, 46]).toArray⟩), true)) := by unfold Hid baseR; rw [hF, h0, hs]; rfl
        have HW : Hid (∀ V, Calls Tryz.prog 28 #[.agg #[.string v.major, .string v.minor, .string v.patch, .string ⟨(Lib.trimSuffix front.data.toList [46, 48, 46]).toArray⟩, .string v.build, .int .i64 (v.short : Int)]] V fun e w' => e = .returned (.string (wriV (preV v ⟨(Lib.trimSuffix front.data.toList [46, 48, 46]).toArray⟩))) ∧ Below V.heap.size V w') :=
          fun V => written_any (preV v _) V (by show v.major.size ≤ _; omega) (by show v.minor.size ≤ _; omega) (by show v.patch.size ≤ _; omega) (by
            show (Lib.trimSuffix front.data.toList [46, 48, 46]).toArray.size ≤ _
            have h1 : (Lib.trimSuffix front.data.toList [46, 48, 46]).length ≤ front.data.toList.length := by
              unfold Lib.trimSuffix
              rw [hs, if_pos rfl, List.length_take]
              omega
            have := len_size front
            rw [List.size_toArray]; omega) (by show v.build.size ≤ _; omega)
        unfold verA
        clear hpd
        have hs' : Lib.hasSuffix front.data.toList (⟨#[46, 48, 46]⟩ : ByteArray).data.toList = true := hs
        have hu : (⟨(Lib.trimSuffix front.data.toList (⟨#[46, 48, 46]⟩ : ByteArray).data.toList).toArray⟩ : ByteArray) = ⟨(Lib.trimSuffix front.data.toList [46, 48, 46]).toArray⟩ := rfl
        rw [hs', hu] at HCS
        clear hu hs' hs
        generalize baseR v front = R at *
        generalize wriV (preV v ⟨(Lib.trimSuffix front.data.toList [46, 48, 46]).toArray⟩) = T at *
        generalize (⟨(Lib.trimSuffix front.data.toList [46, 48, 46]).toArray⟩ : ByteArray) = u at *
        generalize v.major = a at *
        generalize v.minor = b at *
        generalize v.patch = c at *
        generalize v.pre = d at *
        generalize v.build = e at *
        generalize (v.short : Int) = n at *
        go_enter Tryz.func34, Tryz.ntmps34
        go_wp2_with fail
        refine (HCS.out _).mono ?_
        rintro _ w1 ⟨rfl, hw1⟩
        rw [hw1]
        clear hw1 HCS
        generalize w.alloc (.cells #[.string a, .string b, .string c, .string d, .string e, .int .i64 n] 43) = w2 at *
        have c3 : w2.cell? ⟨w.heap.size, 3, none⟩ = some (.string d) := by rw [cell_of_row _ _ _ _ 43 (0, 0) HX0.out]; rfl
        have f3 : w2.frozen? ⟨w.heap.size, 3, none⟩ = false := by simp [World.frozen?, HX0.out]
        have HX3 := hidM (box6_one (y := .string u) HX0.out)
        have HB3 : Hid (Below w.heap.size w (w2.setCell ⟨w.heap.size, 3, none⟩ (.string u))) := HB0.out.setCell (Nat.le_refl _) _
        clear HX0 HB0
        go_wp2_with (refine wpList_load_row rfl 43 (.tmp 2) rfl w.heap.size rfl 43 #[.string a, .string b, .string c, .string u, .string e, .int .i64 n] (0, 0) _ HX3.out Tryz.underlying43 rfl size23 ?_)
        refine (HW.out _).mono ?_
        rintro _ w4 ⟨rfl, hb4⟩
        have HB4 := hidM (HB3.out.trans (hb4.mono HB3.out.size))
        go_wp2
        refine bodyPost_ret (results_tmp2 rfl _ _ _) rfl ?_
        exact ⟨by rw [HR.out]; rfl, HB4.out⟩
      | false =>
        as_aux_lemma =>
        have HR : Hid (baseR v front = (⟨#[]⟩, false)) := by unfold Hid baseR; rw [hF, h0, hs]; rfl
        unfold verA
        generalize baseR v front = R at *
        generalize v.major = a at *
        generalize v.minor = b at *
        generalize v.patch = c at *
        generalize v.pre = d at *
        generalize v.build = e at *
        generalize (v.short : Int) = n at *
        go_enter Tryz.func34, Tryz.ntmps34
        go_wp2_with fail
        refine (HCS.out _).mono ?_
        rintro _ w1 ⟨rfl, hw1⟩
        rw [hw1]
        clear hw1
        have hs' : Lib.hasSuffix front.data.toList (⟨#[46, 48, 46]⟩ : ByteArray).data.toList = false := hs
        rw [hs']
        clear hs' HCS
        generalize (⟨(Lib.trimSuffix front.data.toList (⟨#[46, 48, 46]⟩ : ByteArray).data.toList).toArray⟩ : ByteArray) = u at *
        go_wp2
        refine bodyPost_ret (results_tmp2 rfl _ _ _) rfl ?_
        exact ⟨by rw [HR.out]; rfl, HB0.out⟩
end Go.Proofs.YtmhjdahmmdfbcaaGreatDoor
namespace Go.Proofs.YtmhjdahmmdfbcaaGreatDoor
open Go.RowKit

theorem build_small {s : ByteArray} {v : Ver} (h : parseR s = some v) : v.build.size ≤ 200 := by
  unfold parseR at h
  split at h
  · rename_i hc
    simp only [Bool.and_eq_true, decide_eq_true_eq] at hc
    have e := Option.some.inj h
    subst e
    show (strOf (cutR 43 (vCut s.data.toList).1).2.1).size ≤ 200
    rw [strOf_size]
    have h2 := (cutR_len 43 (vCut s.data.toList).1).2
    have h3 : (vCut s.data.toList).1.length ≤ s.data.toList.length := by
      cases s.data.toList with
      | nil => exact Nat.le_refl _
      | cons c l => simp only [vCut]; split <;> simp
    rw [size_len] at h3
    omega
  · cases h
theorem num_digs {l : List UInt8} (h : numL l = true) : (∀ c ∈ l, 48 ≤ c.toNat ∧ c.toNat ≤ 57) ∧ 0 < l.length := by
  unfold numL at h
  rw [Bool.and_eq_true] at h
  have h1 := h.1
  unfold digL at h1
  rw [Bool.and_eq_true, List.all_eq_true] at h1
  refine ⟨fun c hc => ?_, ?_⟩
  · have := h1.1 c hc
    unfold digC at this
    simpa using this
  · have := h1.2
    cases l with
    | nil => simp at this
    | cons c r => simp
structure Told where
  base : ByteArray
  time : Int
  rev : ByteArray
  err : Int
  deriving DecidableEq
def noTold (e : Int) : Told := ⟨⟨#[]⟩, 0, ⟨#[]⟩, e⟩
def toldV (v : Ver) : Told :=
  if 0 < v.short then noTold 4 else
  if (cutPre v.pre).ok then (if (baseR v (cutPre v.pre).front).2 then ⟨(baseR v (cutPre v.pre).front).1, (cutPre v.pre).time, (cutPre v.pre).rev, 0⟩ else noTold 3) else noTold 3
def told (s : ByteArray) : Told := match parseR s with | none => noTold 4 | some v => toldV v
def toldR (t : Told) : Value := .tuple #[.agg #[.string t.base, .int .i64 t.time, .string t.rev], .int .i64 t.err]

set_option maxHeartbeats 4000000 in
set_option maxRecDepth 100000 in
theorem pparse_any (s : ByteArray) (w : World) (hG : GT w) (hs : s.size ≤ 9223372036854775807) :
    Calls Tryz.prog 11 #[.string s] w fun x w' => x = .returned (toldR (told s)) ∧ Below w.heap.size w w' := by
  have HP := hidM (fun V => parse_any s V hs)
  have HX0 := hidM (heap_alloc_new w (.cells #[.string ⟨#[]⟩, .int .i64 0, .string ⟨#[]⟩] 29))
  have HB0 : Hid (Below w.heap.size w (w.alloc (.cells #[.string ⟨#[]⟩, .int .i64 0, .string ⟨#[]⟩] 29))) := (Below.refl _ w).alloc (Nat.le_refl _) _
  have HG0 := hidM (hG.below HB0.out)
  clear hG
  cases hv : parseR s with
  | none =>
    as_aux_lemma =>
    have HR : Hid (told s = noTold 4) := by unfold Hid told; rw [hv]
    rw [hv] at HP
    clear hv
    unfold noVer at HP
    simp only [Option.getD_none, Option.isSome_none] at HP
    have HP' : Hid (∀ V, Calls Tryz.prog 18 #[.string s] V fun x w' => x = .returned (.tuple #[.agg #[.string ⟨#[]⟩, .string ⟨#[]⟩, .string ⟨#[]⟩, .string ⟨#[]⟩, .string ⟨#[]⟩, .int .i64 0], .bool false]) ∧ Below V.heap.size V w') := HP.out
    clear HP
    have HP := HP'
    clear HP'
    generalize told s = R at *
    go_enter Tryz.func11, Tryz.ntmps11
    go_wp2_with fail
    refine (HP.out _).mono ?_
    rintro _ w1 ⟨rfl, hb1⟩
    have HX1 := hidM (box_kept HX0.out hb1)
    have HB1 := hidM (HB0.out.trans (hb1.mono HB0.out.size))
    have HG1 := hidM (HG0.out.below hb1)
    clear hb1 HX0 HB0 HG0 HP
    have HA := hidM (heap_alloc_new w1 (.cells #[.string ⟨#[]⟩, .string ⟨#[]⟩, .string ⟨#[]⟩, .string ⟨#[]⟩, .string ⟨#[]⟩, .int .i64 0] 43))
    have HAB : Hid (Below w1.heap.size w1 ((w1.alloc (.cells #[.string ⟨#[]⟩, .string ⟨#[]⟩, .string ⟨#[]⟩, .string ⟨#[]⟩, .string ⟨#[]⟩, .int .i64 0] 43)).setRow w1.heap.size #[.string ⟨#[]⟩, .string ⟨#[]⟩, .string ⟨#[]⟩, .string ⟨#[]⟩, .string ⟨#[]⟩, .int .i64 0])) := below_setRow ((Below.refl _ _).alloc (Nat.le_refl _) _) (Nat.le_refl _)
    have HX2 := hidM (box_kept HX1.out HAB.out)
    have HB2 := hidM (HB1.out.trans (HAB.out.mono HB1.out.size))
    have HG2 := hidM (HG1.out.below HAB.out)
    have HV2 : Hid (((w1.alloc (.cells #[.string ⟨#[]⟩, .string ⟨#[]⟩, .string ⟨#[]⟩, .string ⟨#[]⟩, .string ⟨#[]⟩, .int .i64 0] 43)).setRow w1.heap.size #[.string ⟨#[]⟩, .string ⟨#[]⟩, .string ⟨#[]⟩, .string ⟨#[]⟩, .string ⟨#[]⟩, .int .i64 0]).heap[w1.heap.size]? = some (.cells #[.string ⟨#[]⟩, .string ⟨#[]⟩, .string ⟨#[]⟩, .string ⟨#[]⟩, .string ⟨#[]⟩, .int .i64 0] 43 (0, 0))) := setRow_heap _ _ _ _ 43 _ HA.out
    go_wp2_with (first | (refine wpList_store_row rfl 43 (.tmp 4) (.tmp 11) rfl w1.heap.size #[.string ⟨#[]⟩, .string ⟨#[]⟩, .string ⟨#[]⟩, .string ⟨#[]⟩, .string ⟨#[]⟩, .int .i64 0] rfl rfl 43 #[.string ⟨#[]⟩, .string ⟨#[]⟩, .string ⟨#[]⟩, .string ⟨#[]⟩, .string ⟨#[]⟩, .int .i64 0] HA.out size23 rfl ones23 ?_) | (refine wpList_store_row rfl 29 (.tmp 2) (.tmp 20) rfl w.heap.size #[.string ⟨#[]⟩, .int .i64 0, .string ⟨#[]⟩] rfl rfl 29 #[.string ⟨#[]⟩, .int .i64 0, .string ⟨#[]⟩] HX2.out size29 rfl (ones29 _ _ _) ?_))
    exact bodyPost_ret (results_box rfl _ _ w.heap.size #[.string ⟨#[]⟩, .int .i64 0, .string ⟨#[]⟩] rfl (run_loadVar_row _ w.heap.size 29 29 _ (0, 0) _ (setRow_heap _ _ _ _ 29 _ HX2.out) Tryz.underlying29 rfl size29)) rfl ⟨by rw [HR.out]; rfl, below_setRow HB2.out (Nat.le_refl _)⟩
  | some v =>
    obtain ⟨z1, z2, z3, z4⟩ := ver_small hv
    have z5 := build_small hv
    have hnd := num_digs (ver_right hv).patch
    have HR0 : Hid (told s = toldV v) := by unfold Hid told; rw [hv]
    rw [hv] at HP
    clear hv
    simp only [Option.getD_some, Option.isSome_some] at HP
    have HCU := hidM (fun V hG => pcut_any v.pre V hG z4)
    unfold cutV at HCU
    have hfs : (cutPre v.pre).front.size ≤ 200 := by
      unfold cutPre cutAt noCut
      split
      · exact Nat.zero_le _
      · split
        · show (v.pre.extract _ _).size ≤ 200
          rw [ByteArray.size_extract]; omega
        · exact Nat.zero_le _
    have HBA := hidM (fun V => baseOf_any v (cutPre v.pre).front V z1 z2 z3 z5 hfs (by rw [← len_size]; exact hnd.2) (fun c hc => by have := (hnd.1 c hc).1; omega))
    unfold verA at HBA
    unfold toldV at HR0
    clear hnd hfs
    generalize told s = R at *
    by_cases hsh : 0 < v.short
    · as_aux_lemma =>
      have HR : Hid (R = noTold 4) := by unfold Hid; rw [HR0.out, if_pos hsh]
      have g1 : (0 : Int) < (v.short : Int) := by omega
      clear HR0 hsh HCU HBA
      generalize v.major = a at *
      generalize v.minor = b at *
      generalize v.patch = c at *
      generalize v.pre = d at *
      generalize v.build = e at *
      generalize (v.short : Int) = n at *
      go_enter Tryz.func11, Tryz.ntmps11
      go_wp2_with fail
      refine (HP.out _).mono ?_
      rintro _ w1 ⟨rfl, hb1⟩
      have HX1 := hidM (box_kept HX0.out hb1)
      have HB1 := hidM (HB0.out.trans (hb1.mono HB0.out.size))
      have HG1 := hidM (HG0.out.below hb1)
      clear hb1 HX0 HB0 HG0 HP
      have HA := hidM (heap_alloc_new w1 (.cells #[.string ⟨#[]⟩, .string ⟨#[]⟩, .string ⟨#[]⟩, .string ⟨#[]⟩, .string ⟨#[]⟩, .int .i64 0] 43))
      have HAB : Hid (Below w1.heap.size w1 ((w1.alloc (.cells #[.string ⟨#[]⟩, .string ⟨#[]⟩, .string ⟨#[]⟩, .string ⟨#[]⟩, .string ⟨#[]⟩, .int .i64 0] 43)).setRow w1.heap.size #[.string a, .string b, .string c, .string d, .string e, .int .i64 n])) := below_setRow ((Below.refl _ _).alloc (Nat.le_refl _) _) (Nat.le_refl _)
      have HX2 := hidM (box_kept HX1.out HAB.out)
      have HB2 := hidM (HB1.out.trans (HAB.out.mono HB1.out.size))
      have HG2 := hidM (HG1.out.below HAB.out)
      have HV2 : Hid (((w1.alloc (.cells #[.string ⟨#[]⟩, .string ⟨#[]⟩, .string ⟨#[]⟩, .string ⟨#[]⟩, .string ⟨#[]⟩, .int .i64 0] 43)).setRow w1.heap.size #[.string a, .string b, .string c, .string d, .string e, .int .i64 n]).heap[w1.heap.size]? = some (.cells #[.string a, .string b, .string c, .string d, .string e, .int .i64 n] 43 (0, 0))) := setRow_heap _ _ _ _ 43 _ HA.out
      have c5 : ((w1.alloc (.cells #[.string ⟨#[]⟩, .string ⟨#[]⟩, .string ⟨#[]⟩, .string ⟨#[]⟩, .string ⟨#[]⟩, .int .i64 0] 43)).setRow w1.heap.size #[.string a, .string b, .string c, .string d, .string e, .int .i64 n]).cell? ⟨w1.heap.size, 5, none⟩ = some (.int .i64 n) := by rw [cell_of_row _ _ _ _ 43 (0, 0) HV2.out]; rfl
      have c3 : ((w1.alloc (.cells #[.string ⟨#[]⟩, .string ⟨#[]⟩, .string ⟨#[]⟩, .string ⟨#[]⟩, .string ⟨#[]⟩, .int .i64 0] 43)).setRow w1.heap.size #[.string a, .string b, .string c, .string d, .string e, .int .i64 n]).cell? ⟨w1.heap.size, 3, none⟩ = some (.string d) := by rw [cell_of_row _ _ _ _ 43 (0, 0) HV2.out]; rfl
      go_wp2_with (first | (refine wpList_store_row rfl 43 (.tmp 4) (.tmp 11) rfl w1.heap.size #[.string a, .string b, .string c, .string d, .string e, .int .i64 n] rfl rfl 43 #[.string ⟨#[]⟩, .string ⟨#[]⟩, .string ⟨#[]⟩, .string ⟨#[]⟩, .string ⟨#[]⟩, .int .i64 0] HA.out size23 rfl (ones23v _ _ _ _ _ _) ?_) | (refine wpList_store_row rfl 29 (.tmp 2) (.tmp 20) rfl w.heap.size #[.string ⟨#[]⟩, .int .i64 0, .string ⟨#[]⟩] rfl rfl 29 #[.string ⟨#[]⟩, .int .i64 0, .string ⟨#[]⟩] HX2.out size29 rfl (ones29 _ _ _) ?_))
      exact bodyPost_ret (results_box rfl _ _ w.heap.size #[.string ⟨#[]⟩, .int .i64 0, .string ⟨#[]⟩] rfl (run_loadVar_row _ w.heap.size 29 29 _ (0, 0) _ (setRow_heap _ _ _ _ 29 _ HX2.out) Tryz.underlying29 rfl size29)) rfl ⟨by rw [HR.out]; rfl, below_setRow HB2.out (Nat.le_refl _)⟩
    · have g1 : ¬ (0 : Int) < (v.short : Int) := by omega
      rw [if_neg hsh] at HR0
      clear hsh
      generalize cutPre v.pre = C at *
      generalize hBR : baseR v C.front = BR at *
      clear hBR
      generalize v.major = a at *
      generalize v.minor = b at *
      generalize v.patch = c at *
      generalize v.pre = d at *
      generalize v.build = e at *
      generalize (v.short : Int) = n at *
      go_enter Tryz.func11, Tryz.ntmps11
      go_wp2_with fail
      refine (HP.out _).mono ?_
      rintro _ w1 ⟨rfl, hb1⟩
      have HX1 := hidM (box_kept HX0.out hb1)
      have HB1 := hidM (HB0.out.trans (hb1.mono HB0.out.size))
      have HG1 := hidM (HG0.out.below hb1)
      clear hb1 HX0 HB0 HG0 HP
      have HA := hidM (heap_alloc_new w1 (.cells #[.string ⟨#[]⟩, .string ⟨#[]⟩, .string ⟨#[]⟩, .string ⟨#[]⟩, .string ⟨#[]⟩, .int .i64 0] 43))
      have HAB : Hid (Below w1.heap.size w1 ((w1.alloc (.cells #[.string ⟨#[]⟩, .string ⟨#[]⟩, .string ⟨#[]⟩, .string ⟨#[]⟩, .string ⟨#[]⟩, .int .i64 0] 43)).setRow w1.heap.size #[.string a, .string b, .string c, .string d, .string e, .int .i64 n])) := below_setRow ((Below.refl _ _).alloc (Nat.le_refl _) _) (Nat.le_refl _)
      have HX2 := hidM (box_kept HX1.out HAB.out)
      have HB2 := hidM (HB1.out.trans (HAB.out.mono HB1.out.size))
      have HG2 := hidM (HG1.out.below HAB.out)
      have HV2 : Hid (((w1.alloc (.cells #[.string ⟨#[]⟩, .string ⟨#[]⟩, .string ⟨#[]⟩, .string ⟨#[]⟩, .string ⟨#[]⟩, .int .i64 0] 43)).setRow w1.heap.size #[.string a, .string b, .string c, .string d, .string e, .int .i64 n]).heap[w1.heap.size]? = some (.cells #[.string a, .string b, .string c, .string d, .string e, .int .i64 n] 43 (0, 0))) := setRow_heap _ _ _ _ 43 _ HA.out
      have c5 : ((w1.alloc (.cells #[.string ⟨#[]⟩, .string ⟨#[]⟩, .string ⟨#[]⟩, .string ⟨#[]⟩, .string ⟨#[]⟩, .int .i64 0] 43)).setRow w1.heap.size #[.string a, .string b, .string c, .string d, .string e, .int .i64 n]).cell? ⟨w1.heap.size, 5, none⟩ = some (.int .i64 n) := by rw [cell_of_row _ _ _ _ 43 (0, 0) HV2.out]; rfl
      have c3 : ((w1.alloc (.cells #[.string ⟨#[]⟩, .string ⟨#[]⟩, .string ⟨#[]⟩, .string ⟨#[]⟩, .string ⟨#[]⟩, .int .i64 0] 43)).setRow w1.heap.size #[.string a, .string b, .string c, .string d, .string e, .int .i64 n]).cell? ⟨w1.heap.size, 3, none⟩ = some (.string d) := by rw [cell_of_row _ _ _ _ 43 (0, 0) HV2.out]; rfl
      go_wp2_with (refine wpList_store_row rfl 43 (.tmp 4) (.tmp 11) rfl w1.heap.size #[.string a, .string b, .string c, .string d, .string e, .int .i64 n] rfl rfl 43 #[.string ⟨#[]⟩, .string ⟨#[]⟩, .string ⟨#[]⟩, .string ⟨#[]⟩, .string ⟨#[]⟩, .int .i64 0] HA.out size23 rfl (ones23v _ _ _ _ _ _) ?_)
      clear c5 c3
      generalize (w1.alloc (.cells #[.string ⟨#[]⟩, .string ⟨#[]⟩, .string ⟨#[]⟩, .string ⟨#[]⟩, .string ⟨#[]⟩, .int .i64 0] 43)).setRow w1.heap.size #[.string a, .string b, .string c, .string d, .string e, .int .i64 n] = W2 at *
      refine (HCU.out _ HG2.out).mono ?_
      rintro _ w3 ⟨rfl, hb3⟩
      have HL3 := hidM (HAB.out.trans (hb3.mono HAB.out.size))
      have HV3 := hidM (box_kept HV2.out hb3)
      clear hb3 HCU HAB HX2 HB2 HG2 HV2 HG1 HA
      obtain ⟨cf, ct, cr, ok⟩ := C
      simp only at HR0 HBA
      have hz13 := HL3.out.size
      have HA4 := hidM (heap_alloc_new w3 (.cells #[.string ⟨#[]⟩, .int .i64 0, .string ⟨#[]⟩] 29))
      have HAB4 : Hid (Below w3.heap.size w3 ((w3.alloc (.cells #[.string ⟨#[]⟩, .int .i64 0, .string ⟨#[]⟩] 29)).setRow w3.heap.size #[.string ⟨#[]⟩, .int .i64 ct, .string cr])) := below_setRow ((Below.refl _ _).alloc (Nat.le_refl _) _) (Nat.le_refl _)
      have HL4 := hidM (HL3.out.trans (HAB4.out.mono hz13))
      have HX4 := hidM (box_kept HX1.out HL4.out)
      have HV4 := hidM (box_kept HV3.out HAB4.out)
      have HB4 := hidM (HB1.out.trans (HL4.out.mono HB1.out.size))
      have HQ4 : Hid (((w3.alloc (.cells #[.string ⟨#[]⟩, .int .i64 0, .string ⟨#[]⟩] 29)).setRow w3.heap.size #[.string ⟨#[]⟩, .int .i64 ct, .string cr]).heap[w3.heap.size]? = some (.cells #[.string ⟨#[]⟩, .int .i64 ct, .string cr] 29 (0, 0))) := setRow_heap _ _ _ _ 29 _ HA4.out
      cases ok with
      | false =>
        as_aux_lemma =>
        have HR : Hid (R = noTold 3) := HR0.out
        go_wp2_with (first | (refine wpList_store_row rfl 29 (.tmp 7) (.tmp 26) rfl w3.heap.size #[.string ⟨#[]⟩, .int .i64 ct, .string cr] rfl rfl 29 #[.string ⟨#[]⟩, .int .i64 0, .string ⟨#[]⟩] HA4.out size29 rfl (ones29 _ _ _) ?_) | (refine wpList_store_row rfl 29 (.tmp 2) (.tmp 30) rfl w.heap.size #[.string ⟨#[]⟩, .int .i64 0, .string ⟨#[]⟩] rfl rfl 29 #[.string ⟨#[]⟩, .int .i64 0, .string ⟨#[]⟩] HX4.out size29 rfl (ones29 _ _ _) ?_))
        exact bodyPost_ret (results_box rfl _ _ w.heap.size #[.string ⟨#[]⟩, .int .i64 0, .string ⟨#[]⟩] rfl (run_loadVar_row _ w.heap.size 29 29 _ (0, 0) _ (setRow_heap _ _ _ _ 29 _ HX4.out) Tryz.underlying29 rfl size29)) rfl ⟨by rw [HR.out]; rfl, below_setRow HB4.out (Nat.le_refl _)⟩
      | true =>
        rw [if_pos rfl] at HR0
        go_wp2_with (first | (refine wpList_store_row rfl 29 (.tmp 7) (.tmp 26) rfl w3.heap.size #[.string ⟨#[]⟩, .int .i64 ct, .string cr] rfl rfl 29 #[.string ⟨#[]⟩, .int .i64 0, .string ⟨#[]⟩] HA4.out size29 rfl (ones29 _ _ _) ?_) | (refine wpList_load_row rfl 43 (.tmp 4) rfl w1.heap.size rfl 43 #[.string a, .string b, .string c, .string d, .string e, .int .i64 n] (0, 0) _ HV4.out Tryz.underlying43 rfl size23 ?_))
        refine (HBA.out _).mono ?_
        rintro _ w5 ⟨rfl, hb5⟩
        obtain ⟨br, bo⟩ := BR
        simp only at HR0
        have HQ5 := hidM (box_kept HQ4.out hb5)
        have HL5 := hidM (HL4.out.trans (hb5.mono HL4.out.size))
        clear hb5 HQ4 HL4 HX4 HV4 HB4 HAB4 HA4 HBA HV3 HL3
        have c0 : w5.cell? ⟨w3.heap.size, 0, none⟩ = some (.string ⟨#[]⟩) := by rw [cell_of_row _ _ _ _ 29 (0, 0) HQ5.out]; rfl
        have f0 : w5.frozen? ⟨w3.heap.size, 0, none⟩ = false := by simp [World.frozen?, HQ5.out]
        have HL6 : Hid (Below w1.heap.size w1 (w5.setCell ⟨w3.heap.size, 0, none⟩ (.string br))) := HL5.out.setCell hz13 _
        have HX6 := hidM (box_kept HX1.out HL6.out)
        have HB6 := hidM (HB1.out.trans (HL6.out.mono HB1.out.size))
        have HQ6 : Hid ((w5.setCell ⟨w3.heap.size, 0, none⟩ (.string br)).heap[w3.heap.size]? = some (.cells #[.string br, .int .i64 ct, .string cr] 29 (0, 0))) := by
          unfold Hid
          rw [setCell_eq_setRow w5 _ 0 #[.string ⟨#[]⟩, .int .i64 ct, .string cr] 29 (0, 0) _ HQ5.out]
          exact setRow_heap w5 _ _ _ 29 (0, 0) HQ5.out
        cases bo with
        | false =>
          as_aux_lemma =>
          have HR : Hid (R = noTold 3) := HR0.out
          go_wp2_with (refine wpList_store_row rfl 29 (.tmp 2) (.tmp 40) rfl w.heap.size #[.string ⟨#[]⟩, .int .i64 0, .string ⟨#[]⟩] rfl rfl 29 #[.string ⟨#[]⟩, .int .i64 0, .string ⟨#[]⟩] HX6.out size29 rfl (ones29 _ _ _) ?_)
          exact bodyPost_ret (results_box rfl _ _ w.heap.size #[.string ⟨#[]⟩, .int .i64 0, .string ⟨#[]⟩] rfl (run_loadVar_row _ w.heap.size 29 29 _ (0, 0) _ (setRow_heap _ _ _ _ 29 _ HX6.out) Tryz.underlying29 rfl size29)) rfl ⟨by rw [HR.out]; rfl, below_setRow HB6.out (Nat.le_refl _)⟩
        | true =>
          as_aux_lemma =>
          have HR : Hid (R = ⟨br, ct, cr, 0⟩) := HR0.out
          go_wp2_with (first | (refine wpList_load_row rfl 29 (.tmp 7) rfl w3.heap.size rfl 29 #[.string br, .int .i64 ct, .string cr] (0, 0) _ HQ6.out Tryz.underlying29 rfl size29 ?_) | (refine wpList_store_row rfl 29 (.tmp 2) (.tmp 41) rfl w.heap.size #[.string br, .int .i64 ct, .string cr] rfl rfl 29 #[.string ⟨#[]⟩, .int .i64 0, .string ⟨#[]⟩] HX6.out size29 rfl (ones29 _ _ _) ?_))
          exact bodyPost_ret (results_box rfl _ _ w.heap.size #[.string br, .int .i64 ct, .string cr] rfl (run_loadVar_row _ w.heap.size 29 29 _ (0, 0) _ (setRow_heap _ _ _ _ 29 _ HX6.out) Tryz.underlying29 rfl size29)) rfl ⟨by rw [HR.out]; rfl, below_setRow HB6.out (Nat.le_refl _)⟩
end Go.Proofs.YtmhjdahmmdfbcaaGreatDoor

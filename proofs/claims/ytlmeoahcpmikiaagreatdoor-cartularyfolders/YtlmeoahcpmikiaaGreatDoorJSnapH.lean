/-
  Taken over from another program: SnapE.
  Taken over from another program: SnapF.
  Taken over from another program: SnapG.
  Taken over from another program: SnapH.
-/
import Derived.Test.YtlmeoahcpmikiaaGreatDoorJShelfC
namespace Go.Proofs.YtlmeoahcpmikiaaGreatDoor
open Go.RowKit Go.Sort Go.Lib
def encF (f : FileB) : List Value := [.string f.1, .string f.2]
def cmpF (f g : FileB) : Int := Lib.compareBytes f.1.data.toList g.1.data.toList
theorem cmpLaysF (blk off size : Nat) (w : World) : CmpLays Tryz.prog 41 #[] encF 2 cmpF blk off size w := fun m os dk _ x y => by
  show Calls Tryz.prog 41 #[fileV x, fileV y] _ _
  refine (newCmp_any x y _).mono fun e w' ⟨he, hw⟩ => ⟨he, 0, #[.cells #[.string x.1, .string x.2] 31, .cells #[.string y.1, .string y.2] 31], ?_⟩
  rw [hw, alloc_eq_grow, alloc_eq_grow, grow_grow]; rfl
theorem u8_lt (x y : UInt8) : x < y ↔ x.toNat < y.toNat := UInt8.lt_iff_toNat_lt
theorem cmp_cons (x y : UInt8) (a b : List UInt8) : Lib.compareBytes (x :: a) (y :: b) = if x.toNat < y.toNat then -1 else if y.toNat < x.toNat then 1 else Lib.compareBytes a b := by
  rw [Lib.compareBytes]; simp only [u8_lt]
theorem cmp_anti (a : List UInt8) : ∀ b, Lib.compareBytes a b = - Lib.compareBytes b a := by
  induction a with
  | nil => intro b; cases b <;> simp [Lib.compareBytes]
  | cons x a ih =>
    intro b
    cases b with
    | nil => simp [Lib.compareBytes]
    | cons y b =>
      rw [cmp_cons, cmp_cons, ih b]
      by_cases h1 : x.toNat < y.toNat
      · rw [if_pos h1, if_neg (by omega), if_pos h1]
      · by_cases h2 : y.toNat < x.toNat
        · rw [if_neg h1, if_pos h2, if_pos h2]; rfl
        · rw [if_neg h1, if_neg h2, if_neg h2, if_neg h1]
theorem cmp_zero (a : List UInt8) : ∀ b, Lib.compareBytes a b = 0 ↔ a = b := by
  induction a with
  | nil => intro b; cases b <;> simp [Lib.compareBytes]
  | cons x a ih =>
    intro b
    cases b with
    | nil => simp [Lib.compareBytes]
    | cons y b =>
      rw [cmp_cons]
      by_cases h1 : x.toNat < y.toNat
      · rw [if_pos h1]
        constructor
        · intro h; cases h
        · intro h; simp at h; rw [h.1] at h1; omega
      · by_cases h2 : y.toNat < x.toNat
        · rw [if_neg h1, if_pos h2]
          constructor
          · intro h; cases h
          · intro h; simp at h; rw [h.1] at h2; omega
        · rw [if_neg h1, if_neg h2, ih b]
          have : x = y := by rw [← UInt8.toNat_inj]; omega
          simp [this]
theorem cmp_le_trans (a : List UInt8) : ∀ b c, Lib.compareBytes a b ≤ 0 → Lib.compareBytes b c ≤ 0 → Lib.compareBytes a c ≤ 0 := by
  induction a with
  | nil => intro b c _ _; cases c <;> simp [Lib.compareBytes]
  | cons x a ih =>
    intro b c h1 h2
    cases b with
    | nil => simp [Lib.compareBytes] at h1
    | cons y b =>
      cases c with
      | nil => simp [Lib.compareBytes] at h2
      | cons z c =>
        rw [cmp_cons] at h1 h2 ⊢
        by_cases hxy : x.toNat < y.toNat
        · by_cases hyz : z.toNat < y.toNat
          · rw [if_neg (by omega), if_pos hyz] at h2; simp at h2
          · rw [if_pos (by omega)]; decide
        · rw [if_neg hxy] at h1
          by_cases hyx : y.toNat < x.toNat
          · rw [if_pos hyx] at h1; simp at h1
          · rw [if_neg hyx] at h1
            by_cases hyz : y.toNat < z.toNat
            · rw [if_pos (by omega)]; decide
            · rw [if_neg hyz] at h2
              by_cases hzy : z.toNat < y.toNat
              · rw [if_pos hzy] at h2; simp at h2
              · rw [if_neg hzy] at h2
                rw [if_neg (by omega), if_neg (by omega)]
                exact ih b c h1 h2
theorem cmp_lt_of_lt_of_le {a b c : List UInt8} (h1 : Lib.compareBytes a b < 0) (h2 : Lib.compareBytes b c ≤ 0) : Lib.compareBytes a c < 0 := by
  have h := cmp_le_trans a b c (by omega) h2
  refine Classical.byContradiction fun hn => ?_
  have h0 : Lib.compareBytes a c = 0 := by omega
  have hac := (cmp_zero a c).1 h0
  subst hac
  have := cmp_anti a b
  omega
theorem cmp_lt_of_le_of_lt {a b c : List UInt8} (h1 : Lib.compareBytes a b ≤ 0) (h2 : Lib.compareBytes b c < 0) : Lib.compareBytes a c < 0 := by
  have h := cmp_le_trans a b c h1 (by omega)
  refine Classical.byContradiction fun hn => ?_
  have h0 : Lib.compareBytes a c = 0 := by omega
  have hac := (cmp_zero a c).1 h0
  subst hac
  have := cmp_anti b a
  omega
theorem ltOf_cmp (x y : FileB) : ltOf cmpF x y = decide (cmpF x y < 0) := by
  unfold ltOf; rfl
theorem swoF : SWO (ltOf cmpF) where
  irrefl x := by
    rw [ltOf_cmp]
    have := (cmp_zero x.1.data.toList x.1.data.toList).2 rfl
    unfold cmpF; rw [this]; rfl
  trans x y z h1 h2 := by
    rw [ltOf_cmp] at *
    simp only [decide_eq_true_eq] at *
    exact cmp_lt_of_lt_of_le h1 (by have := h2; unfold cmpF at this; omega)
  ntrans x y z h1 h2 := by
    rw [ltOf_cmp] at *
    simp only [decide_eq_false_iff_not] at *
    intro h
    have a1 := cmp_anti x.1.data.toList y.1.data.toList
    have a2 := cmp_anti y.1.data.toList z.1.data.toList
    unfold cmpF at *
    have : Lib.compareBytes y.1.data.toList x.1.data.toList ≤ 0 := by omega
    have h3 := cmp_lt_of_le_of_lt this h
    omega
set_option maxHeartbeats 1600000 in
/-- the files of a row, put in the order of their paths -/
theorem sort_any (blk off cap : Nat) (d : Array FileB) (w : World) (hH : HoldsK encF 2 w blk off d) (hblk : blk < w.heap.size) (hsz : d.size < 4611686018427387904) :
    Calls Tryz.prog 40 #[.slice (some ⟨blk, off, none⟩) d.size cap, .func (.func 41) #[] #[]] w fun e w' => e = .returned (.tuple #[]) ∧ ∃ d' n os, PermIn 0 d.size d d' ∧ SortedIn (ltOf cmpF) 0 d.size d' ∧ w' = sortWorldK encF 2 w blk off n d' os := by
  have eg : ∀ args w, (callFunc 41 args).run Tryz.prog w = .ok (.enter 41 args) w := enters_of Tryz.func41 (by kernel_rfl) rfl
  exact AnyQ.slices_SortFunc Tryz.sortFiles 2 Tryz.isAgg31 Tryz.sizeOf31 encF (fun _ => rfl) (fun x v hv => by simp [encF] at hv; rcases hv with rfl | rfl <;> rfl) cmpF swoF 41 #[] blk off cap d w eg (cmpLaysF blk off d.size w) hH hblk hsz
end Go.Proofs.YtlmeoahcpmikiaaGreatDoor
namespace Go.Proofs.YtlmeoahcpmikiaaGreatDoor
open Go.RowKit
theorem ba_eq {a b : ByteArray} (h : a.data.toList = b.data.toList) : a = b := by
  cases a; cases b; simp at h; rw [h]
/-- do two neighbours have one path? -/
def TwiceTo (fs : List FileB) (k : Nat) : Prop := ∀ t (h : t + 1 < fs.length), t + 1 < k → fs[t].1 ≠ fs[t + 1].1
open Classical in
noncomputable def twiceB (fs : List FileB) : Bool := !decide (TwiceTo fs fs.length)
set_option maxHeartbeats 1600000 in
theorem twice_any (q b off c : Nat) (fs : List FileB) (w : World) (hF : Folder w q b off c fs) (hl : fs.length ≤ 1000000) :
    Calls Tryz.prog 43 #[.pointer (some ⟨q, 0, none⟩)] w fun e w' => e = .returned (.bool (twiceB fs)) ∧ Below w.heap.size w w' := by
  have HFO := hidMO hF
  clear hF
  go_enter Tryz.func43, Tryz.ntmps43
  go_wp2
  go_loopw [3] (fun i wr => ∃ (k : Nat), 1 ≤ k ∧ i = .int .i64 k ∧ (k ≤ fs.length ∨ k = 1) ∧ TwiceTo fs k ∧ Below w.heap.size w wr) (fun i _ => fs.length - (intOf i).toNat)
  case atStart => exact ⟨1, Nat.le_refl _, rfl, .inr rfl, fun t _ h => by omega, Below.refl _ _⟩
  case round =>
    obtain ⟨k, hk1, rfl, hk, hd, hb⟩ := hrel
    have HD := hidMO hd
    have HB := hidMO hb
    have HF := hidMO (HFO.out.below hb)
    have hc := HF.out.cell
    clear hd hb
    by_cases hlt : k < fs.length
    · have kk : (k : Int) < (fs.length : Int) := by omega
      obtain ⟨j, hj⟩ : ∃ j, j = k - 1 := ⟨_, rfl⟩
      have HJ : Hid (k = j + 1) := by unfold Hid; omega
      have r1 : (k : Int) - 1 = (j : Int) := by omega
      have k0 : (0 : Int) ≤ (k : Int) := by omega
      have j0 : (0 : Int) ≤ (j : Int) := by omega
      have hjl : j < fs.length := by omega
      have jl : (j : Int) < (fs.length : Int) := by omega
      have c1 := (HF.out.files j hjl).1
      have c2 := (HF.out.files k hlt).1
      by_cases he : fs[j].1 = fs[k].1
      · have HT : Hid (twiceB fs = true) := by
          unfold Hid twiceB
          simp only [Bool.not_eq_true', decide_eq_false_iff_not]
          intro h
          have hx := HJ.out
          subst hx
          exact h j hlt hlt he
        rw [he] at c1
        generalize fs[k].1 = X at *
        clear he hk hj
        go_wp2
        go_quiet (fail)
        go_wp2
        go_ret
        exact ⟨by rw [HT.out]; rfl, below_drewN HB.out _⟩
      · have e1 : (fs[j].1.toList == fs[k].1.toList) = false := by
          rw [ByteArray.toList_eq, ByteArray.toList_eq]
          exact beq_false_of_ne fun h => he (by rw [ba_eq h])
        have HN : Hid (TwiceTo fs (k + 1)) := by
          have hx := HJ.out
          subst hx
          intro t h ht
          by_cases h5 : t + 1 < j + 1
          · exact HD.out t h h5
          · have : t = j := by omega
            subst this; exact he
        generalize fs[k].1 = X at *
        generalize fs[j].1 = Y at *
        clear he hk hj
        go_wp2
        go_quiet (fail)
        go_wp2
        go_roundw
        case rel => exact ⟨k + 1, by omega, by go_num, .inl (by omega), HN.out, below_drewN HB.out _⟩
        case measure => (show fs.length - ((k : Int) + 1).toNat < fs.length - ((k : Int)).toNat); omega
    · have HT : Hid (twiceB fs = false) := by
        unfold Hid twiceB
        simp only [Bool.not_eq_false', decide_eq_true_eq]
        intro t h _
        exact HD.out t h (by omega)
      have kk : ¬ (k : Int) < (fs.length : Int) := by omega
      clear hk
      go_wp2
      go_ret
      exact ⟨by rw [HT.out]; rfl, HB.out⟩
end Go.Proofs.YtlmeoahcpmikiaaGreatDoor
namespace Go.Proofs.YtlmeoahcpmikiaaGreatDoor
open Go.RowKit Go.Sort Go.Lib
/-- rising by their paths -/
def Rise (fs : List FileB) : Prop := fs.Pairwise fun f g => cmpF f g ≤ 0
/-- rising, none twice -/
def RiseS (fs : List FileB) : Prop := fs.Pairwise fun f g => cmpF f g < 0
theorem RiseS.rise {fs : List FileB} (h : RiseS fs) : Rise fs := List.Pairwise.imp (fun h => by omega) h
theorem Rise.mono {fs : List FileB} (h : Rise fs) (p : ByteArray) : Mono fs p := fun a b hb hab hc => by
  by_cases he : a = b
  · subst he; exact hc
  · have := List.pairwise_iff_getElem.1 h a b (by omega) hb (by omega)
    exact cmp_lt_of_le_of_lt this hc
theorem pre_ge (p : List UInt8) : ∀ f, p.isPrefixOf f = true → 0 ≤ Lib.compareBytes f p := by
  induction p with
  | nil => intro f _; cases f <;> simp [Lib.compareBytes]
  | cons c p ih =>
    intro f h
    cases f with
    | nil => simp at h
    | cons d f =>
      simp only [List.isPrefixOf, Bool.and_eq_true, beq_iff_eq] at h
      rw [cmp_cons, h.1, if_neg (Nat.lt_irrefl _), if_neg (Nat.lt_irrefl _)]
      exact ih f h.2
theorem pre_gap (p : List UInt8) : ∀ f g, 0 ≤ Lib.compareBytes f p → p.isPrefixOf f = false → Lib.compareBytes f g ≤ 0 → p.isPrefixOf g = false := by
  induction p with
  | nil => intro f g _ h; simp at h
  | cons c p ih =>
    intro f g h1 h2 h3
    cases f with
    | nil => simp [Lib.compareBytes] at h1
    | cons d f =>
      cases g with
      | nil => rfl
      | cons e g =>
        rw [cmp_cons] at h1 h3
        simp only [List.isPrefixOf, Bool.and_eq_false_iff, beq_eq_false_iff_ne] at h2 ⊢
        by_cases hdc : d.toNat < c.toNat
        · rw [if_pos hdc] at h1; simp at h1
        · rw [if_neg hdc] at h1
          by_cases hce : c = e
          · subst hce
            by_cases hcd : c.toNat < d.toNat
            · rw [if_neg (by omega), if_pos hcd] at h3; simp at h3
            · have : d = c := by rw [← UInt8.toNat_inj]; omega
              subst this
              rw [if_neg hcd] at h1 h3
              rw [if_neg hcd] at h3
              rcases h2 with h2 | h2
              · exact absurd rfl h2
              · exact .inr (ih f g h1 h2 h3)
          · exact .inl hce
theorem begins_ge {p : ByteArray} {f : FileB} (h : beginsF p f = true) : 0 ≤ cmpP p f := pre_ge _ _ h
theorem begins_gap {p : ByteArray} {f g : FileB} (h1 : 0 ≤ cmpP p f) (h2 : beginsF p f = false) (h3 : cmpF f g ≤ 0) : beginsF p g = false := pre_gap _ _ _ h1 h2 h3
theorem run_rest (p : ByteArray) : ∀ fs : List FileB, Rise fs → (∀ f ∈ fs, 0 ≤ cmpP p f) → fs.takeWhile (beginsF p) = fs.filter (beginsF p)
  | [], _,_ => rfl
  | f :: fs, h, h2 => by
    rw [List.takeWhile_cons, List.filter_cons]
    by_cases hb : beginsF p f = true
    · rw [if_pos hb, if_pos hb, run_rest p fs (List.Pairwise.of_cons h) (fun g hg => h2 g (List.mem_cons_of_mem _ hg))]
    · rw [if_neg hb, if_neg hb]
      symm
      rw [List.filter_eq_nil_iff]
      intro g hg
      have := begins_gap (h2 f List.mem_cons_self) (by simpa using hb) (List.rel_of_pairwise_cons h hg)
      simp [this]
theorem run_filter {fs : List FileB} {p : ByteArray} {i : Nat} (h : Rise fs) (hs : Spot fs p i) : (fs.drop i).takeWhile (beginsF p) = fs.filter (beginsF p) := by
  rw [run_rest p _ (List.Pairwise.sublist (List.drop_sublist _ _) h)]
  · conv => rhs; rw [← List.take_append_drop i fs]
    rw [List.filter_append]
    have : (fs.take i).filter (beginsF p) = [] := by
      rw [List.filter_eq_nil_iff]
      intro g hg hb
      obtain ⟨t, ht, rfl⟩ := List.mem_iff_getElem.1 hg
      have h1 : t < i ∧ t < fs.length := by simp at ht; omega
      have h2 := hs.lo t h1.2 h1.1
      rw [List.getElem_take] at hb
      have := begins_ge hb
      omega
    rw [this, List.nil_append]
  · intro g hg
    obtain ⟨t, ht, rfl⟩ := List.mem_iff_getElem.1 hg
    rw [List.getElem_drop]
    exact hs.hi _ _ (by omega)
/-- the files whose paths begin with p -/
def undF (fs : List FileB) (p : ByteArray) : List FileB := fs.filter (beginsF p)
theorem runF_filter {fs : List FileB} {p : ByteArray} {i : Nat} (h : Rise fs) (hs : Spot fs p i) : runF fs p i = (undF fs p).length := by
  unfold undF
  rw [← run_filter h hs]; rfl
theorem undF_get {fs : List FileB} {p : ByteArray} {i : Nat} (h : Rise fs) (hs : Spot fs p i) {t : Nat} (ht : t < (undF fs p).length) : ∃ h2 : i + t < fs.length, (undF fs p)[t] = fs[i + t] := by
  have he : undF fs p = (fs.drop i).takeWhile (beginsF p) := (run_filter h hs).symm
  have hp : undF fs p <+: fs.drop i := by rw [he]; exact List.takeWhile_prefix _
  have hl := hp.length_le
  have h3 : t < (fs.drop i).length := by omega
  have h2 : i + t < fs.length := by simp at h3; omega
  refine ⟨h2, ?_⟩
  have := List.IsPrefix.getElem hp ht
  rw [this, List.getElem_drop]
/-- is there a path of the folder that is p -/
theorem there_spot {fs : List FileB} {p : ByteArray} {i : Nat} (hs : Spot fs p i) (h : thereB fs p i = false) (hr : Rise fs) : ∀ f ∈ fs, f.1 ≠ p := by
  intro f hf he
  obtain ⟨t, ht, rfl⟩ := List.mem_iff_getElem.1 hf
  have h0 : cmpP p fs[t] = 0 := by unfold cmpP; rw [he]; exact (cmp_zero _ _).2 rfl
  have hit : i ≤ t := by
    refine Classical.byContradiction fun hn => ?_
    have := hs.lo t ht (by omega); omega
  have hil : i < fs.length := by omega
  have h1 := hs.hi i hil (Nat.le_refl _)
  have h2 : cmpP p fs[i] ≤ 0 := by
    by_cases hx : i = t
    · subst hx; omega
    · have := List.pairwise_iff_getElem.1 hr i t hil ht (by omega)
      exact cmp_le_trans _ _ _ this (by unfold cmpP at h0; omega)
  unfold thereB at h
  rw [List.getElem?_eq_getElem hil] at h
  simp at h
  omega
theorem there_get {fs : List FileB} {p : ByteArray} {i : Nat} (h : thereB fs p i = true) : ∃ hi : i < fs.length, fs[i].1 = p := by
  unfold thereB at h
  by_cases hi : i < fs.length
  · rw [List.getElem?_eq_getElem hi] at h
    simp at h
    exact ⟨hi, ba_eq ((cmp_zero _ _).1 h)⟩
  · rw [List.getElem?_eq_none (by omega)] at h; simp at h
theorem sorted_rise {d : Array FileB} (h : SortedIn (ltOf cmpF) 0 d.size d) : Rise d.toList := by
  refine List.pairwise_iff_getElem.2 fun i j hi hj hij => ?_
  have h1 : i < d.size := by simpa using hi
  have h2 : j < d.size := by simpa using hj
  have := h i j (Nat.zero_le _) hij h2
  rw [getElem!_pos d i h1, getElem!_pos d j h2, ltOf_cmp] at this
  simp only [decide_eq_false_iff_not] at this
  have ha := cmp_anti d[i].1.data.toList d[j].1.data.toList
  simp only [Array.getElem_toList]
  unfold cmpF at this ⊢
  omega
theorem perm_in {d d' : Array FileB} (h : PermIn 0 d.size d d') : d'.toList.Perm d.toList := by
  have h1 := h.2.2
  have h2 := h.1
  rwa [Array.extract_size, ← h2, Array.extract_size] at h1
theorem rise_twice {fs : List FileB} (h : Rise fs) : twiceB fs = false ↔ RiseS fs := by
  unfold twiceB
  simp only [Bool.not_eq_false', decide_eq_true_eq]
  constructor
  · intro ht
    have hs : ∀ t (h2 : t + 1 < fs.length), cmpF fs[t] fs[t + 1] < 0 := fun t h2 => by
      have a := List.pairwise_iff_getElem.1 h t (t + 1) (by omega) h2 (by omega)
      have b := ht t h2 (by omega)
      have c : cmpF fs[t] fs[t + 1] ≠ 0 := fun h0 => b (ba_eq ((cmp_zero _ _).1 h0))
      omega
    refine List.pairwise_iff_getElem.2 fun i j hi hj hij => ?_
    have a := hs i (by omega)
    by_cases hx : i + 1 = j
    · subst hx; exact a
    · have b := List.pairwise_iff_getElem.1 h (i + 1) j (by omega) hj (by omega)
      exact cmp_lt_of_lt_of_le a b
  · intro hr t h2 _ he
    have a := List.pairwise_iff_getElem.1 hr t (t + 1) (by omega) h2 (by omega)
    unfold cmpF at a
    rw [he, (cmp_zero _ _).2 rfl] at a
    omega
/-- no path stands there twice -/
def Apart (fs : List FileB) : Prop := fs.Pairwise fun f g => f.1 ≠ g.1
theorem RiseS.apart {fs : List FileB} (h : RiseS fs) : Apart fs := List.Pairwise.imp (fun {f g} h e => by
  unfold cmpF at h
  rw [e, (cmp_zero _ _).2 rfl] at h; omega) h
theorem Apart.rise {fs : List FileB} (h : Apart fs) (hr : Rise fs) : RiseS fs := by
  refine List.pairwise_iff_getElem.2 fun i j hi hj hij => ?_
  have a := List.pairwise_iff_getElem.1 hr i j hi hj hij
  have b := List.pairwise_iff_getElem.1 h i j hi hj hij
  have c : cmpF fs[i] fs[j] ≠ 0 := fun h0 => b (ba_eq ((cmp_zero _ _).1 h0))
  omega
theorem Apart.perm {fs gs : List FileB} (h : fs.Perm gs) : Apart fs ↔ Apart gs := h.pairwise_iff (fun h e => h e.symm)
/-- two rising rows of the same files are one -/
theorem RiseS.one {fs gs : List FileB} (h : fs.Perm gs) (hf : RiseS fs) (hg : RiseS gs) : fs = gs := by
  refine List.Perm.eq_of_pairwise (le := fun f g => cmpF f g < 0) ?_ hf hg h
  intro a b _ _ h1 h2
  have := cmp_anti a.1.data.toList b.1.data.toList
  unfold cmpF at h1 h2
  omega
/-- a folder's files may stand together -/
def okF (sl : ByteArray) (fs : List FileB) : Prop := (∀ f ∈ fs, cleanB f.1 = true) ∧ Apart fs ∧ ∀ f ∈ fs, ∀ g ∈ fs, beginsF (f.1 ++ sl) g = false
theorem okF.perm {sl : ByteArray} {fs gs : List FileB} (h : fs.Perm gs) (hf : okF sl fs) : okF sl gs :=
  ⟨fun f hm => hf.1 f (h.mem_iff.2 hm), (Apart.perm h).1 hf.2.1, fun f hm g hn => hf.2.2 f (h.mem_iff.2 hm) g (h.mem_iff.2 hn)⟩
end Go.Proofs.YtlmeoahcpmikiaaGreatDoor
namespace Go.Proofs.YtlmeoahcpmikiaaGreatDoor
open Go.RowKit Go.Sort Go.Lib
theorem FilesAt.flat {w : World} {b off : Nat} {fs : List FileB} (h : FilesAt w b off fs) (j : Nat) (hj : j < fs.length * 2) : w.cell? ⟨b, off + j, none⟩ = some (flatK encF 2 fs.toArray)[j]! := by
  rw [get_flatK _ _ _ _ (by simpa using hj)]
  have hi : j / 2 < fs.length := by omega
  have hx : fs.toArray[j / 2]! = fs[j / 2] := by rw [getElem!_pos _ _ (by simpa using hi)]; simp
  rw [hx]
  have h2 := h (j / 2) hi
  rcases Nat.mod_two_eq_zero_or_one j with hm | hm
  · have e : off + j / 2 * 2 = off + j := by omega
    rw [hm, ← e]; exact h2.1
  · have e : off + j / 2 * 2 + 1 = off + j := by omega
    rw [hm, ← e]; exact h2.2
theorem FilesAt.of_holds {w : World} {b off : Nat} {fs : List FileB} (h : HoldsK encF 2 w b off fs.toArray) : FilesAt w b off fs := fun i hi => by
  have hx : fs.toArray[i]! = fs[i] := by rw [getElem!_pos _ _ (by simpa using hi)]; simp
  have h1 := (HoldsK.cell h (i := i) (c := 0) (by simpa using hi) (by decide)).1
  have h2 := (HoldsK.cell h (i := i) (c := 1) (by simpa using hi) (by decide)).1
  rw [hx] at h1 h2
  exact ⟨h1, h2⟩
theorem holdsK_of_block {w : World} {g : Nat} {cur : Array Value} {e : TypeId} {d : Array FileB} (hb : w.heap[g]? = some (.cells cur e (0, 0))) (ht : cur.toList.take (d.size * 2) = (flatK encF 2 d).toList) : HoldsK encF 2 w g 0 d := by
  intro j hj
  have hj' : j < d.size * 2 := by simpa using hj
  refine ⟨?_, by simp [World.frozen?, hb]⟩
  have h1 : (cur.toList.take (d.size * 2))[j]? = (flatK encF 2 d).toList[j]? := by rw [ht]
  rw [List.getElem?_take_of_lt hj'] at h1
  simp only [World.cell?, hb, Nat.zero_add]
  simp only [Array.getElem?_toList] at h1
  rw [h1]
  simp only [Option.isSome_none, Bool.false_eq_true, if_false, id]
  rw [Array.getElem?_eq_getElem hj, getElem!_pos (flatK encF 2 d) j hj]
theorem holds_sorted {w : World} {g off n : Nat} {d d' : Array FileB} {os : Array Obj} (hg : g < w.heap.size) (h : HoldsK encF 2 w g off d) (hs : d'.size = d.size) : HoldsK encF 2 (sortWorldK encF 2 w g off n d' os) g off d' := by
  unfold sortWorldK
  refine holdsK_grow _ _ _ _ _ _ _ ?_ (holdsK_putRowK _ _ _ _ _ d d' (holdsK_ahead _ _ _ _ _ _ _ h) hs)
  unfold putRowK
  rw [size_putRow]; exact hg
theorem below_sorted {w : World} {g off n B : Nat} {d' : Array FileB} {os : Array Obj} (hB : B ≤ g) (hgs : g < w.heap.size) : Go.RowKit.Below B w (sortWorldK encF 2 w g off n d' os) := by
  refine ⟨rfl, rfl, rfl, by simp [sortWorldK, putRowK], fun k hk => ?_⟩
  unfold sortWorldK putRowK
  by_cases hl : k < w.heap.size
  · rw [heap_grow_old _ _ (by simpa [ahead] using hl)]
    have : g ≠ k := fun e => by omega
    simp [putRow, mapBlock, Sort.ahead, Array.getElem?_modify, this]
  · exact absurd (Nat.lt_of_lt_of_le hk hB) (by omega)
theorem info32 : (Tryz.prog.info? 31).map (fun i => (i.zero, i.size, i.bytes)) = some (some (.agg #[.string .empty, .string .empty]), 2, 32) := by kernel_rfl
def ClonePost (w0 : World) (fs : List FileB) (e : Ending) (w : World) : Prop := ∃ g cap, e = .returned (.slice (some ⟨g, 0, none⟩) fs.length cap) ∧ w0.heap.size ≤ g ∧ g < w.heap.size ∧ fs.length ≤ cap ∧ HoldsK encF 2 w g 0 fs.toArray
theorem clone_any (b off c : Nat) (fs : List FileB) (w : World) (hf : FilesAt w b off fs) (hl : fs.length ≤ 1000000) :
    Calls Tryz.prog 39 #[.slice (some ⟨b, off, none⟩) fs.length c] w fun e w' => ClonePost w fs e w' ∧ Go.RowKit.Below w.heap.size w w' := by
  obtain ⟨i0, hi, hz0, hz1, hz2⟩ := info_parts info32
  refine (AnyE.slices_Clone Tryz.cloneFiles i0 _ 2 _ hi hz0 hz1 hz2 rfl (by decide) Tryz.sizeOf31 b off fs.length c (flatK encF 2 fs.toArray).toList w (by simp) (by unfold maxLen; omega) (by omega) ?_ ?_).mono ?_
  · intro j u hj
    obtain ⟨hj1, rfl⟩ := List.getElem?_eq_some_iff.1 hj
    have hj2 : j < fs.length * 2 := by simpa using hj1
    rw [hf.flat j hj2, getElem!_pos _ _ (by simpa using hj2)]
    simp
  · intro u hu
    obtain ⟨j, hj, rfl⟩ := List.mem_iff_getElem.1 hu
    have hj2 : j < fs.length * 2 := by simpa using hj
    rw [Array.getElem_toList, ← getElem!_pos _ _ (by simpa using hj2), get_flatK _ _ _ _ (by simpa using hj2)]
    rcases Nat.mod_two_eq_zero_or_one j with hm | hm <;> rw [hm] <;> rfl
  · rintro e w' ⟨v, rfl, hown, hnn, hb⟩
    rcases hown.2 with ⟨hnil, _⟩ | ⟨g, cap, cur, rfl, hbase, hbk, h1, h2, h3, h4⟩
    · exact absurd hnil hnn
    · exact ⟨⟨g, cap, rfl, hbase, (Array.getElem?_eq_some_iff.1 hbk).1, h1, holdsK_of_block hbk (by simpa using h4)⟩, hb⟩
end Go.Proofs.YtlmeoahcpmikiaaGreatDoor

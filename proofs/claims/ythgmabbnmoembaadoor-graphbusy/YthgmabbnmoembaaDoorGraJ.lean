/-
  The picture of a history: the program's and the document's; Same; what the document fixes.
-/
import Derived.Test.YthgmabbnmoembaaDoorGraI
namespace Go.Proofs.YthgmabbnmoembaaDoor
open Go.RowKit

theorem ba_eq {a b : ByteArray} (h : a.data.toList = b.data.toList) : a = b := by
  cases a; cases b; simp at h; rw [h]
def StrsAt (w : World) (g : Nat) (l : List ByteArray) : Prop := ∀ j (h : j < l.length), w.cell? ⟨g, j, none⟩ = some (.string l[j])
theorem StrsAt.below {w w' : World} {g B : Nat} {l : List ByteArray} (h : StrsAt w g l) (hb : Below B w w') (hB : g < B) : StrsAt w' g l := fun j hj =>
  (hb.cell (p := ⟨g, j, none⟩) hB).trans (h j hj)
/-- the list of texts that a value is -/
def StrsV (w : World) (v : Value) (l : List ByteArray) : Prop := ∃ a c, v = .slice a l.length c ∧ (l ≠ [] → ∃ g, a = some ⟨g, 0, none⟩ ∧ g < w.heap.size ∧ StrsAt w g l)
theorem StrsV.below {w w' : World} {v : Value} {l : List ByteArray} (h : StrsV w v l) (hb : Below w.heap.size w w') : StrsV w' v l := by
  obtain ⟨a, c, hv, hs⟩ := h
  exact ⟨a, c, hv, fun hne => by obtain ⟨g, h1, h2, h3⟩ := hs hne; exact ⟨g, h1, Nat.lt_of_lt_of_le h2 hb.size, h3.below hb h2⟩⟩
/-- alike up to k -/
def SameTo (l m : List ByteArray) (k : Nat) : Prop := ∀ t (h : t < l.length) (h2 : t < m.length), t < k → l[t] = m[t]
open Classical in
noncomputable def sameB (l m : List ByteArray) : Bool := decide (l = m)
set_option maxHeartbeats 1600000 in
theorem same_any (v1 v2 : Value) (l m : List ByteArray) (w : World) (h1 : StrsV w v1 l) (h2 : StrsV w v2 m) (hl : l.length ≤ 1000000) :
    Calls Tryd.prog 15 #[v1, v2] w fun e w' => e = .returned (.bool (sameB l m)) ∧ Below w.heap.size w w' := by
  obtain ⟨a1, c1, rfl, hs1⟩ := h1
  obtain ⟨a2, c2, rfl, hs2⟩ := h2
  have HS1 := hidM hs1
  have HS2 := hidM hs2
  clear hs1 hs2
  by_cases hlen : l.length = m.length
  · have HE := hidM hlen
    have g0 : ((l.length : Int) == (m.length : Int)) = true := by simp; omega
    clear hlen
    go_enter Tryd.func15, Tryd.ntmps15
    go_wp2
    go_loopw [5, 13] (fun _ i wr => ∃ (k : Nat), k ≤ l.length ∧ i = .int .i64 k ∧ SameTo l m k ∧ Below w.heap.size w wr) (fun _ i _ => l.length - (intOf i).toNat)
    case atStart => exact ⟨0, Nat.zero_le _, rfl, fun t _ _ h => by omega, Below.refl _ _⟩
    case round =>
      obtain ⟨k, hk, rfl, hd, hb⟩ := hrel
      have HD := hidM hd
      have HB := hidM hb
      clear hd hb
      by_cases hlt : k < l.length
      · have kk : (k : Int) < (l.length : Int) := by omega
        have hlt2 : k < m.length := by have := HE.out; omega
        have kk2 : (k : Int) < (m.length : Int) := by omega
        have k0 : (0 : Int) ≤ (k : Int) := by omega
        obtain ⟨g, rfl, hg, hst⟩ := HS1.out (fun h => by rw [h] at hlt; simp at hlt)
        obtain ⟨g2, rfl, hg2, hst2⟩ := HS2.out (fun h => by rw [h] at hlt2; simp at hlt2)
        have d1 := (hst.below HB.out hg) k hlt
        have d2 := (hst2.below HB.out hg2) k hlt2
        clear hst hst2
        by_cases he : l[k] = m[k]
        · have HN : Hid (SameTo l m (k + 1)) := fun t h h9 ht => by
            by_cases h5 : t < k
            · exact HD.out t h h9 h5
            · have : t = k := by omega
              subst this; exact he
          rw [he] at d1
          generalize m[k] = X at *
          clear he
          go_wp2
          go_quiet (fail)
          go_wp2
          go_roundw
          case rel => exact ⟨k + 1, by omega, by go_num, HN.out, below_drewN HB.out _⟩
          case measure => (show l.length - ((k : Int) + 1).toNat < l.length - ((k : Int)).toNat); omega
        · have HT : Hid (sameB l m = false) := by
            unfold Hid sameB
            simp only [decide_eq_false_iff_not]
            intro h
            subst h
            exact he rfl
          have e1 : (l[k].toList == m[k].toList) = false := by
            rw [ByteArray.toList_eq, ByteArray.toList_eq]
            exact beq_false_of_ne fun h => he (ba_eq h)
          generalize m[k] = X at *
          generalize l[k] = Y at *
          clear he
          go_wp2
          go_quiet (fail)
          go_wp2
          go_ret
          exact ⟨by rw [HT.out]; rfl, below_drewN HB.out _⟩
      · have HT : Hid (sameB l m = true) := by
          unfold Hid sameB
          simp only [decide_eq_true_eq]
          refine List.ext_getElem HE.out fun t h9 h8 => HD.out t h9 h8 (by omega)
        have kk : ¬ (k : Int) < (l.length : Int) := by omega
        go_wp2
        go_ret
        exact ⟨by rw [HT.out]; rfl, HB.out⟩
  · have HT : Hid (sameB l m = false) := by
      unfold Hid sameB
      simp only [decide_eq_false_iff_not]
      intro h; exact hlen (by rw [h])
    have g0 : ((l.length : Int) == (m.length : Int)) = false := by simp; omega
    clear hlen
    go_enter Tryd.func15, Tryd.ntmps15
    go_wp2
    go_ret
    exact ⟨by rw [HT.out]; rfl, Below.refl _ _⟩

def strsV (l : List ByteArray) : List Value := l.map Value.string
theorem strsV_len (l : List ByteArray) : (strsV l).length = l.length := by unfold strsV; simp
theorem strsV_app (l m : List ByteArray) : strsV (l ++ m) = strsV l ++ strsV m := by unfold strsV; rw [List.map_append]
theorem strsV_at (l : List ByteArray) (j : Nat) (h : j < l.length) : (strsV l)[j]'(by rw [strsV_len]; exact h) = .string l[j] := by unfold strsV; simp
def OwnS (w : World) (B : Nat) (v : Value) (l : List ByteArray) : Prop := OwnV 9 w B v (strsV l)
theorem OwnS.strs {w : World} {B : Nat} {v : Value} {l : List ByteArray} (h : OwnS w B v l) : StrsV w v l := by
  obtain ⟨a, c, hv, _, hs⟩ := OwnV.shape h
  rw [strsV_len] at hv
  refine ⟨a, c, hv, fun hne => ?_⟩
  obtain ⟨g, h1, _, _, h2, h3⟩ := hs (by rw [strsV_len]; exact List.length_pos_iff.2 hne)
  exact ⟨g, h1, h2, fun j hj => by rw [h3 j (by rw [strsV_len]; exact hj), strsV_at l j hj]⟩
theorem back_all : ∀ q : Fin 241, floatToIntVal .f64 (fz q.val) .i64 = some (q.val : Int) := by decide +kernel
theorem fz_back {q : Nat} (h : q ≤ 240) (w : World) : (convert 41 3 (.float .f64 (fz q))).run Tryd.prog w = .ok (.int .i64 (q : Int)) w :=
  run_convert_float_int w 41 3 .f64 .i64 (fz q) q (by rw [Tryd.underlying41]; rfl) Tryd.underlying3 (back_all ⟨q, by omega⟩)
def PicP (L : List (List Int)) (w : World) (e : Ending) (w' : World) : Prop :=
  (placesE L ≠ 0 ∧ e = .returned (.tuple #[.slice none 0 0, .int .i64 (placesE L : Nat)]) ∧ Below w.heap.size w w') ∨
  (placesE L = 0 ∧ ∃ pv, e = .returned (.tuple #[pv, .int .i64 0]) ∧ OwnS w' w.heap.size pv (picL L L.length) ∧ Below w.heap.size w w')
theorem rowsL_ne {L : List (List Int)} {n : Nat} (h : 0 < n) : rowsL L n ≠ [] := fun e => by have h2 := congrArg List.length e; rw [rowsL_len] at h2; simp at h2; omega
theorem ints_nil (w : World) : IntsV w (.slice none 0 0) [] := ⟨none, 0, rfl, Nat.le_refl _, fun _ => rfl, fun h => absurd rfl h⟩
set_option maxHeartbeats 4000000 in
set_option maxRecDepth 50000 in
theorem picture_any (v : Value) (L : List (List Int)) (w : World) (hv : RowsV w v L) (hL : L.length ≤ 1000000) (hl : ∀ l ∈ L, l.length ≤ 10000) :
    Calls Tryd.prog 10 #[v] w fun e w' => PicP L w e w' := by
  have HPC := hidM (places_any v L w hv hL hl)
  obtain ⟨a, cp, rfl, hcp, hst⟩ := hv
  obtain ⟨n, hn⟩ : ∃ n, L.length = n := ⟨_, rfl⟩
  have HN := hidM hn
  rw [hn] at hcp hL HPC ⊢
  clear hn hst
  go_enter Tryd.func10, Tryd.ntmps10
  go_wp2_with fail
  refine HPC.out.mono ?_
  rintro _ w1 (⟨hne, rfl, hb1⟩ | ⟨he, av, rv, rfl, ha1, hr1, hb1⟩)
  · have HNE := hidM hne
    have HB1 := hidM hb1
    clear hne hb1
    obtain ⟨z, hz⟩ : ∃ z, placesE L = z := ⟨_, rfl⟩
    rw [hz] at HNE ⊢
    have HZ := hidM hz
    clear hz
    have zz : ((z : Int) == 0) = false := by have := HNE.out; simp; omega
    go_wp2
    go_ret2
    exact .inl ⟨by rw [HZ.out]; exact HNE.out, by rw [HZ.out]; rfl, HB1.out⟩
  · have HE := hidM he
    have HAV := hidM ha1
    have HRV := hidM hr1
    have HB1 := hidM hb1
    obtain ⟨aa, ac, hav, -, -⟩ := ha1.shape
    obtain ⟨ra, rc, hrv⟩ := hr1.len
    rw [atL_len, HN.out] at hav
    rw [rowsL_len, HN.out] at hrv
    subst hav
    subst hrv
    clear he ha1 hr1 hb1 HPC
    go_wp2
    go_loopw [7, 8, 22] (fun lv hv iv wr => ∃ (k : Nat) (ha : Option Addr) (hn hc : Nat), k ≤ n ∧ iv = .int .i64 k ∧ hv = .slice ha hn hc ∧ Hid (OwnS wr w1.heap.size lv (picL L k)) ∧ Hid (IntsV wr (.slice ha hn hc) (lanes L k)) ∧ Hid (Below w1.heap.size w1 wr)) (fun _ _ iv _ => n - (intOf iv).toNat)
    case atStart => exact ⟨0, _, _, _, Nat.zero_le _, rfl, rfl, World.ownsRow_nil _ _ _ _, ints_nil _, Below.refl _ _⟩
    case round =>
      obtain ⟨k, hha, hhn, hhc, hk, rfl, rfl, HS, HH, HB⟩ := hrel
      obtain ⟨la, lc, hlv, hlc, -⟩ := OwnV.shape HS.out
      rw [strsV_len, picL_len] at hlv hlc
      subst hlv
      by_cases hlt : k < n
      · have kk : (k : Int) < (n : Int) := by omega
        have hkl : k < L.length := by rw [HN.out]; exact hlt
        have HPL := hidM (pic_line HE.out hkl)
        obtain ⟨ab, ac2, hav2, -, has⟩ := (OwnV.below HAV.out HB.out).shape
        obtain ⟨ga, haa, -, -, -, hat⟩ := has (by rw [atL_len]; omega)
        have ca := hat k (by rw [atL_len]; omega)
        have hca : (atL L L.length)[k]'(by rw [atL_len]; omega) = cz (takeK (lanes L k) k) k := by unfold atL; simp
        rw [hca] at ca
        have haq : aa = some ⟨ga, 0, none⟩ := by rw [haa] at hav2; simp at hav2; exact hav2.1
        obtain ⟨rb, rc2, hrv2, -, hrs⟩ := HRV.out.rows.below HB.out
        obtain ⟨gr, ro, hra, hgr, hrat⟩ := hrs (rowsL_ne (by omega))
        obtain ⟨u, cr, hu⟩ := hrat k (by rw [rowsL_len]; omega)
        have hru : (rowsL L L.length)[k]'(by rw [rowsL_len]; omega) = lanes L (k + 1) := by unfold rowsL; simp
        rw [hru] at hu
        have hrq : ra = some ⟨gr, ro, none⟩ := by rw [hra] at hrv2; simp at hrv2; exact hrv2.1
        subst haq
        subst hrq
        have HU := hidM hu
        obtain ⟨ua, un, uc, huv⟩ : ∃ ua un uc, u = .slice ua un uc := by obtain ⟨x, y, z, _⟩ := hu; exact ⟨_, _, _, z⟩
        subst huv
        have HPN := hidM (picL_next L k)
        have HLI := hidM (line_any (takeK (lanes L k) k) _ (lanes L k) wr HH.out (by have := HPL.out.2.1; omega) (by have := HPL.out.2.2; omega))
        have hq40 := HPL.out.2.1
        obtain ⟨q, hq⟩ : ∃ q, takeK (lanes L k) k = q := ⟨_, rfl⟩
        rw [hq] at ca HPN HLI hq40
        have hconv := fz_back (q := q) (by omega)
        unfold cz at ca
        generalize fz q = fq at *
        generalize fz k = fk at *
        obtain ⟨Z, hZ⟩ : ∃ Z, (⟨(Lib.trimRightB (lineL q (lanes L k)) 32).toArray⟩ : ByteArray) = Z := ⟨_, rfl⟩
        rw [hZ] at HPN HLI
        clear hZ hq hat has hav2 haa hca hrs hrat hra hrv2 hru hu
        go_wp2_with fail
        refine HLI.out.mono ?_
        rintro _ w2 ⟨rfl, hb2⟩
        have HS2 := hidM (OwnV.below HS.out hb2)
        have HU2 := hidM (HU.out.below hb2)
        have HB2 := hidM (HB.out.trans (hb2.mono HB.out.size))
        have cr2 : w2.cell? ⟨gr, ro + k, none⟩ = some (.slice ua un uc) := (hb2.cell (p := ⟨gr, ro + k, none⟩) hgr).trans cr
        have hs2 := HB2.out.size
        clear hb2 cr HLI HS HU HB HH
        have HBW : Hid (Below w2.heap.size w2 (w2.alloc (.cells #[.string Z] 9))) := (Below.refl _ w2).alloc (Nat.le_refl _) _
        have HS3 := hidM (OwnV.below HS2.out HBW.out)
        go_wp2_with (at_builtin; go_loud (refine wpList_append_own_at _ rfl _ _ 31 rfl w1.heap.size 9 I9 (.string .empty) 1 16 Tryd.underlying31 I9a I9b I9c I9d rfl (by decide) (.slice la k lc) k (strsV (picL L k)) rfl ?ra0 ⟨w2.heap.size, 0, none⟩ 1 1 [.string Z] ?rad ?ra1 ?ra2 ?ra3 ?ra4 ?ra5 ?ra6 ?_))
        try (case ra0 => have h9 := HS3.out; unfold OwnV at h9; rw [strsV_len, picL_len] at h9; exact h9)
        try (case rad => rfl)
        try (case ra1 => rfl)
        try (case ra2 => exact World.news_of_block (heap_alloc_new _ _))
        try (case ra3 => first | rfl | (intro u hu; simp at hu; subst hu; rfl))
        try (case ra4 => unfold maxLen; omega)
        try (case ra5 => omega)
        try (case ra6 => first | omega | (simp; omega))
        intro v3 w3 hown hgrow hnil hat3
        have HS4 : Hid (OwnS w3 w1.heap.size v3 (picL L (k + 1))) := by
          unfold Hid OwnS OwnV
          rw [HPN.out, strsV_app, List.length_append, strsV_len, picL_len]
          exact hown
        have HB4 : Hid (Below w1.heap.size w1 w3) := (HB2.out.alloc hs2 _).grown hgrow (by simp; omega) (fun b hb => (OwnV.lt HS3.out hb).1)
        have HU4 : Hid (IntsV w3 (.slice ua un uc) (lanes L (k + 1))) := by
          unfold Hid
          have h5 := HRV.out.rows.below HB4.out
          obtain ⟨x1, x2, x3, -, x4⟩ := h5
          obtain ⟨x5, x6, x7, x8, x9⟩ := x4 (rowsL_ne (by omega))
          obtain ⟨y, y1, y2⟩ := x9 k (by rw [rowsL_len]; omega)
          have hrq : (⟨gr, ro, none⟩ : Addr) = ⟨x5, x6, none⟩ := by rw [x7] at x3; simp at x3; simp; exact x3.1
          cases hrq
          have hyu : y = .slice ua un uc := by
            obtain ⟨z1, z2, z3, -, z4⟩ := HRV.out.rows
            obtain ⟨z5, z6, z7, z8, z9⟩ := z4 (rowsL_ne (by omega))
            obtain ⟨p, p1, _⟩ := z9 k (by rw [rowsL_len]; omega)
            have hrq2 : (⟨gr, ro, none⟩ : Addr) = ⟨z5, z6, none⟩ := by rw [z7] at z3; simp at z3; simp; exact z3.1
            cases hrq2
            have e1 := (HB4.out.cell (p := ⟨gr, ro + k, none⟩) z8).trans p1
            have e2 := (HB2.out.cell (p := ⟨gr, ro + k, none⟩) z8).trans p1
            rw [e2] at cr2
            rw [e1] at y1
            cases y1; cases cr2; rfl
          rw [hyu] at y2
          have hru : (rowsL L L.length)[k]'(by rw [rowsL_len]; omega) = lanes L (k + 1) := by unfold rowsL; simp
          rw [hru] at y2
          exact y2
        have cr4 : w3.cell? ⟨gr, ro + k, none⟩ = some (.slice ua un uc) := by
          obtain ⟨z1, z2, z3, -, z4⟩ := HRV.out.rows
          obtain ⟨z5, z6, z7, z8, z9⟩ := z4 (rowsL_ne (by omega))
          have hrq2 : (⟨gr, ro, none⟩ : Addr) = ⟨z5, z6, none⟩ := by rw [z7] at z3; simp at z3; simp; exact z3.1
          cases hrq2
          exact ((HB4.out.cell (p := ⟨gr, ro + k, none⟩) z8).trans (HB2.out.cell (p := ⟨gr, ro + k, none⟩) z8).symm).trans cr2
        clear hown hgrow hnil hat3 HS2 HS3 HBW HB2 HU2 cr2
        go_wp2
        go_roundw
        case rel => exact ⟨k + 1, _, _, _, by omega, by go_num, rfl, HS4, HU4, HB4⟩
        case measure => (show n - ((k : Int) + 1).toNat < n - ((k : Int)).toNat); omega
      · have hkn : k = n := by omega
        subst hkn
        have kk : ¬ (k : Int) < (k : Int) := by omega
        go_wp2
        go_ret2
        exact .inr ⟨HE.out, _, rfl, by rw [HN.out]; exact OwnV.mono HS.out HB1.out.size, HB1.out.trans (HB.out.mono HB1.out.size)⟩
end Go.Proofs.YthgmabbnmoembaaDoor

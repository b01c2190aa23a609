/-
  Taken over from another program: Jump.
  Taken over from another program: InfH.
  Taken over from another program: InfV.
-/
import Derived.Scope
import Derived.ScopeJumps
import Derived.Test.YtlmeoahcpmikiaaGreatDoorJFixC
import Derived.Test.YtlmeoahcpmikiaaGreatDoorJInfG
import Derived.WalkMore
import Derived.Test.YtlmeoahcpmikiaaGreatDoorJInfX
import Derived.Deep.AppendLies
import Derived.Deep.RegionLaw
import Derived.Deep.DrawnRows
namespace Go.Proofs.YtlmeoahcpmikiaaGreatDoor
/-- As Q; by a goto to label l: J l. -/
def jumpN (J : Nat → Act → World → Prop) (Q : Exit → Act → World → Prop) : Exit → Act → World → Prop
  | .goto l, a, w => J l a w
  | e, a, w => Q e a w
theorem wp_scope_many {P : Program} {a : Act} {w : World} {Q : Exit → Act → World → Prop} {c : Code} (J : Nat → Act → World → Prop) (μ : Nat → Act → World → Nat)
    (first : c.wp P (jumpN (fun l a w => (findLabel c l).isSome = true ∧ J l a w) Q) a w)
    (pass : ∀ l rest a w, findLabel c l = some rest → J l a w → rest.wp P (jumpN (fun l' a' w' => (findLabel c l').isSome = true ∧ J l' a' w' ∧ μ l' a' w' < μ l a w) Q) a w) : (Code.scope c).wp P Q a w := by
  intro b k cs
  have hg : ∀ l rest, findLabel c l = some rest → gotoIn l (.inScope c :: k) = some (.code rest :: .inScope c :: k) := fun l rest hf => by simp [gotoIn, hf]
  have key : ∀ n l rest a w, findLabel c l = some rest → μ l a w = n → J l a w → ∃ e a' w', Q e a' w' ∧ Arrives P (lone (b.at a (.code rest :: .inScope c :: k)) cs w) b k cs e a' w' := by
    intro n
    induction n using Nat.strongRecOn with
    | _ n ih =>
      intro l rest a w hf hn hJ
      obtain ⟨e, a₁, w₁, hq, harr⟩ := pass l rest a w hf hJ b (.inScope c :: k) cs
      cases e with
      | normal => exact ⟨.normal, a₁, w₁, hq, Steps.trans harr (.one step_inScope)⟩
      | exit id => exact ⟨.exit id, a₁, w₁, hq, fun k' hk => harr k' (by simp [exitTo, hk])⟩
      | goto l' =>
        obtain ⟨hs, hJ', hlt⟩ := hq
        obtain ⟨rest', hf'⟩ := Option.isSome_iff_exists.1 hs
        obtain ⟨e₂, a₂, w₂, hq₂, harr₂⟩ := ih _ (by omega) l' rest' a₁ w₁ hf' rfl hJ'
        exact ⟨e₂, a₂, w₂, hq₂, .of_steps (harr _ (hg _ _ hf')) harr₂⟩
      | ret => exact ⟨_, a₁, w₁, hq, harr⟩
      | panic ch => exact ⟨_, a₁, w₁, hq, harr⟩
      | outgrown => exact ⟨_, a₁, w₁, hq, harr⟩
  obtain ⟨e, a₁, w₁, hq, harr⟩ := first b (.inScope c :: k) cs
  cases e with
  | normal => exact ⟨.normal, a₁, w₁, hq, .head step_scope (Steps.trans harr (.one step_inScope))⟩
  | exit id => exact ⟨.exit id, a₁, w₁, hq, fun k' hk => .head step_scope (harr k' (by simp [exitTo, hk]))⟩
  | goto l' =>
    obtain ⟨hs, hJ'⟩ := hq
    obtain ⟨rest', hf'⟩ := Option.isSome_iff_exists.1 hs
    obtain ⟨e₂, a₂, w₂, hq₂, harr₂⟩ := key _ l' rest' a₁ w₁ hf' rfl hJ'
    exact ⟨e₂, a₂, w₂, hq₂, .of_steps (.head step_scope (harr _ (hg _ _ hf'))) harr₂⟩
  | ret => exact ⟨_, a₁, w₁, hq, .of_steps (.one step_scope) harr⟩
  | panic ch => exact ⟨_, a₁, w₁, hq, .of_steps (.one step_scope) harr⟩
  | outgrown => exact ⟨_, a₁, w₁, hq, .of_steps (.one step_scope) harr⟩
end Go.Proofs.YtlmeoahcpmikiaaGreatDoor
namespace Go.Proofs.YtlmeoahcpmikiaaGreatDoor
open Go.RowKit
/-- how a stream's reading answers -/
def ReadPostS (B : Nat) (X : ByteArray) (most : Nat) (w : World) (e : Ending) (w' : World) : Prop :=
  (∃ n : Nat, n ≠ 0 ∧ Run X.data.toList most (.blk false) 0 [] (.bad n) ∧ e = .returned (.int .i64 (n : Int)) ∧ Below B w w') ∨
  (∃ t o v p1 p2 p3 p4, Run X.data.toList most (.blk false) 0 [] (.good t o) ∧ t ≤ 8 * X.size ∧ o.length ≤ most ∧ e = .returned (.int .i64 0) ∧ StS w' B X t most true v o p1 p2 p3 p4 ∧ Below B w w')
/-- ahead of a block -/
structure AtBlk (B : Nat) (X : ByteArray) (most : Nat) (w0 w : World) (t : Nat) (last : Bool) (o : List UInt8) (v p1 p2 p3 p4 : Value) : Prop where
  st : StS w B X t most last v o p1 p2 p3 p4
  lim : t ≤ 8 * X.size
  out : o.length ≤ most
  fixed : FixedQ w B p3 p4
  below : Below B w0 w
  run : ∀ r, Run X.data.toList most (.blk last) t o r → Run X.data.toList most (.blk false) 0 [] r
/-- among a block's symbols -/
structure AtSym (B : Nat) (X : ByteArray) (most : Nat) (w0 w : World) (t : Nat) (last : Bool) (o : List UInt8) (v p1 p2 p3 p4 : Value) (cl cd : Cd) : Prop where
  st : StS w B X t most last v o p1 p2 p3 p4
  lim : t ≤ 8 * X.size
  out : o.length ≤ most
  fixed : FixedQ w B p3 p4
  below : Below B w0 w
  tl : TabQ w B p1 cl
  td : TabQ w B p2 cd
  okl : cl.Ok
  okd : cd.Ok
  run : ∀ r, Run X.data.toList most (.sym last cl cd) t o r → Run X.data.toList most (.blk false) 0 [] r
def frR (B : Nat) (a : Act) : Prop := ∃ u3 u4 u5 u6 u7 u8 u9 u10 u11 u12 u13 u14 u15 u16 u17 u18 u19 u20 u21 u22 u23 u24 u25 u26 u27 u28 u29 u30 u31 u32 u33 u34 u35 u36 u37 u38 u39 u40 u41 u42 u43 u44 u45 u46 u47 u48 u49 u50 u51 u52 u53 u54 u55 u56 u57 u58 u59 u60 u61 u62 u63 u64 u65 u66 : Value, a = { tmps := #[.pointer (some ⟨B + 1, 0, none⟩), undef, .int .i64 0, u3, u4, u5, u6, u7, u8, u9, u10, u11, u12, u13, u14, u15, u16, u17, u18, u19, u20, u21, u22, u23, u24, u25, u26, u27, u28, u29, u30, u31, u32, u33, u34, u35, u36, u37, u38, u39, u40, u41, u42, u43, u44, u45, u46, u47, u48, u49, u50, u51, u52, u53, u54, u55, u56, u57, u58, u59, u60, u61, u62, u63, u64, u65, u66], defers := [] }
def jumpR (B : Nat) (X : ByteArray) (most : Nat) (w0 : World) (l : Nat) (a : Act) (w : World) : Prop :=
  match l with
  | 0 => frR B a ∧ ∃ t last o v p1 p2 p3 p4, AtBlk B X most w0 w t last o v p1 p2 p3 p4
  | 1 => frR B a ∧ ∃ t last o v p1 p2 p3 p4 cl cd, AtSym B X most w0 w t last o v p1 p2 p3 p4 cl cd
  | _ => False
def bitOf (B : Nat) (w : World) : Nat := match w.cell? ⟨B, 1, none⟩ with
  | some (.int _ q) => q.toNat
  | _ => 0
theorem bitOf_box {B : Nat} {w : World} {X : ByteArray} {t : Nat} (h : RBox w B X t) : bitOf B w = t := by
  unfold bitOf
  rw [h.taken]
  rfl
theorem wp_scope_many2 {P : Program} {a : Act} {w : World} {Q : Exit → Act → World → Prop} {c : Code} (J : Nat → Act → World → Prop) (μ : Nat → Act → World → Nat)
    (first : (∀ l rest a w, findLabel c l = some rest → J l a w → rest.wp P (jumpN (fun l a w => (findLabel c l).isSome = true ∧ J l a w) Q) a w) → c.wp P (jumpN (fun l a w => (findLabel c l).isSome = true ∧ J l a w) Q) a w)
    (pass : ∀ l rest a w, findLabel c l = some rest → J l a w → rest.wp P (jumpN (fun l' a' w' => (findLabel c l').isSome = true ∧ J l' a' w' ∧ μ l' a' w' < μ l a w) Q) a w) : (Code.scope c).wp P Q a w :=
  wp_scope_many J μ (first fun l rest a w hf hJ => wp_mono (pass l rest a w hf hJ) (fun e a w h => by cases e <;> first | exact h | exact ⟨h.1, h.2.1⟩)) pass
theorem num_lim {X : ByteArray} {t n x : Nat} (h : num X.data.toList t n = some x) : t + n ≤ 8 * X.size := by
  unfold num at h
  rw [total_size] at h
  split at h
  · assumption
  · cases h
section
variable {B : Nat} {X : ByteArray} {most : Nat} {w0 w1 w2 : World} {t : Nat} {last : Bool} {o : List UInt8} {v p1 p2 p3 p4 : Value}
theorem AtBlk.stored (hA : AtBlk B X most w0 w1 t false o v p1 p2 p3 p4) {x t' : Nat} {o' : List UInt8} {v' : Value} (hn : num X.data.toList t 3 = some x) (hk : x / 2 = 0) (hs : storedR X.data.toList most (t + 3) o = .good t' o')
    (hst : StS w2 B X t' most (x % 2 == 1) v' o' p1 p2 p3 p4) (hkp : Kept B w1 w2) : AtBlk B X most w0 w2 t' (x % 2 == 1) o' v' p1 p2 p3 p4 ∧ 8 * X.size - bitOf B w2 < 8 * X.size - bitOf B w1 := by
  have h := stored_mono hs
  rw [total_size] at h
  refine ⟨⟨hst, h.2.1, h.2.2, hA.fixed.kept hkp, hA.below.trans hkp.below, fun r hr => hA.run r (.st t o x t' o' r hn hk hs hr)⟩, ?_⟩
  rw [bitOf_box hst.rd, bitOf_box hA.st.rd]
  have := num_lim hn
  omega
theorem AtBlk.fixd (hA : AtBlk B X most w0 w1 t false o v p1 p2 p3 p4) {x : Nat} {q1 q2 : Value} (hn : num X.data.toList t 3 = some x) (hk : x / 2 = 1)
    (hst : StS w2 B X (t + 3) most (x % 2 == 1) v o q1 q2 q1 q2) (h1 : TabQ w2 B q1 fixLit) (h2 : TabQ w2 B q2 fixDist) (hkp : Kept B w1 w2) : AtSym B X most w0 w2 (t + 3) (x % 2 == 1) o v q1 q2 q1 q2 fixLit fixDist ∧ 8 * X.size - bitOf B w2 < 8 * X.size - bitOf B w1 := by
  have h := num_lim hn
  refine ⟨⟨hst, h, hA.out, .inr ⟨h1, h2⟩, hA.below.trans hkp.below, h1, h2, fixLit_ok, fixDist_ok, fun r hr => hA.run r (.fx t o x r hn hk hr)⟩, ?_⟩
  rw [bitOf_box hst.rd, bitOf_box hA.st.rd]
  omega
theorem AtBlk.dyn (hA : AtBlk B X most w0 w1 t false o v p1 p2 p3 p4) {x t' : Nat} {q1 q2 : Value} {cl cd : Cd} (hn : num X.data.toList t 3 = some x) (hk : x / 2 = 2) (hd : Dyn X.data.toList (t + 3) (.inr (cl, cd, t'))) (ht : t' ≤ 8 * X.size)
    (hst : StS w2 B X t' most (x % 2 == 1) v o q1 q2 p3 p4) (h1 : TabQ w2 B q1 cl) (h2 : TabQ w2 B q2 cd) (hkp : Kept B w1 w2) : AtSym B X most w0 w2 t' (x % 2 == 1) o v q1 q2 p3 p4 cl cd ∧ 8 * X.size - bitOf B w2 < 8 * X.size - bitOf B w1 := by
  obtain ⟨k1, k2, k3⟩ := hd.ok
  refine ⟨⟨hst, ht, hA.out, hA.fixed.kept hkp, hA.below.trans hkp.below, h1, h2, k1, k2, fun r hr => hA.run r (.dy t o x cl cd t' r hn hk hd hr)⟩, ?_⟩
  rw [bitOf_box hst.rd, bitOf_box hA.st.rd]
  omega
variable {cl cd : Cd}
theorem AtSym.ends (hA : AtSym B X most w0 w1 t last o v p1 p2 p3 p4 cl cd) {t' : Nat} (hs : SymR cl X.data.toList t (.inr (256, t'))) (hst : StS w2 B X t' most last v o p1 p2 p3 p4) (hkp : Kept B w1 w2) :
    AtBlk B X most w0 w2 t' last o v p1 p2 p3 p4 ∧ 8 * X.size - bitOf B w2 < 8 * X.size - bitOf B w1 := by
  have h := hs.lt
  rw [total_size] at h
  refine ⟨⟨hst, h.2.2, hA.out, hA.fixed.kept hkp, hA.below.trans hkp.below, fun r hr => hA.run r (.syEnd last cl cd t o t' r hs hr)⟩, ?_⟩
  rw [bitOf_box hst.rd, bitOf_box hA.st.rd]
  omega
theorem AtSym.puts (hA : AtSym B X most w0 w1 t last o v p1 p2 p3 p4 cl cd) {s t' : Nat} {v' : Value} (hs : SymR cl X.data.toList t (.inr (s, t'))) (h256 : s < 256) (hm : o.length + 1 ≤ most) (hst : StS w2 B X t' most last v' (o ++ [UInt8.ofNat s]) p1 p2 p3 p4) (hkp : Kept B w1 w2) :
    AtSym B X most w0 w2 t' last (o ++ [UInt8.ofNat s]) v' p1 p2 p3 p4 cl cd ∧ 8 * X.size - bitOf B w2 < 8 * X.size - bitOf B w1 := by
  have h := hs.lt
  rw [total_size] at h
  refine ⟨⟨hst, h.2.2, by rw [List.length_append]; exact hm, hA.fixed.kept hkp, hA.below.trans hkp.below, hA.tl.kept hkp, hA.td.kept hkp, hA.okl, hA.okd, fun r hr => hA.run r (.syPut last cl cd t o s t' r hs h256 hm hr)⟩, ?_⟩
  rw [bitOf_box hst.rd, bitOf_box hA.st.rd]
  omega
theorem Rep.lim {X : ByteArray} {most t s t' : Nat} {cd : Cd} {o o' : List UInt8} (h : Rep X.data.toList most cd t s o (.good t' o')) : t ≤ t' ∧ t' ≤ 8 * X.size ∧ o'.length ≤ most := by
  generalize hr : Res.good t' o' = r at h
  cases h <;> first | cases hr | skip
  rename_i x k t2 y h hl hd hk hf hb hm
  have h1 := hd.lt
  have h2 := num_lim hf
  refine ⟨by omega, h2, ?_⟩
  rw [again_len]
  exact hm
theorem AtSym.reps (hA : AtSym B X most w0 w1 t last o v p1 p2 p3 p4 cl cd) {s t' t2 : Nat} {o2 : List UInt8} {v' : Value} (hs : SymR cl X.data.toList t (.inr (s, t'))) (h256 : 256 < s) (hp : Rep X.data.toList most cd t' s o (.good t2 o2)) (hst : StS w2 B X t2 most last v' o2 p1 p2 p3 p4) (hkp : Kept B w1 w2) :
    AtSym B X most w0 w2 t2 last o2 v' p1 p2 p3 p4 cl cd ∧ 8 * X.size - bitOf B w2 < 8 * X.size - bitOf B w1 := by
  have h := hs.lt
  rw [total_size] at h
  have h2 := hp.lim
  refine ⟨⟨hst, h2.2.1, h2.2.2, hA.fixed.kept hkp, hA.below.trans hkp.below, hA.tl.kept hkp, hA.td.kept hkp, hA.okl, hA.okd, fun r hr => hA.run r (.syRep last cl cd t o s t' t2 o2 r hs h256 hp hr)⟩, ?_⟩
  rw [bitOf_box hst.rd, bitOf_box hA.st.rd]
  omega
end
end Go.Proofs.YtlmeoahcpmikiaaGreatDoor
namespace Go.Proofs.YtlmeoahcpmikiaaGreatDoor
open Go.RowKit
theorem OwnB.cell {w : World} {B : Nat} {v : Value} {l : List UInt8} (h : OwnB w B v l) (hn : 0 < l.length) : ∃ g cap, v = .slice (some ⟨g, 0, none⟩) l.length cap ∧ B ≤ g ∧ g < w.heap.size ∧ ∀ j (hj : j < l.length), w.cell? ⟨g, j, none⟩ = some (.int .u8 (l[j].toNat : Int)) := by
  have h' := h
  rcases h.2 with ⟨_, h0⟩ | ⟨g, cap, cur, hv, hg, hc, hr⟩
  · omega
  · subst hv
    refine ⟨g, cap, rfl, hg, (Array.getElem?_eq_some_iff.1 hc).1, fun j hj => ?_⟩
    have := World.ownsRow.cells h' (g := g) rfl j (.int .u8 (l[j].toNat : Int)) (bytesV_at l j hj)
    rw [Addr.add_lit, Nat.zero_add] at this
    exact this
theorem i64_small (n : Int) (h0 : -1000000000000 ≤ n) (h1 : n < 1000000000000) : IntKind.i64.wrap n = n := by
  rw [IntKind.wrap_i64]; omega
theorem again_next (o : List UInt8) (d n : Nat) (h0 : 0 < d) (hd : d ≤ o.length) : ∃ h : (again o d n).length - d < (again o d n).length, again o d (n + 1) = again o d n ++ [(again o d n)[(again o d n).length - d]] := by
  have hl := again_len o d n
  refine ⟨by omega, ?_⟩
  rw [again, List.getElem?_eq_getElem (by omega)]
  rfl
set_option maxHeartbeats 4000000 in
set_option maxRecDepth 100000 in
theorem repeat_any (B : Nat) (X : ByteArray) (t l s most : Nat) (last : Bool) (v : Value) (o : List UInt8) (p1 p2 p3 p4 : Value) (cd : Cd) (w : World) (hS : StS w B X t most last v o p1 p2 p3 p4) (hc : cd.Ok) (hT : TabQ w B p2 cd) (hX : X.size ≤ 1000000) (hl : t + l = 8 * X.size) (hm : most ≤ 65536) (ho : o.length ≤ most) (hs : 256 < s) (hs2 : s ≤ 320) :
    Calls Tryz.prog 289 #[.pointer (some ⟨B + 1, 0, none⟩), .int .i64 (s : Int)] w fun e w' => ∃ r, Rep X.data.toList most cd t s o r ∧ StepPost B X most last p1 p2 p3 p4 r w e w' := by
  obtain ⟨i0, hi, hz0, hz1, hz2⟩ := info5_parts
  have HS := hidM hS
  have HT := hidM hT
  have HLL := hidM hl
  have HL := hidM (readLength_any (B + 1) B X t l s w hS.box.c0 hS.rd (by omega) hl (by omega) hs2)
  clear hS hT hl
  go_enter Tryz.func289, Tryz.ntmps289
  go_wp2_with fail
  refine HL.out.mono ?_
  rintro _ w1 ⟨hp, ho1⟩
  have HO1 := hidM ho1
  have HK1 : Hid (Kept B w w1) := ho1.kept
  clear ho1
  rcases hp with ⟨h1, rfl⟩ | ⟨h1, h2, y, rfl⟩ | ⟨h1, x, h2, hx, rfl, h3⟩
  · have HR : Hid (Rep X.data.toList most cd t s o (.bad 3)) := .high h1
    clear h1
    go_wp2
    go_ret
    exact ⟨_, HR.out, by decide, rfl, HK1.out.below⟩
  · have HR : Hid (Rep X.data.toList most cd t s o (.bad 6)) := .len6 h1 h2
    clear h1 h2
    go_wp2
    go_ret
    exact ⟨_, HR.out, by decide, rfl, HK1.out.below⟩
  · have HNX := hidM h2
    have HS1 := hidM (HS.out.read h3 HO1.out)
    have HT1 := hidM (HT.out.kept HK1.out)
    have hle := lenOf_le (s := s) (by omega) h1
    have htl : t + (lenOf s).2 ≤ 8 * X.size := by
      have h := h2
      unfold num at h
      rw [total_size] at h
      split at h
      · assumption
      · cases h
    have HD := hidM (readDistance_any B X (t + (lenOf s).2) (8 * X.size - (t + (lenOf s).2)) most last v o p1 p2 p3 p4 cd w1 HS1.out hc HT1.out hX (by omega))
    have HRB : Hid (∀ r, (∀ e, SymR cd X.data.toList (t + (lenOf s).2) (.inl e) → r = .bad e → Rep X.data.toList most cd t s o r)) := fun r e hsym hr => by rw [hr]; exact .dist x e h1 h2 hsym
    clear h2 h3 HO1 HS HT htl
    obtain ⟨LN, hLN⟩ : ∃ LN, LN = (lenOf s).1 + x := ⟨_, rfl⟩
    have hLN1 : LN ≤ 300 := by omega
    have HLN := hidM hLN
    rw [← hLN]
    clear hLN hle
    go_wp2_with fail
    refine HD.out.mono ?_
    rintro _ w2 ⟨hp, ho2⟩
    have HO2 := hidM ho2
    have HK2 : Hid (Kept B w w2) := HK1.out.trans ho2.kept
    clear ho2
    rcases hp with ⟨n, hsym, hn0, y, rfl⟩ | ⟨k, t2, hsym, hk, y, rfl⟩ | ⟨k, t2, hsym, hk, hnone, y, rfl⟩ | ⟨k, t2, dx, hsym, hk, hsome, hdx, rfl, hrd⟩
    · have HR := hidM (HRB.out (.bad n) n hsym rfl)
      have e0 : ((n : Int) == 0) = false := by simp; omega
      clear hsym
      go_wp2
      go_ret
      exact ⟨_, HR.out, hn0, rfl, HK2.out.below⟩
    · have HR : Hid (Rep X.data.toList most cd t s o (.bad 3)) := .dhigh x k t2 h1 HNX.out hsym hk
      clear hsym
      go_wp2
      go_ret
      exact ⟨_, HR.out, by decide, rfl, HK2.out.below⟩
    · have HR : Hid (Rep X.data.toList most cd t s o (.bad 6)) := .dist6 x k t2 h1 HNX.out hsym hk hnone
      clear hsym hnone
      go_wp2
      go_ret
      exact ⟨_, HR.out, by decide, rfl, HK2.out.below⟩
    · have hdl := distOf_le hk
      obtain ⟨DD, hDD⟩ : ∃ DD, DD = (distOf k).1 + dx := ⟨_, rfl⟩
      have hD0 : 0 < DD := by omega
      have hD1 : DD ≤ 40000 := by omega
      have HDD := hidM hDD
      have HSM := hidM hsym
      have HSO := hidM hsome
      have HS2 := hidM (HS1.out.read hrd HO2.out)
      rw [← hDD]
      clear hDD hdl hsym hsome hrd HO2 HD HS1
      obtain ⟨a, cp, rfl⟩ := HS2.out.own.shape
      have c1 := HS2.out.box.c1
      by_cases hfar : o.length < DD
      · have e0 : (o.length : Int) < (DD : Int) := by omega
        have HR : Hid (Rep X.data.toList most cd t s o (.bad 3)) := .far x k t2 dx h1 HNX.out HSM.out hk HSO.out (by have := HDD.out; omega)
        go_wp2
        go_ret
        exact ⟨_, HR.out, by decide, rfl, HK2.out.below⟩
      · have e0 : ¬ (o.length : Int) < (DD : Int) := by omega
        by_cases hbig : most < o.length + LN
        · have e1 : ((most - o.length : Nat) : Int) < (LN : Int) := by omega
          have HR : Hid (Rep X.data.toList most cd t s o (.bad 2)) := .big x k t2 dx h1 HNX.out HSM.out hk HSO.out (by have := HDD.out; omega) (by have := HLN.out; omega)
          go_wp2_with fail
          refine (room_any (B + 1) B most a o.length cp p1 p2 p3 p4 last w2 HS2.out.box hm ho).mono ?_
          rintro _ w3 ⟨rfl, m3, rfl⟩
          obtain ⟨rm, hrm⟩ : ∃ rm, rm = most - o.length := ⟨_, rfl⟩
          rw [← hrm]
          rw [← hrm] at e1
          clear hrm
          go_wp2
          go_ret
          exact ⟨_, HR.out, by decide, rfl, HK2.out.below.trans (below_drewN (Below.refl _ _) m3)⟩
        · have e1 : ¬ ((most - o.length : Nat) : Int) < (LN : Int) := by omega
          have HR : Hid (Rep X.data.toList most cd t s o (.good (t2 + (distOf k).2) (again o DD LN))) := by
            have h := Rep.good (X := X.data.toList) (most := most) (cd := cd) (t := t) (s := s) (o := o) x k t2 dx h1 HNX.out HSM.out hk HSO.out (by have := HDD.out; omega) (by have := HLN.out; omega)
            rw [← HDD.out, ← HLN.out] at h
            exact h
          go_wp2_with fail
          refine (room_any (B + 1) B most a o.length cp p1 p2 p3 p4 last w2 HS2.out.box hm ho).mono ?_
          rintro _ w3 ⟨rfl, m3, rfl⟩
          obtain ⟨rm, hrm⟩ : ∃ rm, rm = most - o.length := ⟨_, rfl⟩
          rw [← hrm]
          rw [← hrm] at e1
          have eb : decide (rm < LN) = false := by simp; omega
          clear hrm
          have HS3 : Hid (StS (w2.drewN m3) B X (t2 + (distOf k).2) most last (.slice a o.length cp) o p1 p2 p3 p4) := ⟨HS2.out.rd, HS2.out.box, HS2.out.own⟩
          have HK3 : Hid (Kept B w (w2.drewN m3)) := ⟨HK2.out.below.trans (below_drewN (Below.refl _ _) m3), HK2.out.keep⟩
          generalize w2.drewN m3 = w3 at *
          generalize t2 + (distOf k).2 = T3 at *
          clear HS2 HK2 c1 HSM HSO HDD HLN HNX HRB
          go_wp2
          go_loopw [37] (fun iv wr => ∃ (j : Nat) (u : Value), j ≤ LN ∧ iv = .int .i64 j ∧ StS wr B X T3 most last u (again o DD j) p1 p2 p3 p4 ∧ Kept B w wr) (fun i _ => LN - (intOf i).toNat)
          case atStart => exact ⟨0, _, Nat.zero_le _, rfl, HS3.out, HK3.out⟩
          case round =>
            obtain ⟨j, u, hj, rfl, hst, hkp⟩ := hrel
            have HST := hidM hst
            have HKP := hidM hkp
            clear hst hkp HS3 HK3
            by_cases hlt : j < LN
            · have kk : (j : Int) < (LN : Int) := by omega
              obtain ⟨hpl, hag⟩ := again_next o DD j hD0 (by omega)
              have hal := again_len o DD j
              have HAG := hidM hag
              clear hag
              obtain ⟨g, cap, rfl, hgB, hgl, hcell⟩ := HST.out.own.cell (by omega)
              have hcp := hcell _ hpl
              generalize (again o DD j)[(again o DD j).length - DD] = cc at *
              generalize again o DD j = oo at *
              obtain ⟨pp, hpp⟩ : ∃ pp, pp = oo.length - DD := ⟨_, rfl⟩
              rw [← hpp] at hcp
              have e2 : (oo.length : Int) - (DD : Int) = (pp : Int) := by omega
              have e3 : (pp : Int) < (oo.length : Int) := by omega
              have c1 := HST.out.box.c1
              have hB1 := HST.out.box.lt
              have n1 := World.new_ne wr _ c1
              have n2 := World.new_ne wr _ hcp
              have k1 : ∀ ob, (wr.alloc ob).cell? ⟨B + 1, 1, none⟩ = some (.slice (some ⟨g, 0, none⟩) oo.length cap) := fun ob => (World.cell?_alloc_some wr _ ob (by rw [c1]; rfl)).trans c1
              have k2 : ∀ ob, (wr.alloc ob).cell? ⟨g, pp, none⟩ = some (.int .u8 (cc.toNat : Int)) := fun ob => (World.cell?_alloc_some wr _ ob (by rw [hcp]; rfl)).trans hcp
              have HOW := hidM HST.out.own
              have h65 : oo.length ≤ 70000 := by omega
              have ew : IntKind.i64.wrap (pp : Int) = (pp : Int) := i64_small (pp : Int) (by omega) (by omega)
              clear hcell hpp hpl hal
              have HBL : Hid (∀ ob, Below wr.heap.size wr (wr.drew.alloc ob)) := fun ob => by
                have h := (Below.refl wr.heap.size wr).alloc (Nat.le_refl _) ob
                exact ⟨h.os, h.tape, h.output, h.size, h.block⟩
              go_wp2
              go_region_law ((refine step_append_lies _ rfl (.tmp 43) (.tmp 57) 74 (by rfl) (B + 2) 5 i0 (.int .u8 0) 1 1 Tryz.underlying74 hi hz0 hz1 hz2 rfl (by decide) (.slice (some ⟨g, 0, none⟩) oo.length cap) oo.length (bytesV oo) (by rfl) (World.ownsRow.alloc HOW.out _) ⟨wr.heap.size, 0, none⟩ 1 1 [.int .u8 (cc.toNat : Int)] (by rfl) (by rfl) (World.news_of_block (heap_alloc_new _ _)) (by intro u hu; simp at hu; subst hu; rfl) (by decide) (by unfold maxLen; omega) (by omega) (by simp; omega) (wr.heap.size + 1) (by simp) ?_; intro g2 cap2 w5 hown hgrow hat hlt5; obtain ⟨⟨q0, q1⟩, hst5, hkp5⟩ := HST.out.grow (l := [cc]) (HBL.out _) hgrow hown; have HS5 := hidM hst5; have HK5 : Hid (Kept B w _) := HKP.out.trans hkp5; clear hown hgrow hat hlt5 hst5 hkp5))
              all_goals
                clear c1 k1 k2 n1 n2 q0 q1
                generalize w5.setCell ⟨B + 1, 1, none⟩ (.slice (some ⟨g2, 0, none⟩) (oo.length + 1) cap2) = w6 at *
                go_wp2
                go_roundw
                case rel => exact ⟨j + 1, _, by omega, by go_num, by rw [HAG.out]; exact HS5.out, HK5.out⟩
                case measure => (show LN - ((j : Int) + 1).toNat < LN - ((j : Int)).toNat); omega
            · obtain rfl : j = LN := by omega
              go_wp2
              go_ret
              exact ⟨_, HR.out, rfl, _, HST.out, HKP.out⟩
end Go.Proofs.YtlmeoahcpmikiaaGreatDoor

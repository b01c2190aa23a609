/-
  Walks of inflate: from block to block, from symbol to symbol.
-/
import Derived.Test.YtkckobhpanghiaaDoorFixC
import Derived.Test.YtkckobhpanghiaaDoorInfG
import Derived.Test.YtkckobhpanghiaaDoorJump
import Derived.WalkMore
namespace Go.Proofs.YtkckobhpanghiaaDoor
open Go.RowKit

/-- how a stream's reading answers -/
def ReadPostS (B : Nat) (X : ByteArray) (most : Nat) (w : World) (e : Ending) (w' : World) : Prop :=
  (∃ n : Nat, n ≠ 0 ∧ Run X.data.toList most (.blk false) 0 [] (.bad n) ∧ e = .returned (.int .i64 (n : Int)) ∧ Below B w w') ∨
  (∃ t o v p1 p2 p3 p4, Run X.data.toList most (.blk false) 0 [] (.good t o) ∧ t ≤ 8 * X.size ∧ o.length ≤ most ∧ e = .returned (.int .i64 0) ∧ StS w' B X t most true v o p1 p2 p3 p4 ∧ Below B w w')
/-- ahead of a block -/
structure AtBlk (B : Nat) (X : ByteArray) (most : Nat) (w0 w : World) (t : Nat) (last : Bool) (o : List UInt8) (v p1 p2 p3 p4 : Value) : Prop where
  st : StS w B X t most last v o p1 p2 p3 p4
  lim : t ≤ 8 * X.size
  out : o.length ≤ most
  fixed : FixedQ w B p3 p4
  below : Below B w0 w
  run : ∀ r, Run X.data.toList most (.blk last) t o r → Run X.data.toList most (.blk false) 0 [] r
/-- among a block's symbols -/
structure AtSym (B : Nat) (X : ByteArray) (most : Nat) (w0 w : World) (t : Nat) (last : Bool) (o : List UInt8) (v p1 p2 p3 p4 : Value) (cl cd : Cd) : Prop where
  st : StS w B X t most last v o p1 p2 p3 p4
  lim : t ≤ 8 * X.size
  out : o.length ≤ most
  fixed : FixedQ w B p3 p4
  below : Below B w0 w
  tl : TabQ w B p1 cl
  td : TabQ w B p2 cd
  okl : cl.Ok
  okd : cd.Ok
  run : ∀ r, Run X.data.toList most (.sym last cl cd) t o r → Run X.data.toList most (.blk false) 0 [] r
def frR (B : Nat) (a : Act) : Prop := ∃ u3 u4 u5 u6 u7 u8 u9 u10 u11 u12 u13 u14 u15 u16 u17 u18 u19 u20 u21 u22 u23 u24 u25 u26 u27 u28 u29 u30 u31 u32 u33 u34 u35 u36 u37 u38 u39 u40 u41 u42 u43 u44 u45 u46 u47 u48 u49 u50 u51 u52 u53 u54 u55 u56 u57 u58 u59 u60 u61 u62 u63 u64 u65 u66 : Value, a = { tmps := #[.pointer (some ⟨B + 1, 0, none⟩), undef, .int .i64 0, u3, u4, u5, u6, u7, u8, u9, u10, u11, u12, u13, u14, u15, u16, u17, u18, u19, u20, u21, u22, u23, u24, u25, u26, u27, u28, u29, u30, u31, u32, u33, u34, u35, u36, u37, u38, u39, u40, u41, u42, u43, u44, u45, u46, u47, u48, u49, u50, u51, u52, u53, u54, u55, u56, u57, u58, u59, u60, u61, u62, u63, u64, u65, u66], defers := [] }
def jumpR (B : Nat) (X : ByteArray) (most : Nat) (w0 : World) (l : Nat) (a : Act) (w : World) : Prop :=
  match l with
  | 0 => frR B a ∧ ∃ t last o v p1 p2 p3 p4, AtBlk B X most w0 w t last o v p1 p2 p3 p4
  | 1 => frR B a ∧ ∃ t last o v p1 p2 p3 p4 cl cd, AtSym B X most w0 w t last o v p1 p2 p3 p4 cl cd
  | _ => False
def bitOf (B : Nat) (w : World) : Nat := match w.cell? ⟨B, 1, none⟩ with
  | some (.int _ q) => q.toNat
  | _ => 0
theorem bitOf_box {B : Nat} {w : World} {X : ByteArray} {t : Nat} (h : RBox w B X t) : bitOf B w = t := by
  unfold bitOf
  rw [h.taken]
  rfl

theorem wp_scope_many2 {P : Program} {a : Act} {w : World} {Q : Exit → Act → World → Prop} {c : Code} (J : Nat → Act → World → Prop) (μ : Nat → Act → World → Nat)
    (first : (∀ l rest a w, findLabel c l = some rest → J l a w → rest.wp P (jumpN (fun l a w => (findLabel c l).isSome = true ∧ J l a w) Q) a w) → c.wp P (jumpN (fun l a w => (findLabel c l).isSome = true ∧ J l a w) Q) a w)
    (pass : ∀ l rest a w, findLabel c l = some rest → J l a w → rest.wp P (jumpN (fun l' a' w' => (findLabel c l').isSome = true ∧ J l' a' w' ∧ μ l' a' w' < μ l a w) Q) a w) : (Code.scope c).wp P Q a w :=
  wp_scope_many J μ (first fun l rest a w hf hJ => wp_mono (pass l rest a w hf hJ) (fun e a w h => by cases e <;> first | exact h | exact ⟨h.1, h.2.1⟩)) pass
theorem num_lim {X : ByteArray} {t n x : Nat} (h : num X.data.toList t n = some x) : t + n ≤ 8 * X.size := by
  unfold num at h
  rw [total_size] at h
  split at h
  · assumption
  · cases h
section
variable {B : Nat} {X : ByteArray} {most : Nat} {w0 w1 w2 : World} {t : Nat} {last : Bool} {o : List UInt8} {v p1 p2 p3 p4 : Value}
theorem AtBlk.stored (hA : AtBlk B X most w0 w1 t false o v p1 p2 p3 p4) {x t' : Nat} {o' : List UInt8} {v' : Value} (hn : num X.data.toList t 3 = some x) (hk : x / 2 = 0) (hs : storedR X.data.toList most (t + 3) o = .good t' o')
    (hst : StS w2 B X t' most (x % 2 == 1) v' o' p1 p2 p3 p4) (hkp : Kept B w1 w2) : AtBlk B X most w0 w2 t' (x % 2 == 1) o' v' p1 p2 p3 p4 ∧ 8 * X.size - bitOf B w2 < 8 * X.size - bitOf B w1 := by
  have h := stored_mono hs
  rw [total_size] at h
  refine ⟨⟨hst, h.2.1, h.2.2, hA.fixed.kept hkp, hA.below.trans hkp.below, fun r hr => hA.run r (.st t o x t' o' r hn hk hs hr)⟩, ?_⟩
  rw [bitOf_box hst.rd, bitOf_box hA.st.rd]
  have := num_lim hn
  omega
theorem AtBlk.fixd (hA : AtBlk B X most w0 w1 t false o v p1 p2 p3 p4) {x : Nat} {q1 q2 : Value} (hn : num X.data.toList t 3 = some x) (hk : x / 2 = 1)
    (hst : StS w2 B X (t + 3) most (x % 2 == 1) v o q1 q2 q1 q2) (h1 : TabQ w2 B q1 fixLit) (h2 : TabQ w2 B q2 fixDist) (hkp : Kept B w1 w2) : AtSym B X most w0 w2 (t + 3) (x % 2 == 1) o v q1 q2 q1 q2 fixLit fixDist ∧ 8 * X.size - bitOf B w2 < 8 * X.size - bitOf B w1 := by
  have h := num_lim hn
  refine ⟨⟨hst, h, hA.out, .inr ⟨h1, h2⟩, hA.below.trans hkp.below, h1, h2, fixLit_ok, fixDist_ok, fun r hr => hA.run r (.fx t o x r hn hk hr)⟩, ?_⟩
  rw [bitOf_box hst.rd, bitOf_box hA.st.rd]
  omega
theorem AtBlk.dyn (hA : AtBlk B X most w0 w1 t false o v p1 p2 p3 p4) {x t' : Nat} {q1 q2 : Value} {cl cd : Cd} (hn : num X.data.toList t 3 = some x) (hk : x / 2 = 2) (hd : Dyn X.data.toList (t + 3) (.inr (cl, cd, t'))) (ht : t' ≤ 8 * X.size)
    (hst : StS w2 B X t' most (x % 2 == 1) v o q1 q2 p3 p4) (h1 : TabQ w2 B q1 cl) (h2 : TabQ w2 B q2 cd) (hkp : Kept B w1 w2) : AtSym B X most w0 w2 t' (x % 2 == 1) o v q1 q2 p3 p4 cl cd ∧ 8 * X.size - bitOf B w2 < 8 * X.size - bitOf B w1 := by
  obtain ⟨k1, k2, k3⟩ := hd.ok
  refine ⟨⟨hst, ht, hA.out, hA.fixed.kept hkp, hA.below.trans hkp.below, h1, h2, k1, k2, fun r hr => hA.run r (.dy t o x cl cd t' r hn hk hd hr)⟩, ?_⟩
  rw [bitOf_box hst.rd, bitOf_box hA.st.rd]
  omega
variable {cl cd : Cd}
theorem AtSym.ends (hA : AtSym B X most w0 w1 t last o v p1 p2 p3 p4 cl cd) {t' : Nat} (hs : SymR cl X.data.toList t (.inr (256, t'))) (hst : StS w2 B X t' most last v o p1 p2 p3 p4) (hkp : Kept B w1 w2) :
    AtBlk B X most w0 w2 t' last o v p1 p2 p3 p4 ∧ 8 * X.size - bitOf B w2 < 8 * X.size - bitOf B w1 := by
  have h := hs.lt
  rw [total_size] at h
  refine ⟨⟨hst, h.2.2, hA.out, hA.fixed.kept hkp, hA.below.trans hkp.below, fun r hr => hA.run r (.syEnd last cl cd t o t' r hs hr)⟩, ?_⟩
  rw [bitOf_box hst.rd, bitOf_box hA.st.rd]
  omega
theorem AtSym.puts (hA : AtSym B X most w0 w1 t last o v p1 p2 p3 p4 cl cd) {s t' : Nat} {v' : Value} (hs : SymR cl X.data.toList t (.inr (s, t'))) (h256 : s < 256) (hm : o.length + 1 ≤ most) (hst : StS w2 B X t' most last v' (o ++ [UInt8.ofNat s]) p1 p2 p3 p4) (hkp : Kept B w1 w2) :
    AtSym B X most w0 w2 t' last (o ++ [UInt8.ofNat s]) v' p1 p2 p3 p4 cl cd ∧ 8 * X.size - bitOf B w2 < 8 * X.size - bitOf B w1 := by
  have h := hs.lt
  rw [total_size] at h
  refine ⟨⟨hst, h.2.2, by rw [List.length_append]; exact hm, hA.fixed.kept hkp, hA.below.trans hkp.below, hA.tl.kept hkp, hA.td.kept hkp, hA.okl, hA.okd, fun r hr => hA.run r (.syPut last cl cd t o s t' r hs h256 hm hr)⟩, ?_⟩
  rw [bitOf_box hst.rd, bitOf_box hA.st.rd]
  omega
theorem Rep.lim {X : ByteArray} {most t s t' : Nat} {cd : Cd} {o o' : List UInt8} (h : Rep X.data.toList most cd t s o (.good t' o')) : t ≤ t' ∧ t' ≤ 8 * X.size ∧ o'.length ≤ most := by
  generalize hr : Res.good t' o' = r at h
  cases h <;> first | cases hr | skip
  rename_i x k t2 y h hl hd hk hf hb hm
  have h1 := hd.lt
  have h2 := num_lim hf
  refine ⟨by omega, h2, ?_⟩
  rw [again_len]
  exact hm
theorem AtSym.reps (hA : AtSym B X most w0 w1 t last o v p1 p2 p3 p4 cl cd) {s t' t2 : Nat} {o2 : List UInt8} {v' : Value} (hs : SymR cl X.data.toList t (.inr (s, t'))) (h256 : 256 < s) (hp : Rep X.data.toList most cd t' s o (.good t2 o2)) (hst : StS w2 B X t2 most last v' o2 p1 p2 p3 p4) (hkp : Kept B w1 w2) :
    AtSym B X most w0 w2 t2 last o2 v' p1 p2 p3 p4 cl cd ∧ 8 * X.size - bitOf B w2 < 8 * X.size - bitOf B w1 := by
  have h := hs.lt
  rw [total_size] at h
  have h2 := hp.lim
  refine ⟨⟨hst, h2.2.1, h2.2.2, hA.fixed.kept hkp, hA.below.trans hkp.below, hA.tl.kept hkp, hA.td.kept hkp, hA.okl, hA.okd, fun r hr => hA.run r (.syRep last cl cd t o s t' t2 o2 r hs h256 hp hr)⟩, ?_⟩
  rw [bitOf_box hst.rd, bitOf_box hA.st.rd]
  omega
end

end Go.Proofs.YtkckobhpanghiaaDoor

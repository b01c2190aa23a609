/-
  Walks of inflate: the law's own examples.
-/
import Derived.Test.YtkckobhpanghiaaDoorJInfK
namespace Go.Proofs.YtkckobhpanghiaaDoor
open Go.RowKit

theorem InfQ.run {l : List UInt8} {A M t : Nat} {o : List UInt8} {r : List UInt8 × Nat × Nat} (h : InfQ l A M r) (hA : A ≤ l.length) (hM : M ≤ 65536) (hr : Run (l.drop A) M (.blk false) 0 [] (.good t o)) : r = (o, (t + 7) / 8, 0) := by
  rcases h with ⟨h, _⟩ | ⟨A', M', ha, hm, _,_, ⟨n, _, hb, _⟩ | ⟨t', o', hg, _,_, rfl⟩⟩
  · omega
  · obtain rfl : A = A' := by omega
    obtain rfl : M = M' := by omega
    cases hr.det trivial _ hb
  · obtain rfl : A = A' := by omega
    obtain rfl : M = M' := by omega
    cases hr.det trivial _ hg
    rfl
theorem InfQ.runBad {l : List UInt8} {A M n : Nat} {r : List UInt8 × Nat × Nat} (h : InfQ l A M r) (hA : A ≤ l.length) (hM : M ≤ 65536) (hr : Run (l.drop A) M (.blk false) 0 [] (.bad n)) : r = ([], 0, n) := by
  rcases h with ⟨h, _⟩ | ⟨A', M', ha, hm, _,_, ⟨n', _, hb, rfl⟩ | ⟨t', o', hg, _,_,_⟩⟩
  · omega
  · obtain rfl : A = A' := by omega
    obtain rfl : M = M' := by omega
    cases hr.det trivial _ hb
    rfl
  · obtain rfl : A = A' := by omega
    obtain rfl : M = M' := by omega
    cases hr.det trivial _ hg
/-- the first set's order lies in block 0 -/
def GOk (w : World) : Prop := 0 < w.heap.size ∧ ∀ k, k < 19 → w.cell? ⟨0, k, none⟩ = some (.int .i64 (plK k : Int))
theorem GOk.below {w w' : World} (h : GOk w) (hb : Below w.heap.size w w') : GOk w' :=
  ⟨Nat.lt_of_lt_of_le h.1 hb.size, fun k hk => (World.cell?_of_block (w := w) (a := ⟨0, k, none⟩) (hb.block 0 h.1)).trans (h.2 k hk)⟩
set_option maxHeartbeats 1000000 in
set_option maxRecDepth 100000 in
theorem awake_any (w : World) (hG : GOk w) : Calls Tryd.prog 17 #[] w fun e w' => e = .returned (.bool true) ∧ Below w.heap.size w w' := by
  have HG := hidM hG
  clear hG
  go_enter Tryd.func17, Tryd.ntmps17
  go_wp2_with fail
  refine (inflate_any ⟨#[75, 4, 0]⟩ 0 9 w (by decide) HG.out.1 HG.out.2).mono ?_
  rintro _ w1 ⟨⟨r, hq, rfl⟩, hb⟩
  have h1 := InfQ.run (A := 0) (M := 9) hq (by decide) (by decide) awake_a
  subst h1
  have HB1 := hidM hb
  have HG1 := hidM (HG.out.below hb)
  clear hb hq
  go_wp2_with fail
  refine (inflate_any ⟨#[7]⟩ 0 9 w1 (by decide) HG1.out.1 HG1.out.2).mono ?_
  rintro _ w2 ⟨⟨r, hq, rfl⟩, hb⟩
  have h1 := InfQ.runBad (A := 0) (M := 9) hq (by decide) (by decide) awake_7
  subst h1
  have HB2 : Hid (Below w.heap.size w w2) := HB1.out.trans (hb.mono HB1.out.size)
  clear hb hq
  go_wp2
  go_ret
  exact ⟨rfl, HB2.out⟩
end Go.Proofs.YtkckobhpanghiaaDoor

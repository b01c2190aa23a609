/-
  Taken over from another program: RefB.
  Taken over from another program: MakA.
-/
import Derived.Test.YtddoemeellbhaaaGreatDoorJTDltF
namespace Go.Proofs.YtddoemeellbhaaaGreatDoor.Dlt
open Go.RowKit
theorem flL_step {base s : ByteArray} {size k y : Nat} {out : List UInt8} {x : ByteArray} {z er : Nat} (hlt : y < s.size) (hk : s.size ≤ y + k) (hr : inL base s y = (x, z, er)) :
    flL base s size k y out = if er = 0 then (if size < out.length + x.size then ([], 3) else flL base s size (k - 1) z (out ++ x.data.toList)) else ([], er) := by
  obtain ⟨j, rfl⟩ : ∃ j, k = j + 1 := ⟨k - 1, by omega⟩
  rw [flL, if_pos hlt, hr]; rfl
end Go.Proofs.YtddoemeellbhaaaGreatDoor.Dlt
namespace Go.Proofs.YtddoemeellbhaaaGreatDoor.Dlt
open Go.RowKit
theorem Tryz.info5 : (Tryz.prog.info? 5).map (fun i => (i.zero, i.size, i.bytes)) = some (some (.int .u8 0), 1, 1) := by kernel_rfl
/-- The value v owns just these bytes. -/
def OwnB (w : World) (B : Nat) (v : Value) (l : List UInt8) : Prop := w.ownsRow B 5 1 v l.length (Lib.byteCells l)
theorem ownB_nil (w : World) (B : Nat) : OwnB w B (.slice none 0 0) [] := ⟨rfl, .inl ⟨rfl, rfl⟩⟩
theorem OwnB.same {w w' : World} {B : Nat} {v : Value} {l : List UInt8} (h : OwnB w B v l) (hk : ∀ k, B ≤ k → w'.heap[k]? = w.heap[k]?) : OwnB w' B v l := by
  refine ⟨h.1, ?_⟩
  rcases h.2 with h0 | ⟨g, cap, cur, hv, hg, hc, hr⟩
  · exact .inl h0
  · exact .inr ⟨g, cap, cur, hv, hg, by rw [hk g hg]; exact hc, hr⟩
theorem byte_nat (n : Nat) (h : n < 256) : (UInt8.ofNat n).toNat = n := by simp; omega
theorem bcells_snoc (l : List UInt8) (n : Nat) (h : n < 256) : Lib.byteCells l ++ [.int .u8 (n : Int)] = Lib.byteCells (l ++ [UInt8.ofNat n]) := by
  simp only [Lib.byteCells, List.map_append, List.map_cons, List.map_nil, byte_nat n h]
theorem ownB_push {w : World} {B : Nat} {v : Value} {l : List UInt8} {n : Nat} (hn : n < 256) (h : w.ownsRow B 5 1 v (l.length + 1) (Lib.byteCells l ++ [.int .u8 (n : Int)])) : OwnB w B v (l ++ [UInt8.ofNat n]) := by
  unfold OwnB
  rw [← bcells_snoc l n hn, List.length_append]
  exact h
theorem ownB_push_str {w : World} {B : Nat} {v : Value} {l : List UInt8} {s : ByteArray} (h : w.ownsRow B 5 1 v (l.length + s.size) (Lib.byteCells l ++ Lib.strCells s)) : OwnB w B v (l ++ s.data.toList) := by
  unfold OwnB
  rw [← bcells_app, List.length_append]
  have : s.data.toList.length = s.size := by simp
  rw [this]
  exact h
theorem new_byte (w : World) (v : Value) : ∀ j u, [v][j]? = some u → (w.alloc (.cells #[v] 5)).cell? ((⟨w.heap.size, 0, none⟩ : Addr).add j) = some u := by
  intro j u hj
  match j, hj with
  | 0, hj => simp at hj; subst hj; simp [Addr.add]
/-- What a function that puts bytes behind a row leaves behind. -/
def PutPost (B : Nat) (w : World) (l : List UInt8) (e : Ending) (w' : World) : Prop := ∃ v, e = .returned v ∧ OwnB w' B v l ∧ Below B w w'
/-- A size as it is written. -/
def szE (n : Nat) : List UInt8 := if h : n < 128 then [UInt8.ofNat n] else UInt8.ofNat (n % 128 + 128) :: szE (n / 128)
termination_by n
decreasing_by omega
theorem szE_last (n : Nat) (h : n < 128) : szE n = [UInt8.ofNat n] := by rw [szE, dif_pos h]
set_option maxRecDepth 100000 in
theorem szE_more (n : Nat) (h : ¬ n < 128) : szE n = UInt8.ofNat (n % 128 + 128) :: szE (n / 128) := by rw [szE, dif_neg h]
set_option maxHeartbeats 1000000 in
set_option maxRecDepth 100000 in
theorem appendSize_any (B : Nat) (v : Value) (l : List UInt8) (n : Nat) (w : World) (h : OwnB w B v l) (hB : B ≤ w.heap.size) (hl : l.length ≤ 1000) (hn : n ≤ 1000000) :
    Calls Tryz.prog 62 #[v, .int .i64 (n : Int)] w fun e w' => PutPost B w (l ++ szE n) e w' := by
  obtain ⟨i0, hi, hz0, hz1, hz2⟩ := info_parts Tryz.info5
  go_enter Tryz.func62, Tryz.ntmps62
  go_wp2
  go_loopw [0, 1] (fun x y wr => ∃ (k m : Nat) (l' : List UInt8), k + m ≤ n ∧ l'.length ≤ 1000 + k ∧ y = .int .i64 (m : Int) ∧ OwnB wr B x l' ∧ Below B w wr ∧ l ++ szE n = l' ++ szE m) (fun _ y _ => (intOf y).toNat)
  case atStart => exact ⟨0, n, l, by omega, hl, rfl, h, Below.refl _ _, rfl⟩
  case round =>
    obtain ⟨k, m, l', hk, hl', rfl, hO, hBl, hE⟩ := hrel
    have HO : Hid (wr.ownsRow B 5 1 u0 l'.length (Lib.byteCells l')) := hO
    have HB := hidM hBl
    have HE := hidM hE
    clear hO hBl hE h
    by_cases hm : 128 ≤ m
    · have hm' : (128 : Int) ≤ m := by omega
      obtain ⟨q, hq⟩ : ∃ q, q = m % 128 := ⟨_, rfl⟩
      obtain ⟨r, hr⟩ : ∃ r, r = m / 128 := ⟨_, rfl⟩
      obtain ⟨c, hc⟩ : ∃ c, c = q + 128 := ⟨_, rfl⟩
      have hq' : (m : Int).tmod 128 = (q : Int) := by rw [Int.tmod_eq_emod_of_nonneg (by omega)]; omega
      have hr' : (m : Int) / 128 = (r : Int) := by omega
      have hc' : (q : Int) + 128 = (c : Int) := by omega
      have c256 : c < 256 := by omega
      have hrm : r < m := by omega
      have HE2 := hidM (show l ++ szE n = (l' ++ [UInt8.ofNat c]) ++ szE r by rw [HE.out, szE_more m (by omega), hc, hq, hr]; simp)
      clear hq hr hc HE
      have hsz : B ≤ wr.heap.size := Nat.le_trans hB HB.out.size
      go_wp2_with (first
        | (at_builtin; go_loud (refine wpList_append_own _ rfl _ _ 81 rfl B 5 i0 (.int .u8 0) 1 1 Tryz.underlying81 hi hz0 hz1 hz2 rfl (by decide) _ _ _ rfl (World.ownsRow.alloc HO.out _) ⟨wr.heap.size, 0, none⟩ 1 1 [.int .u8 (c : Int)] ?c0 rfl ?c1 ?c2 ?c3 ?c4 ?c5 ?_)))
      try (case c0 => rfl)
      try (case c1 => exact new_byte wr _)
      case c2 => first | rfl | (intro u hu; simp at hu; subst hu; rfl)
      case c3 => unfold maxLen; skip; first | omega | (simp; omega)
      case c4 => skip; first | omega | (simp; omega)
      case c5 => have := hsz; first | omega | (simp; omega)
      intro v' w6 hown hgr _
      have HB6 := hidM ((HB.out.alloc hsz _).grown hgr (by have := hsz; simp; omega) (fun q hq => (World.ownsRow.lt HO.out q hq).1))
      have HO6 := hidM (ownB_push (l := l') (n := c) c256 hown)
      clear hown hgr
      go_wp2
      refine ⟨⟨k + 1, r, l' ++ [UInt8.ofNat c], by omega, by rw [List.length_append]; simp; omega, rfl, HO6.out, HB6.out, HE2.out⟩, ?_⟩
      simp [intOf]; omega
    · have hm' : ¬ (128 : Int) ≤ m := by omega
      have hmw : m % 256 = m := by omega
      have m256 : m < 256 := by omega
      have HE2 := hidM (show l ++ szE n = l' ++ [UInt8.ofNat m] by rw [HE.out, szE_last m (by omega)])
      have hsz : B ≤ wr.heap.size := Nat.le_trans hB HB.out.size
      clear HE
      go_wp2_with (first
        | (at_builtin; go_loud (refine wpList_append_own _ rfl _ _ 81 rfl B 5 i0 (.int .u8 0) 1 1 Tryz.underlying81 hi hz0 hz1 hz2 rfl (by decide) _ _ _ rfl (World.ownsRow.alloc HO.out _) ⟨wr.heap.size, 0, none⟩ 1 1 [.int .u8 (m : Int)] ?c0 rfl ?c1 ?c2 ?c3 ?c4 ?c5 ?_)))
      try (case c0 => rfl)
      try (case c1 => exact new_byte wr _)
      case c2 => first | rfl | (intro u hu; simp at hu; subst hu; rfl)
      case c3 => unfold maxLen; skip; first | omega | (simp; omega)
      case c4 => skip; first | omega | (simp; omega)
      case c5 => have := hsz; first | omega | (simp; omega)
      intro v' w6 hown hgr _
      have HB6 := hidM ((HB.out.alloc hsz _).grown hgr (by have := hsz; simp; omega) (fun q hq => (World.ownsRow.lt HO.out q hq).1))
      have HO6 := hidM (ownB_push (l := l') (n := m) m256 hown)
      clear hown hgr
      go_wp2
      go_ret
      exact ⟨v', rfl, by rw [HE2.out]; exact HO6.out, HB6.out⟩
/-- The two texts have n bytes in common from their beginnings on, and no more. -/
def Alike (a b : ByteArray) (n : Nat) : Prop := ∃ (h1 : n ≤ a.size) (h2 : n ≤ b.size), (∀ i (h : i < n), a[i] = b[i]) ∧ ∀ (h3 : n < a.size) (h4 : n < b.size), a[n] ≠ b[n]
def SoFar (a b : ByteArray) (n : Nat) : Prop := ∃ (h1 : n ≤ a.size) (h2 : n ≤ b.size), ∀ i (h : i < n), a[i] = b[i]
theorem Alike.one {a b : ByteArray} {n m : Nat} (h : Alike a b n) (k : Alike a b m) : n = m := by
  obtain ⟨h1, h2, h3, h4⟩ := h
  obtain ⟨k1, k2, k3, k4⟩ := k
  rcases Nat.lt_trichotomy n m with hl | hl | hl
  · exact absurd (k3 n hl) (h4 (by omega) (by omega))
  · exact hl
  · exact absurd (h3 m hl) (k4 (by omega) (by omega))
theorem SoFar.some {a b : ByteArray} : ∀ (d k : Nat), a.size ≤ k + d → SoFar a b k → ∃ n, Alike a b n
  | 0, k, hd, ⟨h1, h2, h3⟩ => ⟨k, h1, h2, h3, fun h _ => absurd h (by omega)⟩
  | d + 1, k, hd, ⟨h1, h2, h3⟩ => by
    by_cases hx : ∃ (h4 : k < a.size) (h5 : k < b.size), a[k] = b[k]
    · obtain ⟨h4, h5, h6⟩ := hx
      refine SoFar.some d (k + 1) (by omega) ⟨by omega, by omega, fun i hi => ?_⟩
      by_cases hik : i = k
      · subst hik; exact h6
      · exact h3 i (by omega)
    · exact ⟨k, h1, h2, h3, fun h4 h5 h6 => hx ⟨h4, h5, h6⟩⟩
theorem alike_some (a b : ByteArray) : ∃ n, Alike a b n := SoFar.some a.size 0 (by omega) ⟨Nat.zero_le _, Nat.zero_le _, fun i h => absurd h (by omega)⟩
noncomputable def alk (a b : ByteArray) : Nat := Classical.choose (alike_some a b)
theorem alk_spec (a b : ByteArray) : Alike a b (alk a b) := Classical.choose_spec (alike_some a b)
def AlikePost (a b : ByteArray) (w : World) (e : Ending) (w' : World) : Prop := e = .returned (.int .i64 ((alk a b : Nat) : Int)) ∧ ∃ m, w' = w.drewN m
set_option maxRecDepth 100000 in
theorem alikePost {a b : ByteArray} {w w' : World} {n m : Nat} (h : Alike a b n) (hw : w' = w.drewN m) : AlikePost a b w (.returned (.int .i64 (n : Int))) w' := ⟨by rw [h.one (alk_spec a b)], m, hw⟩
set_option maxHeartbeats 1000000 in
set_option maxRecDepth 100000 in
theorem alike_any (a b : ByteArray) (w : World) (ha : a.size ≤ 1000000) (_hb : b.size ≤ 1000000) :
    Calls Tryz.prog 64 #[.string a, .string b] w fun e w' => AlikePost a b w e w' := by
  go_enter Tryz.func64, Tryz.ntmps64
  go_wp2
  go_loopw [5] (fun x wr => ∃ (k m : Nat), SoFar a b k ∧ x = .int .i64 (k : Int) ∧ wr = w.drewN m) (fun x _ => a.size - (intOf x).toNat)
  case atStart => exact ⟨0, 0, ⟨Nat.zero_le _, Nat.zero_le _, fun i h => absurd h (by omega)⟩, rfl, rfl⟩
  case round =>
    obtain ⟨k, m, hS, rfl, rfl⟩ := hrel
    have HS := hidM hS
    obtain ⟨k1, k2, _⟩ := hS
    by_cases h1 : k < a.size
    · have h1' : (k : Int) < a.size := by omega
      by_cases h2 : k < b.size
      · have h2' : (k : Int) < b.size := by omega
        obtain ⟨x, hx⟩ : ∃ x, (a[k].toNat : Int) = (x : Nat) := ⟨_, rfl⟩
        obtain ⟨y, hy⟩ : ∃ y, (b[k].toNat : Int) = (y : Nat) := ⟨_, rfl⟩
        by_cases hxy : x = y
        · subst hxy
          have HE := hidM (show a[k] = b[k] from UInt8.toNat_inj.1 (by omega))
          go_wp2
          go_quiet (fail)
          go_wp2
          refine ⟨⟨k + 1, _, ⟨by omega, by omega, ?_⟩, by go_num, by first | rfl | rw [World.drewN_drewN]⟩, ?_⟩
          · intro i hi
            by_cases hik : i = k
            · subst hik; exact HE.out
            · exact HS.out.2.2 i (by omega)
          · simp [intOf]; omega
        · have HE := hidM (show a[k] ≠ b[k] from fun h => hxy (by rw [h] at hx; omega))
          have hxy' : ¬ (x : Int) = y := by omega
          go_wp2
          go_quiet (fail)
          go_wp2
          go_ret
          exact alikePost ⟨k1, k2, HS.out.2.2, fun _ _ => HE.out⟩ (World.drewN_drewN ..)
      · have h2' : ¬ (k : Int) < b.size := by omega
        go_wp2
        go_quiet (fail)
        go_wp2
        go_ret
        exact alikePost ⟨k1, k2, HS.out.2.2, fun _ h => absurd h h2⟩ (World.drewN_drewN ..)
    · have h1' : ¬ (k : Int) < a.size := by omega
      go_wp2
      go_quiet (fail)
      go_wp2
      go_ret
      exact alikePost ⟨k1, k2, HS.out.2.2, fun h _ => absurd h h1⟩ (World.drewN_drewN ..)
/-- The two texts have n bytes in common from their ends back. -/
def Back (a b : ByteArray) (n : Nat) : Prop := ∃ (h1 : n ≤ a.size) (h2 : n ≤ b.size), ∀ i (h : i < n), a[a.size - 1 - i] = b[b.size - 1 - i]
def BackM (a b : ByteArray) (n : Nat) : Prop := Back a b n ∧ ∀ (h3 : n < a.size) (h4 : n < b.size), a[a.size - 1 - n] ≠ b[b.size - 1 - n]
theorem BackM.one {a b : ByteArray} {n m : Nat} (h : BackM a b n) (k : BackM a b m) : n = m := by
  obtain ⟨⟨h1, h2, h3⟩, h4⟩ := h
  obtain ⟨⟨k1, k2, k3⟩, k4⟩ := k
  rcases Nat.lt_trichotomy n m with hl | hl | hl
  · exact absurd (k3 n hl) (h4 (by omega) (by omega))
  · exact hl
  · exact absurd (h3 m hl) (k4 (by omega) (by omega))
theorem Back.some {a b : ByteArray} : ∀ (d k : Nat), a.size ≤ k + d → Back a b k → ∃ n, BackM a b n
  | 0, k, hd, ⟨h1, h2, h3⟩ => ⟨k, ⟨h1, h2, h3⟩, fun h _ => absurd h (by omega)⟩
  | d + 1, k, hd, ⟨h1, h2, h3⟩ => by
    by_cases hx : ∃ (h4 : k < a.size) (h5 : k < b.size), a[a.size - 1 - k] = b[b.size - 1 - k]
    · obtain ⟨h4, h5, h6⟩ := hx
      refine Back.some d (k + 1) (by omega) ⟨by omega, by omega, fun i hi => ?_⟩
      by_cases hik : i = k
      · subst hik; exact h6
      · exact h3 i (by omega)
    · exact ⟨k, ⟨h1, h2, h3⟩, fun h4 h5 h6 => hx ⟨h4, h5, h6⟩⟩
theorem back_some (a b : ByteArray) : ∃ n, BackM a b n := Back.some a.size 0 (by omega) ⟨Nat.zero_le _, Nat.zero_le _, fun i h => absurd h (by omega)⟩
noncomputable def bck (a b : ByteArray) : Nat := Classical.choose (back_some a b)
theorem bck_spec (a b : ByteArray) : BackM a b (bck a b) := Classical.choose_spec (back_some a b)
def BackPost (a b : ByteArray) (w : World) (e : Ending) (w' : World) : Prop := e = .returned (.int .i64 ((bck a b : Nat) : Int)) ∧ ∃ m, w' = w.drewN m
set_option maxRecDepth 100000 in
theorem backPost {a b : ByteArray} {w w' : World} {n m : Nat} (h : BackM a b n) (hw : w' = w.drewN m) : BackPost a b w (.returned (.int .i64 (n : Int))) w' := ⟨by rw [h.one (bck_spec a b)], m, hw⟩
set_option maxHeartbeats 1000000 in
set_option maxRecDepth 100000 in
theorem back_any (a b : ByteArray) (w : World) (ha : a.size ≤ 1000000) (hb : b.size ≤ 1000000) :
    Calls Tryz.prog 63 #[.string a, .string b] w fun e w' => BackPost a b w e w' := by
  go_enter Tryz.func63, Tryz.ntmps63
  go_wp2
  go_loopw [5] (fun x wr => ∃ (k m : Nat), Back a b k ∧ x = .int .i64 (k : Int) ∧ wr = w.drewN m) (fun x _ => a.size - (intOf x).toNat)
  case atStart => exact ⟨0, 0, ⟨Nat.zero_le _, Nat.zero_le _, fun i h => absurd h (by omega)⟩, rfl, rfl⟩
  case round =>
    obtain ⟨k, m, hS, rfl, rfl⟩ := hrel
    have HS := hidM hS
    obtain ⟨k1, k2, _⟩ := hS
    by_cases h1 : k < a.size
    · have h1' : (k : Int) < a.size := by omega
      by_cases h2 : k < b.size
      · have h2' : (k : Int) < b.size := by omega
        obtain ⟨p, hp⟩ : ∃ p, p = a.size - 1 - k := ⟨_, rfl⟩
        obtain ⟨q, hq⟩ : ∃ q, q = b.size - 1 - k := ⟨_, rfl⟩
        have hp' : (a.size : Int) - 1 - k = (p : Int) := by omega
        have hq' : (b.size : Int) - 1 - k = (q : Int) := by omega
        have pa : p < a.size := by omega
        have qb : q < b.size := by omega
        obtain ⟨x, hx⟩ : ∃ x, (a[p].toNat : Int) = (x : Nat) := ⟨_, rfl⟩
        obtain ⟨y, hy⟩ : ∃ y, (b[q].toNat : Int) = (y : Nat) := ⟨_, rfl⟩
        have HPQ := hidM (And.intro hp hq)
        clear hp hq
        by_cases hxy : x = y
        · subst hxy
          have HE := hidM (show a[p] = b[q] from UInt8.toNat_inj.1 (by omega))
          go_wp2
          go_quiet (fail)
          go_wp2
          refine ⟨⟨k + 1, _, ⟨by omega, by omega, ?_⟩, by go_num, by first | rfl | rw [World.drewN_drewN]⟩, ?_⟩
          · intro i hi
            by_cases hik : i = k
            · subst hik
              have := HE.out
              obtain ⟨e1, e2⟩ := HPQ.out
              subst e1 e2
              exact this
            · exact HS.out.2.2 i (by omega)
          · simp [intOf]; omega
        · have hxy' : ¬ (x : Int) = y := by omega
          have HNE := hidM (show ∀ (h3 : k < a.size) (h4 : k < b.size), a[a.size - 1 - k] ≠ b[b.size - 1 - k] by
            intro h3 h4 h5
            obtain ⟨e1, e2⟩ := HPQ.out
            subst e1 e2
            rw [h5] at hx
            omega)
          go_wp2
          go_quiet (fail)
          go_wp2
          go_ret
          exact backPost ⟨HS.out, HNE.out⟩ (World.drewN_drewN ..)
      · have h2' : ¬ (k : Int) < b.size := by omega
        go_wp2
        go_quiet (fail)
        go_wp2
        go_ret
        exact backPost ⟨HS.out, fun _ h => absurd h h2⟩ (World.drewN_drewN ..)
    · have h1' : ¬ (k : Int) < a.size := by omega
      go_wp2
      go_quiet (fail)
      go_wp2
      go_ret
      exact backPost ⟨HS.out, fun h _ => absurd h h1⟩ (World.drewN_drewN ..)
end Go.Proofs.YtddoemeellbhaaaGreatDoor.Dlt

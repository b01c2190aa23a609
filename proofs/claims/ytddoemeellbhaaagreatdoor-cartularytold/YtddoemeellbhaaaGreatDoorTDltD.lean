/-
  Taken over from another program: DltD.
-/
import Derived.Test.YtddoemeellbhaaaGreatDoorJShelB
namespace Go.Proofs.YtddoemeellbhaaaGreatDoor.Dlt
open Go.RowKit
/-- Of the blocks below B only b has turned. -/
structure But (b B : Nat) (w w' : World) : Prop where
  os : w'.os = w.os
  tape : w'.tape = w.tape
  output : w'.output = w.output
  size : w.heap.size ≤ w'.heap.size
  block : ∀ k, k < B → k ≠ b → w'.heap[k]? = w.heap[k]?
theorem But.refl (b B : Nat) (w : World) : But b B w w := ⟨rfl, rfl, rfl, Nat.le_refl _, fun _ _ _ => rfl⟩
theorem But.trans {b B : Nat} {u v w : World} (h : But b B u v) (k : But b B v w) : But b B u w :=
  ⟨k.os.trans h.os, k.tape.trans h.tape, k.output.trans h.output, Nat.le_trans h.size k.size, fun n h1 h2 => (k.block n h1 h2).trans (h.block n h1 h2)⟩
theorem Below.but {B : Nat} {w w' : World} (h : Below B w w') (b : Nat) : But b B w w' := ⟨h.os, h.tape, h.output, h.size, fun k h1 _ => h.block k h1⟩
theorem Only.but {b : Nat} {w w' : World} (h : Only b w w') (B : Nat) : But b B w w' := ⟨h.os, h.tape, h.output, by rw [h.size]; exact Nat.le_refl _, fun k _ h2 => h.block k h2⟩
theorem But.drewN {b B : Nat} {w w' : World} (h : But b B w w') (n : Nat) : But b B w (w'.drewN n) := ⟨h.os, h.tape, h.output, h.size, h.block⟩
theorem But.below {b B C : Nat} {w w' : World} (h : But b B w w') (hC : C ≤ B) (hb : C ≤ b) : Below C w w' :=
  ⟨h.os, h.tape, h.output, h.size, fun k hk => h.block k (by omega) (by omega)⟩
theorem builder_keep {T e : TypeId} {B b : Nat} {bs : List Value} {w w' : World} (h : Lib.IsBuilder T e B b bs w) (hk : ∀ k, B ≤ k → w'.heap[k]? = w.heap[k]?) : Lib.IsBuilder T e B b bs w' := by
  have one : ∀ p, Lib.BuilderAt T e B b p bs w → Lib.BuilderAt T e B b p bs w' := by
    rintro p ⟨hB, v, hb, hown, hne⟩
    refine ⟨hB, v, by rw [hk b hB]; exact hb, ⟨hown.1, ?_⟩, hne⟩
    rcases hown.2 with h | ⟨g, cap, cur, h1, h2, h3, h4⟩
    · exact .inl h
    · exact .inr ⟨g, cap, cur, h1, h2, by rw [hk g h2]; exact h3, h4⟩
  rcases h with h | h
  · exact .inl (one _ h)
  · exact .inr (one _ h)
/-- What the instructions from place t on bring out behind out: the text, the error's number; at most k more. -/
def flL (base s : ByteArray) (size : Nat) : (k t : Nat) → (out : List UInt8) → List UInt8 × Nat
  | 0, _, out => if out.length < size then ([], 6) else (out, 0)
  | k + 1, t, out =>
    if t < s.size then
      if (inL base s t).2.2 = 0 then
        if size < out.length + (inL base s t).1.size then ([], 3) else flL base s size k (inL base s t).2.1 (out ++ (inL base s t).1.data.toList)
      else ([], (inL base s t).2.2)
    else if out.length < size then ([], 6) else (out, 0)
theorem flL_end (base s : ByteArray) (size k t : Nat) (out : List UInt8) (h : ¬ t < s.size) : flL base s size k t out = if out.length < size then ([], 6) else (out, 0) := by
  cases k with
  | zero => rfl
  | succ k => rw [flL, if_neg h]
theorem inL_pos (base s : ByteArray) (t : Nat) (h : (inL base s t).2.2 = 0) : t < (inL base s t).2.1 ∧ (inL base s t).2.1 ≤ s.size := by
  by_cases ht : t < s.size
  · have hp := nbL_le s s[t].toNat 4 0 0 (t + 1) (by omega)
    have hpg := nbL_ge s s[t].toNat 4 0 0 (t + 1)
    have hl := nbL_le s (s[t].toNat / 16) 3 0 0 _ hp
    have hlg := nbL_ge s (s[t].toNat / 16) 3 0 0 (nbL s s[t].toNat 4 0 0 (t + 1)).2.1
    revert h
    unfold inL
    rw [dif_pos ht]
    split
    · intro h; simp at h
    · split
      · split
        · intro _; simp only; omega
        · intro h; simp at h
      · simp only
        generalize nbL s s[t].toNat 4 0 0 (t + 1) = p at *
        generalize nbL s (s[t].toNat / 16) 3 0 0 p.2.1 = l at *
        split
        · rename_i h1
          have := hpg h1
          split
          · rename_i h2
            have := hlg h2
            generalize (if l.1 = 0 then 65536 else l.1) = n
            by_cases hx : base.size < p.1 + n
            · rw [if_pos hx]; intro h; simp at h
            · rw [if_neg hx]; intro _; simp only; omega
          · rename_i h2; intro h; exact absurd h h2
        · rename_i h2; intro h; exact absurd h h2
  · unfold inL at h; rw [dif_neg ht] at h; simp at h
theorem inL_size (base s : ByteArray) (t : Nat) : (inL base s t).1.size ≤ base.size + s.size := by
  unfold inL
  split
  · split
    · exact Nat.zero_le _
    · split
      · split
        · simp only [ByteArray.size_extract]; omega
        · exact Nat.zero_le _
      · simp only
        generalize nbL s s[t].toNat 4 0 0 (t + 1) = p at *
        generalize nbL s (s[t].toNat / 16) 3 0 0 p.2.1 = l at *
        generalize (if l.1 = 0 then 65536 else l.1) = n
        split
        · split
          · by_cases hx : base.size < p.1 + n
            · rw [if_pos hx]; exact Nat.zero_le _
            · rw [if_neg hx]; simp only [ByteArray.size_extract]; omega
          · exact Nat.zero_le _
        · exact Nat.zero_le _
  · exact Nat.zero_le _
theorem bcells_app (out : List UInt8) (s : ByteArray) : Lib.byteCells out ++ Lib.strCells s = Lib.byteCells (out ++ s.data.toList) := by
  simp [Lib.byteCells, Lib.strCells]
theorem blen (B b : Nat) (out : List UInt8) (o : Nat) (w : World) (h : Lib.IsBuilder 140 5 B b (Lib.byteCells out) w) (ho : out.length = o) :
    Calls Tryz.prog 118 #[.pointer (some ⟨b, 0, none⟩)] w fun e w' => e = .returned (.int .i64 (o : Int)) ∧ w' = w := by
  have h1 := Tryz.Builder_Len B b _ w h
  rw [Lib.byteCells_length, ho] at h1
  exact h1
theorem bwrite (B b : Nat) (out : List UInt8) (s : ByteArray) (w : World) (h : Lib.IsBuilder 140 5 B b (Lib.byteCells out) w) (hlen : out.length + s.size ≤ 140737488355328) (hBw : B ≤ w.heap.size) :
    Calls Tryz.prog 119 #[.pointer (some ⟨b, 0, none⟩), .string s] w fun e w' => e = .returned (.tuple #[.int .i64 s.size, .nilIface]) ∧ (Lib.IsBuilder 140 5 B b (Lib.byteCells (out ++ s.data.toList)) w' ∧ Below B w w') := by
  refine (Tryz.Builder_WriteString B b _ s w h (by rw [Lib.byteCells_length]; exact hlen) hBw).mono ?_
  rintro e w' ⟨rfl, h1, h2⟩
  rw [bcells_app] at h1
  exact ⟨rfl, .inr h1, h2⟩
/-- What follow leaves behind. -/
def FolPost (b : Nat) (w : World) (r : List UInt8 × Nat) (e : Ending) (w' : World) : Prop :=
  But b w.heap.size w w' ∧ if r.2 = 0 then e = .returned (.string ⟨r.1.toArray⟩) else e = gave r.2
set_option maxHeartbeats 1600000 in
set_option maxRecDepth 20000 in
theorem follow_any (b : Nat) (base s : ByteArray) (t size : Nat) (w : World) (h : RBox w b s t) (hs : s.size ≤ 1000000) (hbs : base.size ≤ 1000000) (ht : t ≤ s.size) (hz : size ≤ 100000000000) :
    Calls Tryz.prog 72 #[.pointer (some ⟨b, 0, none⟩), .string base, .int .i64 (size : Int)] w fun e w' => FolPost b w (flL base s size (s.size - t) t []) e w' := by
  obtain ⟨B, hB⟩ : ∃ B, B = w.heap.size := ⟨_, rfl⟩
  have hbB : b < B := by rw [hB]; exact h.lt
  go_enter Tryz.func72, Tryz.ntmps72
  go_wp2_with fail
  go_loopw [8] (fun _ wr => ∃ (y k : Nat) (out : List UInt8), y ≤ s.size ∧ s.size ≤ y + k ∧ out.length ≤ size ∧ RBox wr b s y ∧ But b B w wr ∧ Lib.IsBuilder 140 5 B B (Lib.byteCells out) wr ∧ B < wr.heap.size ∧ flL base s size (s.size - t) t [] = flL base s size k y out) (fun _ wr => s.size - (intOf ((wr.cell? ⟨b, 1, none⟩).getD undef)).toNat)
  case atStart =>
    refine ⟨t, s.size - t, [], ht, by omega, Nat.zero_le _, h.same (Below.heap_alloc w _ b h.lt), Below.but ((Below.refl B w).alloc (by omega) _) b, .inl ⟨Nat.le_refl _, .slice none 0 0, by rw [hB]; exact heap_alloc_new w _, ⟨rfl, .inl ⟨rfl, rfl⟩⟩, by simp [Value.ownBlock]⟩, by rw [hB]; exact (Array.getElem?_eq_some_iff.1 (heap_alloc_new w _)).1, rfl⟩
  case round =>
    obtain ⟨y, k, out, hy, hk, hout, hR, hO, hI, hBs, he⟩ := hrel
    have h1 := hR.text
    have h2 := hR.taken
    have HO := hidM hO
    have HI := hidM hI
    have HE := hidM he
    have HK := hidM hk
    have HR := hidM hR
    rw [← hB]
    have HBB := hidM hB
    clear hO hI he hk hR hB h
    by_cases hlt : y < s.size
    · have hlt' : (y : Int) < s.size := by omega
      go_wp2
      go_quiet (fail)
      go_wp2_with fail
      refine (instruction_any b base s y (wr.drewN nq) (HR.out.drewN _) (by omega) hlt).mono ?_
      intro e w1 hP
      obtain ⟨hO1, hP⟩ := hP
      have hpos := inL_pos base s y
      have hsz := inL_size base s y
      have hfl : flL base s size k y out = if (inL base s y).2.2 = 0 then (if size < out.length + (inL base s y).1.size then ([], 3) else flL base s size (k - 1) (inL base s y).2.1 (out ++ (inL base s y).1.data.toList)) else ([], (inL base s y).2.2) := by
        obtain ⟨j, rfl⟩ : ∃ j, k = j + 1 := ⟨k - 1, by have := HK.out; omega⟩
        rw [flL, if_pos hlt]; rfl
      generalize inL base s y = r at *
      obtain ⟨x, z, er⟩ := r
      have O1 := hidM (HO.out.trans ((((Only.refl b wr).drewN nq).trans hO1).but B))
      have I1 := hidM (builder_keep HI.out (fun k hk => (hO1.block k (by omega))))
      have S1 : B < w1.heap.size := by have := hO1.size; rw [this]; exact hBs
      clear HO hO1
      by_cases her : er = 0
      · rw [if_pos her] at hP hfl
        obtain ⟨rfl, hR1⟩ := hP
        have hpos := hpos her
        simp only at hR1 hpos hsz hfl
        have HR1 := hidM hR1
        have HP0 := hidM hpos
        have HFL := hidM (HE.out.trans hfl)
        clear HE hfl hR1 h1 h2
        obtain ⟨o, ho⟩ : ∃ o, out.length = o := ⟨_, rfl⟩
        have hxo : x.size ≤ 2000000 := by omega
        go_wp2_with fail
        refine (blen B B out o w1 I1.out ho).mono ?_
        rintro e w2 ⟨rfl, rfl⟩
        rw [ho] at HFL hout
        have HOO := hidM ho
        clear ho hpos hsz
        by_cases hx : size < o + x.size
        · have hx' : (size : Int) - o < x.size := by omega
          go_wp2
          refine ⟨rfl, by rw [← HBB.out]; exact O1.out, ?_⟩
          rw [HFL.out, if_pos hx]
          rfl
        · have hx' : ¬ (size : Int) - o < x.size := by omega
          go_wp2_with fail
          refine (bwrite B B out x _ I1.out (by rw [HOO.out]; omega) (by omega)).mono ?_
          rintro e w3 ⟨rfl, hI2, hBl⟩
          have I2 := hidM hI2
          have O2 := hidM (O1.out.trans (Below.but hBl b))
          have R2 := hidM (HR1.out.below hBl hbB)
          have S2 : B < w3.heap.size := Nat.lt_of_lt_of_le S1 hBl.size
          clear hI2 hBl
          go_wp2
          have hpos := HP0.out
          have hk := HK.out
          refine ⟨⟨z, k - 1, out ++ x.data.toList, hpos.2, by omega, ?_, R2.out, O2.out, I2.out, S2, ?_⟩, ?_⟩
          · rw [List.length_append, HOO.out]; have := x.size_data; simp; omega
          · rw [HFL.out, if_neg hx]
          · rw [R2.out.taken, HR.out.taken]
            simp [intOf]; omega
      · rw [if_neg her] at hP hfl
        subst hP
        unfold gave
        go_wp2
        refine ⟨rfl, by rw [← HBB.out]; exact O1.out, ?_⟩
        rw [HE.out, hfl]
        exact (if_neg her).mpr rfl
    · have hlt' : ¬ (y : Int) < s.size := by omega
      have hfl := hidM (HE.out.trans (flL_end base s size k y out hlt))
      go_wp2
      go_quiet (fail)
      obtain ⟨o, ho⟩ : ∃ o, out.length = o := ⟨_, rfl⟩
      have HOO := hidM ho
      have I1 := hidM (builder_keep (w' := wr.drewN nq) HI.out (fun k _ => rfl))
      have O1 := hidM (HO.out.drewN nq)
      have S1 : B ≤ (wr.drewN nq).heap.size := Nat.le_of_lt hBs
      rw [ho] at hout hfl
      clear ho HO HI HR h1 h2
      go_wp2_with fail
      refine (blen B B out o _ I1.out HOO.out).mono ?_
      rintro e w2 ⟨rfl, rfl⟩
      by_cases hx : o < size
      · have hx' : (o : Int) < size := by omega
        go_wp2
        refine ⟨rfl, by rw [← HBB.out]; exact O1.out, ?_⟩
        rw [hfl.out, if_pos hx]
        rfl
      · have hx' : ¬ (o : Int) < size := by omega
        go_wp2_with fail
        refine (Tryz.Builder_String_any B B out _ I1.out S1).mono ?_
        rintro e w2 ⟨rfl, hBl⟩
        have O2 := hidM (O1.out.trans (Below.but hBl b))
        clear hBl
        go_wp2
        go_ret
        refine ⟨by rw [← HBB.out]; exact O2.out, ?_⟩
        rw [hfl.out, if_neg hx]
        exact (if_pos rfl).mpr rfl
end Go.Proofs.YtddoemeellbhaaaGreatDoor.Dlt

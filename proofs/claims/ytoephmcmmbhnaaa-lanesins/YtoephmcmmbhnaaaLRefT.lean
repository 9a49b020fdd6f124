/-
  THE DOCUMENT's OWN Test AND Between; twin, large.
-/
import Derived.Test.YtoephmcmmbhnaaaLRefP
import Derived.Test.YtoephmcmmbhnaaaLLike
namespace Go.Proofs.Ytoephmcmmbhnaaa.Ln
open Go.RowKit Go.Sort

theorem infoBool : (Try.prog.info? 4).map (fun i => (i.zero, i.size, i.bytes)) = some (some (.bool false), 1, 1) := by kernel_rfl
def bvals (n : Nat) (f : Nat → Bool) : List Value := (List.range n).map fun j => .bool (f j)
theorem bvals_len (n : Nat) (f : Nat → Bool) : (bvals n f).length = n := by simp [bvals]
theorem bvals_snoc (n : Nat) (f : Nat → Bool) : bvals n f ++ [.bool (f n)] = bvals (n + 1) f := by simp [bvals, List.range_succ]
/-- A row of bools of the call's own. -/
def OwnB (w : World) (B : Nat) (v : Value) (n : Nat) (f : Nat → Bool) : Prop := w.ownsRow B 4 1 v n (bvals n f)
theorem OwnB.nil (w : World) (B : Nat) (f : Nat → Bool) : OwnB w B (.slice none 0 0) 0 f := ⟨by simp [bvals], .inl ⟨rfl, rfl⟩⟩
theorem OwnB.form {w : World} {B : Nat} {v : Value} {n : Nat} {f : Nat → Bool} (h : OwnB w B v n f) : ∃ a0 c, v = .slice a0 n c ∧ BNums w a0 n f := by
  rcases h.2 with ⟨rfl, h0⟩ | ⟨g, cap, cur, hv, hb, hg, hn, hm, hs, ht⟩
  · have h1 : n = 0 := by simpa using h0
    subst h1
    exact ⟨none, 0, rfl, fun j hj => by omega⟩
  · refine ⟨_, cap, hv, fun j hj => ⟨g, 0, rfl, (Array.getElem?_eq_some_iff.1 hg).1, ?_⟩⟩
    have e1 : (bvals n f)[j]? = some (.bool (f j)) := by simp [bvals, hj]
    rw [← ht, List.getElem?_take, if_pos (by omega)] at e1
    simp only [Nat.zero_add]
    simp [World.cell?, hg]
    simpa using e1
theorem run_oneB {w : World} {B : Nat} {v : Value} {n : Nat} {f : Nat → Bool} (ho : OwnB w B v n f) (hb : n ≤ 16777216) (hB : B ≤ w.heap.size) (x : Bool) (hx : x = f n) :
    ∃ g c w', (Builtin.append_ #[36, 36] 36 #[v, .slice (some ⟨w.heap.size, 0, none⟩) 1 1]).run Try.prog (w.alloc (.cells #[.bool x] 4)) = .ok (.slice (some ⟨g, 0, none⟩) (n + 1) c) w' ∧ OwnB w' B (.slice (some ⟨g, 0, none⟩) (n + 1) c) (n + 1) f ∧ Below B w w' := by
  subst hx
  obtain ⟨i0, hi0, hz0, hz1, hz2⟩ := info_parts infoBool
  have ho2 : (w.alloc (.cells #[.bool (f n)] 4)).ownsRow B 4 1 v n (bvals n f) := World.ownsRow.alloc ho _
  obtain ⟨g, c, w', hr, h1, h2, _, _⟩ := run_append_lies (P := Try.prog) (w.alloc (.cells #[.bool (f n)] 4)) 36 36 B 4 i0 (.bool false) 1 1 Try.underlying36 hi0 hz0 hz1 hz2 rfl (by decide) v n _ ho2 ⟨w.heap.size, 0, none⟩ 1 1 [.bool (f n)] rfl (cell_one_new _ _ _) (by simp [Value.oneCell']) (by omega) (by simp [maxLen]; omega) (by omega) (by simp; omega) _ rfl
  rw [bvals_snoc] at h1
  exact ⟨g, c, w', hr, h1, ((Below.refl B w).alloc hB _).grown h2 (by simp; omega) (fun j hj => (World.ownsRow.lt ho j hj).1)⟩

/-- A reference's answer: bools and an error. -/
def BAns (w : World) (E : Int) (n : Nat) (f : Nat → Bool) (e : Ending) (w' : World) : Prop :=
  Below w.heap.size w w' ∧ ((E ≠ 0 ∧ e = .returned (.tuple #[.slice none 0 0, .int .i64 E])) ∨ (E = 0 ∧ ∃ a0 c, e = .returned (.tuple #[.slice a0 n c, .int .i64 0]) ∧ BNums w' a0 n f))

set_option maxHeartbeats 400000 in
theorem twin_any (a0 : Option Addr) (n c : Nat) (B : Nat → Nat) (w : World) (hn : n ≤ 140737488351232) (hN : Nums w .u8 a0 n B) (ha : a0 = none → n = 0 ∧ c = 0) :
    Calls Try.prog 20 #[.slice a0 n c] w fun e w' => ∃ a1 c1, e = .returned (.slice a1 n c1) ∧ n ≤ c1 ∧ c1 ≤ maxLen ∧ Nums w' .u8 a1 n B ∧ Below w.heap.size w w' := by
  obtain ⟨v', w', hr, hO, hg, hv⟩ := run_many (t := 31) (ty := 31) (B := w.heap.size) Try.underlying31 infoU8 (Own.nil w w.heap.size 5 .u8 B) hN ha (by omega) (by omega) (Nat.le_refl _)
  have HO : Hid (Own w' w.heap.size 5 .u8 v' n B) := by
    have h2 : Own w' w.heap.size 5 .u8 v' n (cat 0 B B) := by simpa using hO
    exact h2.ext fun j _ => by unfold cat; simp
  have HB : Hid (Below w.heap.size w w') := (Below.refl _ w).grown hg (Nat.le_refl _) (fun k hk => by simp [Value.ownBlock] at hk)
  have HR : Hid ((Builtin.append_ #[31, 31] 31 #[.slice none 0 0, .slice a0 n c]).run Try.prog w = .ok v' w') := hr
  clear hO hg hv hr
  go_enter Try.func20, Try.ntmps20
  go_wp2_with (at_builtin; refine wpList_app (by rfl) (by rfl) HR.out ?_)
  go_ret
  obtain ⟨a1, c1, rfl, h1, h2, _⟩ := HO.out.form
  exact ⟨a1, c1, rfl, h1, h2, HO.out.nums, HB.out⟩

set_option maxHeartbeats 400000 in
theorem large_any (n : Int) (w : World) : Calls Try.prog 17 #[.int .i64 n] w fun e w' => e = .returned (.bool (decide (1048576 < n) && decide (n ≤ 16777216))) ∧ w' = w := by
  cases h0 : decide (1048576 < n) <;> cases h1 : decide (n ≤ 16777216)
  all_goals
    go_enter Try.func17, Try.ntmps17
    go_wp2
    go_ret
    exact ⟨by simp, rfl⟩

set_option maxHeartbeats 1000000 in
set_option maxRecDepth 20000 in
theorem refTest_any (a0 : Option Addr) (nb c : Nat) (B : Nat → Nat) (width n op : Int) (cc : Nat) (w : World) (hA : PArg w a0 nb c B) :
    Calls Try.prog 18 #[.slice a0 nb c, .int .i64 width, .int .i64 n, .int .i64 op, .int .u64 (cc : Int)] w (BAns w (tE nb B width n op) n.toNat (fun i => standsB op (laneOf (bitB B) width.toNat i) cc)) := by
  have HF : Hid (∀ W, Below w.heap.size w W → Calls Try.prog 39 #[.slice a0 nb c, .int .i64 width, .int .i64 n] W fun e w' => e = .returned (.int .i64 (pfE nb B width n)) ∧ w' = W) := fun W hW => refFault_any a0 nb c B width n W hA.small hA.byte hA.out (hA.nums.later hW)
  by_cases hf : pfE nb B width n = 0
  · obtain ⟨k, m, rfl, rfl, hk, hm, hs, h0⟩ := pfE_ok hf
    rw [hf] at HF
    by_cases ho : op < 1 ∨ 6 < op
    · have e : tE nb B (k : Int) (m : Int) op = 2 := by unfold tE; rw [if_neg (by simpa using hf), if_pos ho]
      rw [e]
      clear hA e hf hs h0
      rcases ho with h | h
      · have hd : decide (op < 1) = true := by simpa using h
        go_enter Try.func18, Try.ntmps18
        go_wp2_with (go_at_call 39; refine (HF.out _ (Below.refl _ _)).mono ?_; rintro e wz ⟨rfl, hwz⟩; subst wz)
        go_ret2
        exact ⟨Below.refl _ _, .inl ⟨by omega, rfl⟩⟩
      · have hd : decide (op < 1) = false := by simp; omega
        have hd2 : decide (6 < op) = true := by simpa using h
        go_enter Try.func18, Try.ntmps18
        go_wp2_with (go_at_call 39; refine (HF.out _ (Below.refl _ _)).mono ?_; rintro e wz ⟨rfl, hwz⟩; subst wz)
        go_ret2
        exact ⟨Below.refl _ _, .inl ⟨by omega, rfl⟩⟩
    · have e : tE nb B (k : Int) (m : Int) op = 0 := by unfold tE; rw [if_neg (by simpa using hf), if_neg ho]
      rw [e]
      simp only [Int.toNat_natCast]
      have hd : decide (op < 1) = false := by simp; omega
      have hd2 : decide (6 < op) = false := by simp; omega
      have HNB : Hid (∀ W, Below w.heap.size w W → Calls Try.prog 40 #[.slice a0 nb c, .int .i64 (k : Int), .int .i64 (m : Int)] W fun e w' => ∃ v, e = .returned v ∧ Own w' W.heap.size 22 .u64 v m (laneOf (bitB B) k) ∧ Below W.heap.size W w') := fun W hW => refNumbers_any a0 nb c k m B W hA.byte hA.out (hA.nums.later hW) hk hm
      have HST : Hid (∀ (a : Nat) W, Calls Try.prog 31 #[.int .u64 (a : Int), .int .i64 op, .int .u64 (cc : Int)] W fun e w' => e = .returned (.bool (standsB op a cc)) ∧ w' = W) := fun a W => refStands_any a cc op W
      clear hA e hf hs h0 ho
      go_enter Try.func18, Try.ntmps18
      go_wp2_with (first
        | (go_at_call 39; refine (HF.out _ (Below.refl _ _)).mono ?_; rintro e wz ⟨rfl, hwz⟩; subst wz)
        | (go_at_call 40; refine (HNB.out _ (Below.refl _ _)).mono ?_; rintro e w1 ⟨v, rfl, hO, hb1⟩; obtain ⟨a1, c1, rfl, hc1, hc2, _⟩ := hO.form))
      have HNM : Hid (Nums w1 .u64 a1 m (laneOf (bitB B) k)) := hO.nums
      have HB1 : Hid (Below w.heap.size w w1) := hb1
      have hsz1 := hb1.size
      clear hO hb1
      go_loopw [13, 15] (fun v ix wr => ∃ i : Nat, i ≤ m ∧ ix = .int .i64 i ∧ Hid (OwnB wr w1.heap.size v i (fun i => standsB op (laneOf (bitB B) k i) cc) ∧ Below w1.heap.size w1 wr)) (fun _ ix _ => m - (intOf ix).toNat)
      case atStart => exact ⟨0, Nat.zero_le _, rfl, OwnB.nil _ _ _, Below.refl _ _⟩
      case round =>
        obtain ⟨i, hi, rfl, HI⟩ := hrel
        obtain ⟨hO, hB⟩ := HI.out
        by_cases hlt : i < m
        · obtain ⟨g0, o0, rfl, hg0, hc0⟩ := HNM.out i hlt
          have hcell : wr.cell? ⟨g0, o0 + i, none⟩ = some (.int .u64 (laneOf (bitB B) k i : Int)) := (hB.cell (p := ⟨g0, o0 + i, none⟩) hg0).trans hc0
          obtain ⟨g, c', w2, hr2, hO2, hB2⟩ := run_oneB hO (by omega) hB.size (standsB op (laneOf (bitB B) k i) cc) rfl
          have HR2 : Hid ((Builtin.append_ #[36, 36] 36 #[u13, .slice (some ⟨wr.heap.size, 0, none⟩) 1 1]).run Try.prog (wr.alloc (.cells #[.bool (standsB op (laneOf (bitB B) k i) cc)] 4)) = .ok (.slice (some ⟨g, 0, none⟩) (i + 1) c') w2) := hr2
          have HO2 : Hid (OwnB w2 w1.heap.size (.slice (some ⟨g, 0, none⟩) (i + 1) c') (i + 1) (fun i => standsB op (laneOf (bitB B) k i) cc) ∧ Below w1.heap.size w1 w2) := ⟨hO2, hB.trans hB2⟩
          have HS2 : Hid (∀ W, Calls Try.prog 31 #[.int .u64 (laneOf (bitB B) k i : Int), .int .i64 op, .int .u64 (cc : Int)] W fun e w' => e = .returned (.bool (standsB op (laneOf (bitB B) k i) cc)) ∧ w' = W) := fun W => HST.out _ W
          have hbi : (i : Int) < (m : Int) := by omega
          clear hO hB hO2 hB2 hr2 HI hc0
          generalize standsB op (laneOf (bitB B) k i) cc = z at *
          generalize laneOf (bitB B) k i = y at *
          go_wp2_with (first | (go_at_call 31; refine (HS2.out _).mono ?_; rintro e wz ⟨rfl, hwz⟩; subst wz) | (at_builtin; refine wpList_app (by rfl) (by rfl) HR2.out ?_))
          exact ⟨⟨i + 1, by omega, by go_num, HO2.out⟩, by simp [intOf]; omega⟩
        · obtain rfl : i = m := by omega
          obtain ⟨a2, c2, rfl, hbn⟩ := hO.form
          have HE : Hid (BNums wr a2 i (fun i => standsB op (laneOf (bitB B) k i) cc) ∧ Below w.heap.size w wr) := ⟨hbn, below_on HB1.out hB⟩
          clear hO hB HI hbn
          go_wp2
          go_ret2
          exact ⟨HE.out.2, .inr ⟨rfl, a2, c2, rfl, HE.out.1⟩⟩
  · have e : tE nb B width n op = pfE nb B width n := by unfold tE; rw [if_pos hf]
    rw [e]
    have HNE : Hid (pfE nb B width n ≠ 0) := hf
    have hne : (pfE nb B width n != 0) = true := by simpa using hf
    clear hA e hf
    generalize pfE nb B width n = E at *
    go_enter Try.func18, Try.ntmps18
    go_wp2_with (go_at_call 39; refine (HF.out _ (Below.refl _ _)).mono ?_; rintro e wz ⟨rfl, hwz⟩; subst wz)
    go_ret2
    exact ⟨Below.refl _ _, .inl ⟨HNE.out, rfl⟩⟩
end Go.Proofs.Ytoephmcmmbhnaaa.Ln

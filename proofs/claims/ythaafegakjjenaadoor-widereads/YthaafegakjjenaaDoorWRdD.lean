/-
  The document's Read.
-/
import Derived.Test.YthaafegakjjenaaDoorWTxt
import Derived.Test.YthaafegakjjenaaDoorWRef14
import Derived.Test.YthaafegakjjenaaDoorBackWalk
import Derived.Deep.Cut
namespace Go.Proofs.YthaafegakjjenaaDoor
open Go.RowKit Wd

/-- The number that digits are. -/
def vN (l : List UInt8) : Nat := l.foldl (fun v c => v * 10 + (c.toNat - 48)) 0
theorem vN_snoc (l : List UInt8) (c : UInt8) : vN (l ++ [c]) = vN l * 10 + (c.toNat - 48) := by simp [vN]
def digB (c : UInt8) : Prop := 48 ≤ c.toNat ∧ c.toNat ≤ 57
theorem vN_lt {l : List UInt8} (h : ∀ c ∈ l, digB c) : vN l < 10 ^ l.length := by
  obtain ⟨k, hk⟩ : ∃ k, l.length = k := ⟨_, rfl⟩
  induction k generalizing l with
  | zero => rw [List.eq_nil_of_length_eq_zero hk]; decide
  | succ k ih =>
    obtain ⟨r, c, rfl⟩ : ∃ r c, l = r ++ [c] := ⟨l.dropLast, l.getLast (by intro e; rw [e] at hk; simp at hk), (List.dropLast_concat_getLast _).symm⟩
    have h1 := ih (l := r) (fun x hx => h x (List.mem_append_left _ hx)) (by simpa using hk)
    have h2 := h c (by simp)
    unfold digB at h2
    have hr : r.length = k := by simpa using hk
    rw [hr] at h1
    rw [vN_snoc, hk, Nat.pow_succ]
    omega
theorem vN_val {l : List UInt8} (h : ∀ c ∈ l, digB c) : val l = (vN l : Int) := by
  obtain ⟨k, hk⟩ : ∃ k, l.length = k := ⟨_, rfl⟩
  induction k generalizing l with
  | zero => rw [List.eq_nil_of_length_eq_zero hk]; rfl
  | succ k ih =>
    obtain ⟨r, c, rfl⟩ : ∃ r c, l = r ++ [c] := ⟨l.dropLast, l.getLast (by intro e; rw [e] at hk; simp at hk), (List.dropLast_concat_getLast _).symm⟩
    have h1 := ih (l := r) (fun x hx => h x (List.mem_append_left _ hx)) (by simpa using hk)
    have h2 := h c (by simp)
    unfold digB at h2
    rw [vN_snoc, val_snoc, h1]
    omega
/-- Where the digits begin. -/
def frm (l : List UInt8) : Nat := if Lib.hasPrefix l [45] then 1 else 0
def sgV (l : List UInt8) : Int := if Lib.hasPrefix l [45] then -(vN (l.drop 1) : Int) else (vN l : Int)
theorem pref_iff (l : List UInt8) : Lib.hasPrefix l [45] = true ↔ ∃ r, l = 45 :: r := by
  cases l with
  | nil => simp [Lib.hasPrefix, List.isPrefixOf]
  | cons c r =>
    simp [Lib.hasPrefix, List.isPrefixOf]
    constructor
    · intro h; exact h.symm
    · intro h; exact h.symm
theorem guess_sgV {l : List UInt8} (h : ∀ c ∈ l.drop (frm l), digB c) : guessI l = sgV l := by
  unfold guessI sgV
  unfold frm at h
  by_cases hp : Lib.hasPrefix l [45] = true
  · rw [if_pos hp] at h
    rw [if_pos hp, if_pos hp]
    obtain ⟨r, rfl⟩ := (pref_iff l).1 hp
    have e2 : Lib.trimPrefix (45 :: r) [45] = r := by unfold Lib.trimPrefix; rw [if_pos hp]; rfl
    have h' : ∀ c ∈ r, digB c := h
    rw [e2, vN_val h']
    show 0 - (vN r : Int) = -(vN r : Int)
    omega
  · rw [if_neg hp] at h
    rw [if_neg hp, if_neg hp]
    have e2 : Lib.trimPrefix l [45] = l := by unfold Lib.trimPrefix; rw [if_neg hp]
    have h' : ∀ c ∈ l, digB c := h
    rw [e2, vN_val h']
theorem txt_data (a : Int) : (txt a).data.toList = Lib.itoa a := by
  show (Lib.itoa a).toArray.toList = _
  rw [List.toList_toArray]
theorem itoa_digits (a : Int) : ∀ c ∈ (Lib.itoa a).drop (frm (Lib.itoa a)), digB c := by
  rw [itoa_abs]
  have hd := dec_digits a.natAbs
  split
  · have hp : Lib.hasPrefix (45 :: Lib.decDigits a.natAbs) [45] = true := (pref_iff _).2 ⟨_, rfl⟩
    unfold frm
    rw [if_pos hp]
    exact hd
  · have hp : ¬ Lib.hasPrefix (Lib.decDigits a.natAbs) [45] = true := by
      intro h
      obtain ⟨r, hr⟩ := (pref_iff _).1 h
      have := hd 45 (by rw [hr]; exact List.mem_cons_self)
      exact absurd this.1 (by decide)
    unfold frm
    rw [if_neg hp]
    exact hd
/-- A text that the program reads is a wide's text. -/
theorem rdB_is {s : ByteArray} (h : rdB s = true) : s = txt (rdN s) := by
  unfold rdB at h
  simp only [Bool.and_eq_true] at h
  have h2 := h.2
  rw [beq_iff_eq, Go.ByteArray.toList_eq, Go.ByteArray.toList_eq] at h2
  exact (ByteArray.ext (Array.toList_inj.1 h2)).symm
theorem rd_no_big {s : ByteArray} (h : 41 < s.size) : rdB s = false := by
  unfold rdB
  rw [decide_eq_false (by omega), Bool.false_and]
theorem rd_no_digit {s : ByteArray} (h : ¬ ∀ c ∈ s.data.toList.drop (frm s.data.toList), digB c) : rdB s = false := by
  rw [Bool.eq_false_iff]
  intro hB
  apply h
  rw [rdB_is hB, txt_data]
  exact itoa_digits _
theorem rd_no_text {s : ByteArray} (h : ∀ c ∈ s.data.toList.drop (frm s.data.toList), digB c) (hn : s ≠ txt (sgV s.data.toList) ∨ ¬ Is (sgV s.data.toList)) : rdB s = false := by
  rw [Bool.eq_false_iff]
  intro hB
  have e := rdB_is hB
  have e2 : guessI s.data.toList = rdN s := by
    conv => lhs; rw [e]
    rw [txt_data, guess_itoa]
  rw [guess_sgV h] at e2
  rcases hn with hn | hn
  · exact hn (by rw [e2]; exact e)
  · exact hn (by rw [e2]; exact nrm_is _)
theorem rd_yes {s : ByteArray} (h : s = txt (sgV s.data.toList)) (hI : Is (sgV s.data.toList)) : rdB s = true ∧ rdV s = sgV s.data.toList := by
  have h1 := rdB_txt hI
  have h2 := rdV_txt hI
  rw [← h] at h1 h2
  exact ⟨h1, h2⟩
theorem cTms (x : Int) (s : Bool) (hs : decide (x < 0) = s) (n : Nat) (z : Int) (u : Bool) (hz : x * (n : Int) = z) (hu : decide (z < 0) = u) (hn : n < 18446744073709551616) (hl : x.natAbs * 18446744073709551616 < top24) (ga : Nat) (w : World) (hA : NmB w ga x) : Calls Tryd.prog 44 #[.agg #[.slice (some ⟨ga, 0, none⟩) 24 24, .bool s], .int .u64 (n : Int)] w fun e w' => ∃ g, e = .returned (.agg #[.slice (some ⟨g, 0, none⟩) 24 24, .bool u]) ∧ w.heap.size ≤ g ∧ NmB w' g z ∧ Below w.heap.size w w' := by
  subst hz hu; exact rTimes x s hs n hn hl ga w hA
theorem read_lim {V : Nat} (h : V < 10 ^ 41) : V * 18446744073709551616 < top24 ∧ (V * 10 : Nat) + 9 < top24 := by
  have h1 : (10 : Nat) ^ 41 * 18446744073709551616 ≤ 65536 ^ 24 := by decide +kernel
  have h2 : V * 18446744073709551616 < 10 ^ 41 * 18446744073709551616 := Nat.mul_lt_mul_of_pos_right h (by decide)
  have h3 : V * 18446744073709551616 < top24 := Nat.lt_of_lt_of_le h2 h1
  refine ⟨h3, Nat.lt_of_le_of_lt ?_ (show 10 ^ 43 < 65536 ^ 24 by decide +kernel)⟩
  have e1 : (10 : Nat) ^ 43 = 10 ^ 41 * 100 := by decide
  rw [e1]
  generalize (10 : Nat) ^ 41 = T at *
  omega
/-- What the loop keeps. -/
def Rst (w : World) (bR bA : Nat) (y : Int) (w0 : World) : Prop :=
  (∃ g, Bn w bA (.slice (some ⟨g, 0, none⟩) 24 24) (decide (y < 0)) ∧ NmB w g y) ∧ Bn w bR (.slice none 0 0) false ∧ bR < bA ∧ w0.heap.size ≤ bR ∧ Below w0.heap.size w0 w
theorem at_list {s : ByteArray} {i : Nat} (h : i < s.size) : s.data.toList[i]'(by rw [Array.length_toList]; exact h) = s[i] := by rw [Array.getElem_toList]; rfl
theorem step_list {l : List UInt8} {f i : Nat} (hf : f ≤ i) (hi : i < l.length) : (l.drop f).take (i + 1 - f) = (l.drop f).take (i - f) ++ [l[i]] := by
  rw [show i + 1 - f = i - f + 1 by omega, List.take_add_one, List.getElem?_drop, show f + (i - f) = i by omega, List.getElem?_eq_getElem hi]; rfl
theorem sgV_0 {l : List UInt8} (h : 0 = frm l) : sgV l = (vN (l.drop 0) : Int) := by
  unfold frm at h
  unfold sgV
  split at h
  · omega
  · rename_i hp
    rw [if_neg hp]; rfl
theorem sgV_1 {l : List UInt8} (h : 1 = frm l) : sgV l = -(vN (l.drop 1) : Int) := by
  unfold frm at h
  unfold sgV
  split at h
  · rename_i hp
    rw [if_pos hp]
  · omega
theorem frm_le (l : List UInt8) : frm l ≤ 1 := by unfold frm; split <;> omega
set_option maxRecDepth 8000 in
set_option maxHeartbeats 4000000 in
theorem rRead (s : ByteArray) (hs : s.size ≤ 9223372036854775807) (w : World) : Calls Tryd.prog 22 #[.string s] w fun e w' => ∃ g sg, e = .returned (.tuple #[.agg #[.slice (some ⟨g, 0, none⟩) 24 24, .bool sg], .bool (rdB s)]) ∧ NmB w' g (rdV s) ∧ decide (rdV s < 0) = sg ∧ Below w.heap.size w w' := by
  obtain ⟨rb, hrb⟩ : ∃ rb, rdB s = rb := ⟨_, rfl⟩
  obtain ⟨rv, hrv⟩ : ∃ rv, rdV s = rv := ⟨_, rfl⟩
  rw [hrb, hrv]
  have HRB := hid hrb
  have HRV := hid hrv
  clear hrb hrv
  obtain ⟨w1, hw1⟩ : ∃ w1, w.alloc (.cells #[.slice none 0 0, .bool false] 40) = w1 := ⟨_, rfl⟩
  have b1 : Below w.heap.size w w1 := by rw [← hw1]; exact below_new _ _
  have s1 : w1.heap.size = w.heap.size + 1 := by rw [← hw1]; simp
  have R1 : Hid (Bn w1 w.heap.size (.slice none 0 0) false) := by rw [← hw1]; exact Bn.new _ _ _
  have B1 := hid b1
  have S1 := hid s1
  clear b1 s1
  go_enter Tryd.func22, Tryd.ntmps22
  go_wp2_with fail
  refine (rZero _).mono ?_
  rintro e w3 ⟨rfl, Z3, b3⟩
  obtain ⟨w4, hw4⟩ : ∃ w4, w3.alloc (.cells #[.slice none 0 0, .bool false] 40) = w4 := ⟨_, rfl⟩
  have b4 : Below w3.heap.size w3 w4 := by rw [← hw4]; exact below_new _ _
  have Q4 : Bn w4 w3.heap.size (.slice none 0 0) false := by rw [← hw4]; exact Bn.new _ _ _
  have b34 := below_up b3 b4
  have z0 := Q4.dig
  have z1 := Q4.sgn
  have f0 := Q4.frz 0
  have f1 := Q4.frz 1
  have N3 : NmB w3 w1.heap.size 0 := ⟨_, Z3, fun _ => Nat.succ_pos 65535, dv_none (fun _ => rfl) 24⟩
  have hbA : w.heap.size < w3.heap.size := Nat.lt_of_lt_of_le (by have := S1.out; omega) b3.size
  have ST : Hid (Rst (pt w4 w3.heap.size (.slice (some ⟨w1.heap.size, 0, none⟩) 24 24) (.bool false)) w.heap.size w3.heap.size 0 w) :=
    ⟨⟨w1.heap.size, Q4.pt _ _, (N3.later b4).off Q4 _ _⟩, (R1.out.later b34).off Q4 (Nat.ne_of_lt hbA) _ _, hbA, Nat.le_refl _, below_pt (below_up B1.out b34) (Nat.le_of_lt hbA) _ _⟩
  unfold pt at ST
  clear Q4 b3 b4 b34 N3 Z3 R1 B1 S1 hw1 hbA
  go_upto_region 2 with fail
  generalize World.setCell _ _ _ = w5 at *
  generalize w3.heap.size = bA at *
  clear z0 z1 f0 f1 hw4
  generalize w1.heap.size = gz at *
  obtain ⟨l, hl⟩ : ∃ l, l = s.data.toList := ⟨_, rfl⟩
  have HL := hid hl
  have hll : l.length = s.size := by rw [hl, Array.length_toList]; rfl
  have HLL := hid hll
  obtain ⟨f, hf⟩ : ∃ f, f = frm l := ⟨_, rfl⟩
  have hf1 : f ≤ 1 := by rw [hf]; exact frm_le l
  have HF := hid hf
  have key : (s.size = 0 ∧ f = 0) ∨ (∃ h : 0 < s.size, ∃ x : Nat, (s[0]'h).toNat = x ∧ x < 256 ∧ ((x = 45 ∧ f = 1) ∨ (¬ x = 45 ∧ f = 0))) := by
    by_cases h0 : s.size = 0
    · refine .inl ⟨h0, ?_⟩
      rw [hf, List.eq_nil_of_length_eq_zero (hll.trans h0)]; rfl
    · have hpos : 0 < s.size := by omega
      refine .inr ⟨hpos, _, rfl, (s[0]'hpos).toNat_lt, ?_⟩
      have hc : l[0]'(by omega) = s[0]'hpos := by subst hl; exact at_list hpos
      cases hcl : l with
      | nil => rw [hcl] at hll; simp at hll; omega
      | cons c r =>
        have hcs : c = s[0]'hpos := by rw [← hc]; simp [hcl]
        by_cases h45 : (s[0]'hpos).toNat = 45
        · refine .inl ⟨h45, ?_⟩
          rw [hf, hcl]; unfold frm
          rw [if_pos ((pref_iff _).2 ⟨r, by rw [hcs, show s[0]'hpos = 45 from UInt8.toNat_inj.1 h45]⟩)]
        · refine .inr ⟨h45, ?_⟩
          rw [hf, hcl]; unfold frm
          rw [if_neg]
          intro hp
          obtain ⟨r', hr'⟩ := (pref_iff _).1 hp
          have e1 : c = 45 := by simpa using (List.cons.inj hr').1
          exact h45 (by rw [← hcs, e1]; rfl)
  clear hl hll hf
  have HNOB : Hid (41 < s.size → rb = false ∧ rv = 0) := fun h => ⟨by rw [← HRB.out]; exact rd_no_big h, by rw [← HRV.out]; exact rdV_no (rd_no_big h)⟩
  have HNOD : Hid ((¬ ∀ c ∈ l.drop f, digB c) → rb = false ∧ rv = 0) := fun h => by
    have h' : ¬ ∀ c ∈ s.data.toList.drop (frm s.data.toList), digB c := by rw [← HL.out, ← HF.out]; exact h
    exact ⟨by rw [← HRB.out]; exact rd_no_digit h', by rw [← HRV.out]; exact rdV_no (rd_no_digit h')⟩
  have HNOT : Hid ((∀ c ∈ l.drop f, digB c) → (s ≠ txt (sgV l) ∨ ¬ Is (sgV l)) → rb = false ∧ rv = 0) := fun h h2 => by
    have h' : ∀ c ∈ s.data.toList.drop (frm s.data.toList), digB c := by rw [← HL.out, ← HF.out]; exact h
    rw [HL.out] at h2
    exact ⟨by rw [← HRB.out]; exact rd_no_text h' h2, by rw [← HRV.out]; exact rdV_no (rd_no_text h' h2)⟩
  have HYES : Hid (s = txt (sgV l) → Is (sgV l) → rb = true ∧ rv = sgV l) := fun h h2 => by
    rw [HL.out] at h h2 ⊢
    have := rd_yes h h2
    exact ⟨by rw [← HRB.out]; exact this.1, by rw [← HRV.out]; exact this.2⟩
  rcases key with ⟨h0, hf0⟩ | ⟨hpos, x0, hx0, hx256, ⟨h45, hf0⟩ | ⟨h45, hf0⟩⟩
  · subst hf0
    have hz0 : ¬ (0 : Int) < (s.size : Int) := by omega
    have HZ0 := hid h0
    clear h0
    by_cases hbig : 41 < s.size
    · exact absurd hbig (by have := HZ0.out; omega)
    · have hbi : ¬ (41 : Int) < (s.size : Int) := by omega
      go_wp2_with fail
      go_loopw [6] (fun ix wr => ∃ i : Nat, 0 ≤ i ∧ i ≤ s.size ∧ ix = .int .i64 (i : Int) ∧ Hid (Rst wr w.heap.size bA ((vN ((l.drop 0).take (i - 0)) : Nat) : Int) w) ∧ Hid (∀ c ∈ (l.drop 0).take (i - 0), digB c)) (fun ix _ => s.size - (intOf ix).toNat)
      case atStart => exact ⟨0, Nat.le_refl _, by omega, rfl, ST, fun c hc => by simp at hc⟩
      case round =>
        rename World => wr
        clear ST
        obtain ⟨i, hfi, hi', rfl, SS, HDG⟩ := hrel
        by_cases hlt : i < s.size
        · exact absurd hlt (by have := HZ0.out; omega)
        · obtain rfl : i = s.size := by omega
          have HALL : Hid (∀ c ∈ l.drop 0, digB c) := by
            show ∀ c ∈ l.drop 0, digB c
            have := HDG.out
            rwa [List.take_of_length_le (by rw [List.length_drop, HLL.out]; exact Nat.le_refl _)] at this
          rw [List.take_of_length_le (by rw [List.length_drop, HLL.out]; exact Nat.le_refl _)] at SS
          have hsg := sgV_0 HF.out
          clear hlt hi' hfi HDG
          obtain ⟨⟨ga, AB, AN⟩, RB, q1, q2, BB⟩ := SS.out
          obtain ⟨V, hV⟩ : ∃ V, V = vN (l.drop 0) := ⟨_, rfl⟩
          rw [← hV] at AB AN hsg
          rw [show decide ((V : Int) < 0) = false from decide_eq_false (by omega)] at AB
          obtain ⟨v, hv⟩ : ∃ v, sgV l = v := ⟨_, rfl⟩
          rw [hv] at hsg HNOT HYES
          obtain ⟨sv, hsv⟩ : ∃ sv, decide (v < 0) = sv := ⟨_, rfl⟩
          have HSV := hid hsv
          clear SS hV hv
          have hsvf : sv = false := by rw [← hsv]; exact decide_eq_false (by omega)
          rw [← hsg] at AN
          rw [← hsvf] at AB
          have HZB := hid AB
          have HZN := hid AN
          have HRBW := hid RB
          have HBW := hid BB
          clear AB AN RB q1 q2 BB hsvf
          go_upto_region 15 with fail
          obtain ⟨w7, hw7⟩ : ∃ w7 : World, w7 = wr := ⟨_, rfl⟩
          rw [← hw7] at HZB HZN HRBW HBW ⊢
          clear hw7
          have CTx := hid (rText v sv hsv)
          have CPw := hid (cPower 127 (by decide) T127 (by decide))
          have CTu := hid (cTurned T127 (-T127) false true rfl (by decide) (by decide))
          by_cases htx : s = txt v
          · have hTs : ((txt v).toList == s.toList) = true := by rw [← htx]; simp
            by_cases hr : T127 ≤ v
            · have HNO := hid (HNOT.out HALL.out (.inr (by unfold Is; unfold T127 at hr; omega)))
              have CB1 := hid (cBelow v (-T127) sv true false hsv (by decide) (decide_eq_false (by unfold T127; omega)))
              have CB2 := hid (cBelow v T127 sv false false hsv (by decide) (decide_eq_false (by omega)))
              clear htx hr hsv hsg HNOB HNOD HNOT HYES
              generalize txt v = T at *
              refine wp_region_noPanic ?_
              refine wp_region_held_drew (S := fun W => Below w7.heap.size w7 W) (by kernel_rfl) ((Below.refl _ _).drew) (fun hHeld0 => ?_)
              refine wpAnyH_take (i := 0) (oi := { dst := some 53, op := Op.load 40 (Operand.tmp 4), type := 40, pos := "ref.go:198", after := #[], guard := none }) (v := ?_) rfl (by kernel_rfl) (by kernel_rfl) (by kernel_rfl) (fun _ _ _ h => h) (Or.inl ⟨by rfl, ?_⟩) (by assumption) ?_
              rotate_left
              · intro W hSw
                try dsimp only at hSw
                have q0 := (HZB.out.later hSw).dig; have q1 := (HZB.out.later hSw).sgn
                go_simp
                try with_reducible rfl
              try simp only [Act.put, List.setIfInBounds_toArray, List.set_cons_zero, List.set_cons_succ]
              refine wpAnyH_take (i := 2) (oi := { dst := some 55, op := Op.move (Operand.tmp 0), type := 9, pos := "ref.go:198", after := #[], guard := none }) (v := ?_) rfl (by kernel_rfl) (by kernel_rfl) (by kernel_rfl) (fun _ _ _ h => h) (Or.inl ⟨by rfl, ?_⟩) (by assumption) ?_
              rotate_left
              · intro W hSw
                try dsimp only at hSw
                go_simp
                try with_reducible rfl
              try simp only [Act.put, List.setIfInBounds_toArray, List.set_cons_zero, List.set_cons_succ]
              refine wpAnyH_ready (rs := [1]) (by kernel_rfl) (by simp) ?_
              refine AllReadyH.cons (o := { dst := some 54, op := Op.call { callee := Callee.value (Operand.func 19), args := #[Operand.tmp 53], argTypes := #[40] }, type := 9, pos := "ref.go:198", after := #[{ on := 0, ground := Ground.data }], guard := none }) rfl (fun K hK => ?_) AllReadyH.nil
              rw [if_pos (by rfl)]
              go_simp
              refine (CTx.out _ _ (HZN.out.later hHeld0)).mono ?_
              rintro e wa ⟨rfl, ba⟩
              refine hK.out _ _ (below_up hHeld0 ba) (fun hHeld1 => ?_)
              clear hK K hHeld0
              try simp only [Act.put, List.setIfInBounds_toArray, List.set_cons_zero, List.set_cons_succ]
              refine wpAnyH_take (i := 3) (oi := { dst := some 56, op := Op.binOp BinOp.neq 9 (Operand.tmp 54) (Operand.tmp 55) 9, type := 4, pos := "ref.go:198", after := #[{ on := 1, ground := Ground.data }, { on := 2, ground := Ground.data }], guard := none }) (v := Value.bool false) rfl (by kernel_rfl) (by kernel_rfl) (by kernel_rfl) (fun _ _ _ h => h) (Or.inl ⟨by rfl, ?_⟩) (by assumption) ?_
              · intro W hSw
                try dsimp only at hSw
                go_simp
                try with_reducible rfl
              try simp only [Act.put, List.setIfInBounds_toArray, List.set_cons_zero, List.set_cons_succ]
              refine wpAnyH_take (i := 4) (oi := { dst := some 57, op := Op.move (Operand.tmp 56), type := 4, pos := "ref.go:198", after := #[{ on := 3, ground := Ground.data }, { on := 1, ground := Ground.chain }], guard := none }) (v := Value.bool false) rfl (by kernel_rfl) (by kernel_rfl) (by kernel_rfl) (fun _ _ _ h => h) (Or.inl ⟨by rfl, ?_⟩) (by assumption) ?_
              · intro W hSw
                try dsimp only at hSw
                go_simp
                try with_reducible rfl
              try simp only [Act.put, List.setIfInBounds_toArray, List.set_cons_zero, List.set_cons_succ]
              refine wpAnyH_take (i := 5) (oi := { dst := some 58, op := Op.load 40 (Operand.tmp 4), type := 40, pos := "ref.go:198", after := #[{ on := 4, ground := Ground.guard }], guard := some (4, false) }) (v := ?_) rfl (by kernel_rfl) (by kernel_rfl) (by kernel_rfl) (fun _ _ _ h => h) (Or.inl ⟨by rfl, ?_⟩) (by assumption) ?_
              rotate_left
              · intro W hSw
                try dsimp only at hSw
                have q0 := (HZB.out.later hSw).dig; have q1 := (HZB.out.later hSw).sgn
                go_simp
                try with_reducible rfl
              try simp only [Act.put, List.setIfInBounds_toArray, List.set_cons_zero, List.set_cons_succ]
              refine wpAnyH_ready (rs := [6]) (by kernel_rfl) (by simp) ?_
              refine AllReadyH.cons (o := { dst := some 59, op := Op.call { callee := Callee.value (Operand.func 49), args := #[Operand.const (Value.int IntKind.i64 127)], argTypes := #[3] }, type := 40, pos := "ref.go:198", after := #[{ on := 4, ground := Ground.chain }, { on := 4, ground := Ground.guard }], guard := some (4, false) }) rfl (fun K hK => ?_) AllReadyH.nil
              rw [if_pos (by rfl)]
              go_simp
              refine (CPw.out _).mono ?_
              rintro e wb ⟨gp, rfl, -, NP, bb⟩
              refine hK.out _ _ (below_up hHeld1 bb) (fun hHeld2 => ?_)
              clear hK K hHeld1
              try simp only [Act.put, List.setIfInBounds_toArray, List.set_cons_zero, List.set_cons_succ]
              refine wpAnyH_ready (rs := [7]) (by kernel_rfl) (by simp) ?_
              refine AllReadyH.cons (o := { dst := some 60, op := Op.call { callee := Callee.value (Operand.func 46), args := #[Operand.tmp 59], argTypes := #[40] }, type := 40, pos := "ref.go:198", after := #[{ on := 6, ground := Ground.data }, { on := 6, ground := Ground.chain }, { on := 4, ground := Ground.guard }], guard := some (4, false) }) rfl (fun K hK => ?_) AllReadyH.nil
              rw [if_pos (by rfl)]
              go_simp
              refine (CTu.out _ _ NP).mono ?_
              rintro e wc ⟨rfl, NT, bc⟩
              refine hK.out _ _ (below_up hHeld2 bc) (fun hHeld3 => ?_)
              clear hK K hHeld2
              try simp only [Act.put, List.setIfInBounds_toArray, List.set_cons_zero, List.set_cons_succ]
              refine wpAnyH_ready (rs := [8]) (by kernel_rfl) (by simp) ?_
              refine AllReadyH.cons (o := { dst := some 61, op := Op.call { callee := Callee.value (Operand.func 18), args := #[Operand.tmp 58, Operand.tmp 60], argTypes := #[40, 40] }, type := 4, pos := "ref.go:198", after := #[{ on := 5, ground := Ground.data }, { on := 7, ground := Ground.data }, { on := 7, ground := Ground.chain }, { on := 4, ground := Ground.guard }], guard := some (4, false) }) rfl (fun K hK => ?_) AllReadyH.nil
              rw [if_pos (by rfl)]
              go_simp
              refine (CB1.out _ _ _ (HZN.out.later hHeld3) NT).mono ?_
              rintro e wd ⟨rfl, bd⟩
              refine hK.out _ _ (below_up hHeld3 bd) (fun hHeld4 => ?_)
              clear hK K hHeld3
              try simp only [Act.put, List.setIfInBounds_toArray, List.set_cons_zero, List.set_cons_succ]
              refine wpAnyH_take (i := 9) (oi := { dst := some 62, op := Op.pick (Operand.tmp 57) (Operand.const (Value.bool true)) (Operand.tmp 61), type := 4, pos := "ref.go:198", after := #[{ on := 4, ground := Ground.data }, { on := 8, ground := Ground.data }], guard := none }) (v := Value.bool false) rfl (by kernel_rfl) (by kernel_rfl) (by kernel_rfl) (fun _ _ _ h => h) (Or.inl ⟨by rfl, ?_⟩) (by assumption) ?_
              · intro W hSw
                try dsimp only at hSw
                go_simp
                try with_reducible rfl
              try simp only [Act.put, List.setIfInBounds_toArray, List.set_cons_zero, List.set_cons_succ]
              refine wpAnyH_take (i := 10) (oi := { dst := some 63, op := Op.move (Operand.tmp 62), type := 4, pos := "ref.go:198", after := #[{ on := 9, ground := Ground.data }, { on := 8, ground := Ground.chain }], guard := none }) (v := Value.bool false) rfl (by kernel_rfl) (by kernel_rfl) (by kernel_rfl) (fun _ _ _ h => h) (Or.inl ⟨by rfl, ?_⟩) (by assumption) ?_
              · intro W hSw
                try dsimp only at hSw
                go_simp
                try with_reducible rfl
              try simp only [Act.put, List.setIfInBounds_toArray, List.set_cons_zero, List.set_cons_succ]
              refine wpAnyH_take (i := 11) (oi := { dst := some 64, op := Op.load 40 (Operand.tmp 4), type := 40, pos := "ref.go:198", after := #[{ on := 10, ground := Ground.guard }], guard := some (10, false) }) (v := ?_) rfl (by kernel_rfl) (by kernel_rfl) (by kernel_rfl) (fun _ _ _ h => h) (Or.inl ⟨by rfl, ?_⟩) (by assumption) ?_
              rotate_left
              · intro W hSw
                try dsimp only at hSw
                have q0 := (HZB.out.later hSw).dig; have q1 := (HZB.out.later hSw).sgn
                go_simp
                try with_reducible rfl
              try simp only [Act.put, List.setIfInBounds_toArray, List.set_cons_zero, List.set_cons_succ]
              refine wpAnyH_ready (rs := [12]) (by kernel_rfl) (by simp) ?_
              refine AllReadyH.cons (o := { dst := some 65, op := Op.call { callee := Callee.value (Operand.func 49), args := #[Operand.const (Value.int IntKind.i64 127)], argTypes := #[3] }, type := 40, pos := "ref.go:198", after := #[{ on := 10, ground := Ground.chain }, { on := 10, ground := Ground.guard }], guard := some (10, false) }) rfl (fun K hK => ?_) AllReadyH.nil
              rw [if_pos (by rfl)]
              go_simp
              refine (CPw.out _).mono ?_
              rintro e we ⟨gq, rfl, -, NQ, be⟩
              refine hK.out _ _ (below_up hHeld4 be) (fun hHeld5 => ?_)
              clear hK K hHeld4
              try simp only [Act.put, List.setIfInBounds_toArray, List.set_cons_zero, List.set_cons_succ]
              refine wpAnyH_ready (rs := [13]) (by kernel_rfl) (by simp) ?_
              refine AllReadyH.cons (o := { dst := some 66, op := Op.call { callee := Callee.value (Operand.func 18), args := #[Operand.tmp 64, Operand.tmp 65], argTypes := #[40, 40] }, type := 4, pos := "ref.go:198", after := #[{ on := 11, ground := Ground.data }, { on := 12, ground := Ground.data }, { on := 12, ground := Ground.chain }, { on := 10, ground := Ground.guard }], guard := some (10, false) }) rfl (fun K hK => ?_) AllReadyH.nil
              rw [if_pos (by rfl)]
              go_simp
              refine (CB2.out _ _ _ (HZN.out.later hHeld5) NQ).mono ?_
              rintro e wf ⟨rfl, bf⟩
              refine hK.out _ _ (below_up hHeld5 bf) (fun hHeld6 => ?_)
              clear hK K hHeld5
              try simp only [Act.put, List.setIfInBounds_toArray, List.set_cons_zero, List.set_cons_succ]
              refine wpAnyH_take (i := 14) (oi := { dst := some 67, op := Op.unOp UnOp.not 4 (Operand.tmp 66), type := 4, pos := "ref.go:198", after := #[{ on := 13, ground := Ground.data }, { on := 10, ground := Ground.guard }], guard := some (10, false) }) (v := Value.bool true) rfl (by kernel_rfl) (by kernel_rfl) (by kernel_rfl) (fun _ _ _ h => h) (Or.inl ⟨by rfl, ?_⟩) (by assumption) ?_
              · intro W hSw
                try dsimp only at hSw
                go_simp
                try with_reducible rfl
              try simp only [Act.put, List.setIfInBounds_toArray, List.set_cons_zero, List.set_cons_succ]
              refine wpAnyH_take (i := 15) (oi := { dst := some 68, op := Op.pick (Operand.tmp 63) (Operand.const (Value.bool true)) (Operand.tmp 67), type := 4, pos := "ref.go:198", after := #[{ on := 10, ground := Ground.data }, { on := 14, ground := Ground.data }], guard := none }) (v := Value.bool true) rfl (by kernel_rfl) (by kernel_rfl) (by kernel_rfl) (fun _ _ _ h => h) (Or.inl ⟨by rfl, ?_⟩) (by assumption) ?_
              · intro W hSw
                try dsimp only at hSw
                go_simp
                try with_reducible rfl
              try simp only [Act.put, List.setIfInBounds_toArray, List.set_cons_zero, List.set_cons_succ]
              refine wpAnyH_done (by kernel_rfl) ?_ _
              refine NoPanic.normal ?_
              have B8 := hid hHeld6
              clear hHeld6
              have RB := hid (HRBW.out.later B8.out)
              have KK := hid (below_up HBW.out B8.out)
              clear HZB HZN HRBW HBW B8
              go_wp2_with fail
              refine (rZero _).mono ?_
              rintro e wy ⟨rfl, Z9, b9⟩
              have R9 := (RB.out.later b9)
              have r0 := R9.dig
              have r1 := R9.sgn
              have f0 := R9.frz 0
              have f1 := R9.frz 1
              have N9 : NmB wy wf.heap.size 0 := ⟨_, Z9, fun _ => Nat.succ_pos 65535, dv_none (fun _ => rfl) 24⟩
              have P := hid (R9.pt (.slice (some ⟨wf.heap.size, 0, none⟩) 24 24) false)
              have NP := hid (N9.off R9 (.slice (some ⟨wf.heap.size, 0, none⟩) 24 24) (.bool false))
              have BP := hid (below_pt (below_up KK.out b9) (Nat.le_refl w.heap.size) (.slice (some ⟨wf.heap.size, 0, none⟩) 24 24) (.bool false))
              unfold pt at P NP BP
              clear R9 N9 Z9 b9
              go_wp2_with fail
              generalize World.setCell _ _ _ = wv at *
              have e0 := P.out.dig
              have e1 := P.out.sgn
              simp [bodyPost, results, Tryd.results22, go_sem, e0, e1]
              exact ⟨_, ⟨rfl, HNO.out.1⟩, by rw [HNO.out.2]; exact NP.out, by rw [HNO.out.2]; exact Int.le_refl 0, BP.out⟩
            · have HYE := hid (HYES.out htx (by unfold Is; unfold T127 at hr; omega))
              have CB1 := hid (cBelow v (-T127) sv true false hsv (by decide) (decide_eq_false (by unfold T127; omega)))
              have CB2 := hid (cBelow v T127 sv false true hsv (by decide) (decide_eq_true (by omega)))
              clear htx hr hsv hsg HNOB HNOD HNOT HYES
              generalize txt v = T at *
              refine wp_region_noPanic ?_
              refine wp_region_held_drew (S := fun W => Below w7.heap.size w7 W) (by kernel_rfl) ((Below.refl _ _).drew) (fun hHeld0 => ?_)
              refine wpAnyH_take (i := 0) (oi := { dst := some 53, op := Op.load 40 (Operand.tmp 4), type := 40, pos := "ref.go:198", after := #[], guard := none }) (v := ?_) rfl (by kernel_rfl) (by kernel_rfl) (by kernel_rfl) (fun _ _ _ h => h) (Or.inl ⟨by rfl, ?_⟩) (by assumption) ?_
              rotate_left
              · intro W hSw
                try dsimp only at hSw
                have q0 := (HZB.out.later hSw).dig; have q1 := (HZB.out.later hSw).sgn
                go_simp
                try with_reducible rfl
              try simp only [Act.put, List.setIfInBounds_toArray, List.set_cons_zero, List.set_cons_succ]
              refine wpAnyH_take (i := 2) (oi := { dst := some 55, op := Op.move (Operand.tmp 0), type := 9, pos := "ref.go:198", after := #[], guard := none }) (v := ?_) rfl (by kernel_rfl) (by kernel_rfl) (by kernel_rfl) (fun _ _ _ h => h) (Or.inl ⟨by rfl, ?_⟩) (by assumption) ?_
              rotate_left
              · intro W hSw
                try dsimp only at hSw
                go_simp
                try with_reducible rfl
              try simp only [Act.put, List.setIfInBounds_toArray, List.set_cons_zero, List.set_cons_succ]
              refine wpAnyH_ready (rs := [1]) (by kernel_rfl) (by simp) ?_
              refine AllReadyH.cons (o := { dst := some 54, op := Op.call { callee := Callee.value (Operand.func 19), args := #[Operand.tmp 53], argTypes := #[40] }, type := 9, pos := "ref.go:198", after := #[{ on := 0, ground := Ground.data }], guard := none }) rfl (fun K hK => ?_) AllReadyH.nil
              rw [if_pos (by rfl)]
              go_simp
              refine (CTx.out _ _ (HZN.out.later hHeld0)).mono ?_
              rintro e wa ⟨rfl, ba⟩
              refine hK.out _ _ (below_up hHeld0 ba) (fun hHeld1 => ?_)
              clear hK K hHeld0
              try simp only [Act.put, List.setIfInBounds_toArray, List.set_cons_zero, List.set_cons_succ]
              refine wpAnyH_take (i := 3) (oi := { dst := some 56, op := Op.binOp BinOp.neq 9 (Operand.tmp 54) (Operand.tmp 55) 9, type := 4, pos := "ref.go:198", after := #[{ on := 1, ground := Ground.data }, { on := 2, ground := Ground.data }], guard := none }) (v := Value.bool false) rfl (by kernel_rfl) (by kernel_rfl) (by kernel_rfl) (fun _ _ _ h => h) (Or.inl ⟨by rfl, ?_⟩) (by assumption) ?_
              · intro W hSw
                try dsimp only at hSw
                go_simp
                try with_reducible rfl
              try simp only [Act.put, List.setIfInBounds_toArray, List.set_cons_zero, List.set_cons_succ]
              refine wpAnyH_take (i := 4) (oi := { dst := some 57, op := Op.move (Operand.tmp 56), type := 4, pos := "ref.go:198", after := #[{ on := 3, ground := Ground.data }, { on := 1, ground := Ground.chain }], guard := none }) (v := Value.bool false) rfl (by kernel_rfl) (by kernel_rfl) (by kernel_rfl) (fun _ _ _ h => h) (Or.inl ⟨by rfl, ?_⟩) (by assumption) ?_
              · intro W hSw
                try dsimp only at hSw
                go_simp
                try with_reducible rfl
              try simp only [Act.put, List.setIfInBounds_toArray, List.set_cons_zero, List.set_cons_succ]
              refine wpAnyH_take (i := 5) (oi := { dst := some 58, op := Op.load 40 (Operand.tmp 4), type := 40, pos := "ref.go:198", after := #[{ on := 4, ground := Ground.guard }], guard := some (4, false) }) (v := ?_) rfl (by kernel_rfl) (by kernel_rfl) (by kernel_rfl) (fun _ _ _ h => h) (Or.inl ⟨by rfl, ?_⟩) (by assumption) ?_
              rotate_left
              · intro W hSw
                try dsimp only at hSw
                have q0 := (HZB.out.later hSw).dig; have q1 := (HZB.out.later hSw).sgn
                go_simp
                try with_reducible rfl
              try simp only [Act.put, List.setIfInBounds_toArray, List.set_cons_zero, List.set_cons_succ]
              refine wpAnyH_ready (rs := [6]) (by kernel_rfl) (by simp) ?_
              refine AllReadyH.cons (o := { dst := some 59, op := Op.call { callee := Callee.value (Operand.func 49), args := #[Operand.const (Value.int IntKind.i64 127)], argTypes := #[3] }, type := 40, pos := "ref.go:198", after := #[{ on := 4, ground := Ground.chain }, { on := 4, ground := Ground.guard }], guard := some (4, false) }) rfl (fun K hK => ?_) AllReadyH.nil
              rw [if_pos (by rfl)]
              go_simp
              refine (CPw.out _).mono ?_
              rintro e wb ⟨gp, rfl, -, NP, bb⟩
              refine hK.out _ _ (below_up hHeld1 bb) (fun hHeld2 => ?_)
              clear hK K hHeld1
              try simp only [Act.put, List.setIfInBounds_toArray, List.set_cons_zero, List.set_cons_succ]
              refine wpAnyH_ready (rs := [7]) (by kernel_rfl) (by simp) ?_
              refine AllReadyH.cons (o := { dst := some 60, op := Op.call { callee := Callee.value (Operand.func 46), args := #[Operand.tmp 59], argTypes := #[40] }, type := 40, pos := "ref.go:198", after := #[{ on := 6, ground := Ground.data }, { on := 6, ground := Ground.chain }, { on := 4, ground := Ground.guard }], guard := some (4, false) }) rfl (fun K hK => ?_) AllReadyH.nil
              rw [if_pos (by rfl)]
              go_simp
              refine (CTu.out _ _ NP).mono ?_
              rintro e wc ⟨rfl, NT, bc⟩
              refine hK.out _ _ (below_up hHeld2 bc) (fun hHeld3 => ?_)
              clear hK K hHeld2
              try simp only [Act.put, List.setIfInBounds_toArray, List.set_cons_zero, List.set_cons_succ]
              refine wpAnyH_ready (rs := [8]) (by kernel_rfl) (by simp) ?_
              refine AllReadyH.cons (o := { dst := some 61, op := Op.call { callee := Callee.value (Operand.func 18), args := #[Operand.tmp 58, Operand.tmp 60], argTypes := #[40, 40] }, type := 4, pos := "ref.go:198", after := #[{ on := 5, ground := Ground.data }, { on := 7, ground := Ground.data }, { on := 7, ground := Ground.chain }, { on := 4, ground := Ground.guard }], guard := some (4, false) }) rfl (fun K hK => ?_) AllReadyH.nil
              rw [if_pos (by rfl)]
              go_simp
              refine (CB1.out _ _ _ (HZN.out.later hHeld3) NT).mono ?_
              rintro e wd ⟨rfl, bd⟩
              refine hK.out _ _ (below_up hHeld3 bd) (fun hHeld4 => ?_)
              clear hK K hHeld3
              try simp only [Act.put, List.setIfInBounds_toArray, List.set_cons_zero, List.set_cons_succ]
              refine wpAnyH_take (i := 9) (oi := { dst := some 62, op := Op.pick (Operand.tmp 57) (Operand.const (Value.bool true)) (Operand.tmp 61), type := 4, pos := "ref.go:198", after := #[{ on := 4, ground := Ground.data }, { on := 8, ground := Ground.data }], guard := none }) (v := Value.bool false) rfl (by kernel_rfl) (by kernel_rfl) (by kernel_rfl) (fun _ _ _ h => h) (Or.inl ⟨by rfl, ?_⟩) (by assumption) ?_
              · intro W hSw
                try dsimp only at hSw
                go_simp
                try with_reducible rfl
              try simp only [Act.put, List.setIfInBounds_toArray, List.set_cons_zero, List.set_cons_succ]
              refine wpAnyH_take (i := 10) (oi := { dst := some 63, op := Op.move (Operand.tmp 62), type := 4, pos := "ref.go:198", after := #[{ on := 9, ground := Ground.data }, { on := 8, ground := Ground.chain }], guard := none }) (v := Value.bool false) rfl (by kernel_rfl) (by kernel_rfl) (by kernel_rfl) (fun _ _ _ h => h) (Or.inl ⟨by rfl, ?_⟩) (by assumption) ?_
              · intro W hSw
                try dsimp only at hSw
                go_simp
                try with_reducible rfl
              try simp only [Act.put, List.setIfInBounds_toArray, List.set_cons_zero, List.set_cons_succ]
              refine wpAnyH_take (i := 11) (oi := { dst := some 64, op := Op.load 40 (Operand.tmp 4), type := 40, pos := "ref.go:198", after := #[{ on := 10, ground := Ground.guard }], guard := some (10, false) }) (v := ?_) rfl (by kernel_rfl) (by kernel_rfl) (by kernel_rfl) (fun _ _ _ h => h) (Or.inl ⟨by rfl, ?_⟩) (by assumption) ?_
              rotate_left
              · intro W hSw
                try dsimp only at hSw
                have q0 := (HZB.out.later hSw).dig; have q1 := (HZB.out.later hSw).sgn
                go_simp
                try with_reducible rfl
              try simp only [Act.put, List.setIfInBounds_toArray, List.set_cons_zero, List.set_cons_succ]
              refine wpAnyH_ready (rs := [12]) (by kernel_rfl) (by simp) ?_
              refine AllReadyH.cons (o := { dst := some 65, op := Op.call { callee := Callee.value (Operand.func 49), args := #[Operand.const (Value.int IntKind.i64 127)], argTypes := #[3] }, type := 40, pos := "ref.go:198", after := #[{ on := 10, ground := Ground.chain }, { on := 10, ground := Ground.guard }], guard := some (10, false) }) rfl (fun K hK => ?_) AllReadyH.nil
              rw [if_pos (by rfl)]
              go_simp
              refine (CPw.out _).mono ?_
              rintro e we ⟨gq, rfl, -, NQ, be⟩
              refine hK.out _ _ (below_up hHeld4 be) (fun hHeld5 => ?_)
              clear hK K hHeld4
              try simp only [Act.put, List.setIfInBounds_toArray, List.set_cons_zero, List.set_cons_succ]
              refine wpAnyH_ready (rs := [13]) (by kernel_rfl) (by simp) ?_
              refine AllReadyH.cons (o := { dst := some 66, op := Op.call { callee := Callee.value (Operand.func 18), args := #[Operand.tmp 64, Operand.tmp 65], argTypes := #[40, 40] }, type := 4, pos := "ref.go:198", after := #[{ on := 11, ground := Ground.data }, { on := 12, ground := Ground.data }, { on := 12, ground := Ground.chain }, { on := 10, ground := Ground.guard }], guard := some (10, false) }) rfl (fun K hK => ?_) AllReadyH.nil
              rw [if_pos (by rfl)]
              go_simp
              refine (CB2.out _ _ _ (HZN.out.later hHeld5) NQ).mono ?_
              rintro e wf ⟨rfl, bf⟩
              refine hK.out _ _ (below_up hHeld5 bf) (fun hHeld6 => ?_)
              clear hK K hHeld5
              try simp only [Act.put, List.setIfInBounds_toArray, List.set_cons_zero, List.set_cons_succ]
              refine wpAnyH_take (i := 14) (oi := { dst := some 67, op := Op.unOp UnOp.not 4 (Operand.tmp 66), type := 4, pos := "ref.go:198", after := #[{ on := 13, ground := Ground.data }, { on := 10, ground := Ground.guard }], guard := some (10, false) }) (v := Value.bool false) rfl (by kernel_rfl) (by kernel_rfl) (by kernel_rfl) (fun _ _ _ h => h) (Or.inl ⟨by rfl, ?_⟩) (by assumption) ?_
              · intro W hSw
                try dsimp only at hSw
                go_simp
                try with_reducible rfl
              try simp only [Act.put, List.setIfInBounds_toArray, List.set_cons_zero, List.set_cons_succ]
              refine wpAnyH_take (i := 15) (oi := { dst := some 68, op := Op.pick (Operand.tmp 63) (Operand.const (Value.bool true)) (Operand.tmp 67), type := 4, pos := "ref.go:198", after := #[{ on := 10, ground := Ground.data }, { on := 14, ground := Ground.data }], guard := none }) (v := Value.bool false) rfl (by kernel_rfl) (by kernel_rfl) (by kernel_rfl) (fun _ _ _ h => h) (Or.inl ⟨by rfl, ?_⟩) (by assumption) ?_
              · intro W hSw
                try dsimp only at hSw
                go_simp
                try with_reducible rfl
              try simp only [Act.put, List.setIfInBounds_toArray, List.set_cons_zero, List.set_cons_succ]
              refine wpAnyH_done (by kernel_rfl) ?_ _
              refine NoPanic.normal ?_
              have B8 := hid hHeld6
              clear hHeld6
              have A8 := HZB.out.later B8.out
              have R8 := HRBW.out.later B8.out
              have N8 := HZN.out.later B8.out
              have c0 := A8.dig
              have c1 := A8.sgn
              have r0 := R8.dig
              have r1 := R8.sgn
              have f0 := R8.frz 0
              have f1 := R8.frz 1
              have P := hid (R8.pt (.slice (some ⟨ga, 0, none⟩) 24 24) sv)
              have NP := hid (N8.off R8 (.slice (some ⟨ga, 0, none⟩) 24 24) (.bool sv))
              have BP := hid (below_pt (below_up HBW.out B8.out) (Nat.le_refl w.heap.size) (.slice (some ⟨ga, 0, none⟩) 24 24) (.bool sv))
              unfold pt at P NP BP
              clear A8 R8 N8 HZB HZN HRBW HBW B8
              go_wp2_with fail
              generalize World.setCell _ _ _ = wv at *
              have e0 := P.out.dig
              have e1 := P.out.sgn
              simp [bodyPost, results, Tryd.results22, go_sem, e0, e1]
              have NPx := NP.out
              have SVx := HSV.out
              rw [← HYE.out.2] at NPx SVx
              refine ⟨ga, ?_⟩
              by_cases hneg : rv < 0
              · exact .inr ⟨⟨⟨rfl, by rw [← SVx]; exact decide_eq_true hneg⟩, HYE.out.1⟩, NPx, hneg, BP.out⟩
              · exact .inl ⟨⟨⟨rfl, by rw [← SVx]; exact decide_eq_false hneg⟩, HYE.out.1⟩, NPx, by omega, BP.out⟩
          · have HNO := hid (HNOT.out HALL.out (.inl htx))
            have hTs : ((txt v).toList == s.toList) = false := by
              rw [beq_eq_false_iff_ne]; intro e; apply htx
              rw [Go.ByteArray.toList_eq, Go.ByteArray.toList_eq] at e
              exact (ByteArray.ext (Array.toList_inj.1 e)).symm
            clear htx hsv hsg HNOB HNOD HNOT HYES
            generalize txt v = T at *
            refine wp_region_noPanic ?_
            refine wp_region_held_drew (S := fun W => Below w7.heap.size w7 W) (by kernel_rfl) ((Below.refl _ _).drew) (fun hHeld0 => ?_)
            refine wpAnyH_take (i := 0) (oi := { dst := some 53, op := Op.load 40 (Operand.tmp 4), type := 40, pos := "ref.go:198", after := #[], guard := none }) (v := ?_) rfl (by kernel_rfl) (by kernel_rfl) (by kernel_rfl) (fun _ _ _ h => h) (Or.inl ⟨by rfl, ?_⟩) (by assumption) ?_
            rotate_left
            · intro W hSw
              try dsimp only at hSw
              have q0 := (HZB.out.later hSw).dig; have q1 := (HZB.out.later hSw).sgn
              go_simp
              try with_reducible rfl
            try simp only [Act.put, List.setIfInBounds_toArray, List.set_cons_zero, List.set_cons_succ]
            refine wpAnyH_take (i := 2) (oi := { dst := some 55, op := Op.move (Operand.tmp 0), type := 9, pos := "ref.go:198", after := #[], guard := none }) (v := ?_) rfl (by kernel_rfl) (by kernel_rfl) (by kernel_rfl) (fun _ _ _ h => h) (Or.inl ⟨by rfl, ?_⟩) (by assumption) ?_
            rotate_left
            · intro W hSw
              try dsimp only at hSw
              go_simp
              try with_reducible rfl
            try simp only [Act.put, List.setIfInBounds_toArray, List.set_cons_zero, List.set_cons_succ]
            refine wpAnyH_ready (rs := [1]) (by kernel_rfl) (by simp) ?_
            refine AllReadyH.cons (o := { dst := some 54, op := Op.call { callee := Callee.value (Operand.func 19), args := #[Operand.tmp 53], argTypes := #[40] }, type := 9, pos := "ref.go:198", after := #[{ on := 0, ground := Ground.data }], guard := none }) rfl (fun K hK => ?_) AllReadyH.nil
            rw [if_pos (by rfl)]
            go_simp
            refine (CTx.out _ _ (HZN.out.later hHeld0)).mono ?_
            rintro e wa ⟨rfl, ba⟩
            refine hK.out _ _ (below_up hHeld0 ba) (fun hHeld1 => ?_)
            clear hK K hHeld0
            try simp only [Act.put, List.setIfInBounds_toArray, List.set_cons_zero, List.set_cons_succ]
            refine wpAnyH_take (i := 3) (oi := { dst := some 56, op := Op.binOp BinOp.neq 9 (Operand.tmp 54) (Operand.tmp 55) 9, type := 4, pos := "ref.go:198", after := #[{ on := 1, ground := Ground.data }, { on := 2, ground := Ground.data }], guard := none }) (v := Value.bool true) rfl (by kernel_rfl) (by kernel_rfl) (by kernel_rfl) (fun _ _ _ h => h) (Or.inl ⟨by rfl, ?_⟩) (by assumption) ?_
            · intro W hSw
              try dsimp only at hSw
              go_simp
              try with_reducible rfl
            try simp only [Act.put, List.setIfInBounds_toArray, List.set_cons_zero, List.set_cons_succ]
            refine wpAnyH_take (i := 4) (oi := { dst := some 57, op := Op.move (Operand.tmp 56), type := 4, pos := "ref.go:198", after := #[{ on := 3, ground := Ground.data }, { on := 1, ground := Ground.chain }], guard := none }) (v := Value.bool true) rfl (by kernel_rfl) (by kernel_rfl) (by kernel_rfl) (fun _ _ _ h => h) (Or.inl ⟨by rfl, ?_⟩) (by assumption) ?_
            · intro W hSw
              try dsimp only at hSw
              go_simp
              try with_reducible rfl
            try simp only [Act.put, List.setIfInBounds_toArray, List.set_cons_zero, List.set_cons_succ]
            refine wpAnyH_take (i := 5) (oi := { dst := some 58, op := Op.load 40 (Operand.tmp 4), type := 40, pos := "ref.go:198", after := #[{ on := 4, ground := Ground.guard }], guard := some (4, false) }) (v := undef) rfl (by kernel_rfl) (by kernel_rfl) (by kernel_rfl) (fun _ _ _ h => h) (Or.inr ⟨by rfl, rfl⟩) (by assumption) ?_
            try simp only [Act.put, List.setIfInBounds_toArray, List.set_cons_zero, List.set_cons_succ]
            refine wpAnyH_take (i := 6) (oi := { dst := some 59, op := Op.call { callee := Callee.value (Operand.func 49), args := #[Operand.const (Value.int IntKind.i64 127)], argTypes := #[3] }, type := 40, pos := "ref.go:198", after := #[{ on := 4, ground := Ground.chain }, { on := 4, ground := Ground.guard }], guard := some (4, false) }) (v := undef) rfl (by kernel_rfl) (by kernel_rfl) (by kernel_rfl) (fun _ _ _ h => h) (Or.inr ⟨by rfl, rfl⟩) (by assumption) ?_
            try simp only [Act.put, List.setIfInBounds_toArray, List.set_cons_zero, List.set_cons_succ]
            refine wpAnyH_take (i := 7) (oi := { dst := some 60, op := Op.call { callee := Callee.value (Operand.func 46), args := #[Operand.tmp 59], argTypes := #[40] }, type := 40, pos := "ref.go:198", after := #[{ on := 6, ground := Ground.data }, { on := 6, ground := Ground.chain }, { on := 4, ground := Ground.guard }], guard := some (4, false) }) (v := undef) rfl (by kernel_rfl) (by kernel_rfl) (by kernel_rfl) (fun _ _ _ h => h) (Or.inr ⟨by rfl, rfl⟩) (by assumption) ?_
            try simp only [Act.put, List.setIfInBounds_toArray, List.set_cons_zero, List.set_cons_succ]
            refine wpAnyH_take (i := 8) (oi := { dst := some 61, op := Op.call { callee := Callee.value (Operand.func 18), args := #[Operand.tmp 58, Operand.tmp 60], argTypes := #[40, 40] }, type := 4, pos := "ref.go:198", after := #[{ on := 5, ground := Ground.data }, { on := 7, ground := Ground.data }, { on := 7, ground := Ground.chain }, { on := 4, ground := Ground.guard }], guard := some (4, false) }) (v := undef) rfl (by kernel_rfl) (by kernel_rfl) (by kernel_rfl) (fun _ _ _ h => h) (Or.inr ⟨by rfl, rfl⟩) (by assumption) ?_
            try simp only [Act.put, List.setIfInBounds_toArray, List.set_cons_zero, List.set_cons_succ]
            refine wpAnyH_take (i := 9) (oi := { dst := some 62, op := Op.pick (Operand.tmp 57) (Operand.const (Value.bool true)) (Operand.tmp 61), type := 4, pos := "ref.go:198", after := #[{ on := 4, ground := Ground.data }, { on := 8, ground := Ground.data }], guard := none }) (v := Value.bool true) rfl (by kernel_rfl) (by kernel_rfl) (by kernel_rfl) (fun _ _ _ h => h) (Or.inl ⟨by rfl, ?_⟩) (by assumption) ?_
            · intro W hSw
              try dsimp only at hSw
              go_simp
              try with_reducible rfl
            try simp only [Act.put, List.setIfInBounds_toArray, List.set_cons_zero, List.set_cons_succ]
            refine wpAnyH_take (i := 10) (oi := { dst := some 63, op := Op.move (Operand.tmp 62), type := 4, pos := "ref.go:198", after := #[{ on := 9, ground := Ground.data }, { on := 8, ground := Ground.chain }], guard := none }) (v := Value.bool true) rfl (by kernel_rfl) (by kernel_rfl) (by kernel_rfl) (fun _ _ _ h => h) (Or.inl ⟨by rfl, ?_⟩) (by assumption) ?_
            · intro W hSw
              try dsimp only at hSw
              go_simp
              try with_reducible rfl
            try simp only [Act.put, List.setIfInBounds_toArray, List.set_cons_zero, List.set_cons_succ]
            refine wpAnyH_take (i := 11) (oi := { dst := some 64, op := Op.load 40 (Operand.tmp 4), type := 40, pos := "ref.go:198", after := #[{ on := 10, ground := Ground.guard }], guard := some (10, false) }) (v := undef) rfl (by kernel_rfl) (by kernel_rfl) (by kernel_rfl) (fun _ _ _ h => h) (Or.inr ⟨by rfl, rfl⟩) (by assumption) ?_
            try simp only [Act.put, List.setIfInBounds_toArray, List.set_cons_zero, List.set_cons_succ]
            refine wpAnyH_take (i := 12) (oi := { dst := some 65, op := Op.call { callee := Callee.value (Operand.func 49), args := #[Operand.const (Value.int IntKind.i64 127)], argTypes := #[3] }, type := 40, pos := "ref.go:198", after := #[{ on := 10, ground := Ground.chain }, { on := 10, ground := Ground.guard }], guard := some (10, false) }) (v := undef) rfl (by kernel_rfl) (by kernel_rfl) (by kernel_rfl) (fun _ _ _ h => h) (Or.inr ⟨by rfl, rfl⟩) (by assumption) ?_
            try simp only [Act.put, List.setIfInBounds_toArray, List.set_cons_zero, List.set_cons_succ]
            refine wpAnyH_take (i := 13) (oi := { dst := some 66, op := Op.call { callee := Callee.value (Operand.func 18), args := #[Operand.tmp 64, Operand.tmp 65], argTypes := #[40, 40] }, type := 4, pos := "ref.go:198", after := #[{ on := 11, ground := Ground.data }, { on := 12, ground := Ground.data }, { on := 12, ground := Ground.chain }, { on := 10, ground := Ground.guard }], guard := some (10, false) }) (v := undef) rfl (by kernel_rfl) (by kernel_rfl) (by kernel_rfl) (fun _ _ _ h => h) (Or.inr ⟨by rfl, rfl⟩) (by assumption) ?_
            try simp only [Act.put, List.setIfInBounds_toArray, List.set_cons_zero, List.set_cons_succ]
            refine wpAnyH_take (i := 14) (oi := { dst := some 67, op := Op.unOp UnOp.not 4 (Operand.tmp 66), type := 4, pos := "ref.go:198", after := #[{ on := 13, ground := Ground.data }, { on := 10, ground := Ground.guard }], guard := some (10, false) }) (v := undef) rfl (by kernel_rfl) (by kernel_rfl) (by kernel_rfl) (fun _ _ _ h => h) (Or.inr ⟨by rfl, rfl⟩) (by assumption) ?_
            try simp only [Act.put, List.setIfInBounds_toArray, List.set_cons_zero, List.set_cons_succ]
            refine wpAnyH_take (i := 15) (oi := { dst := some 68, op := Op.pick (Operand.tmp 63) (Operand.const (Value.bool true)) (Operand.tmp 67), type := 4, pos := "ref.go:198", after := #[{ on := 10, ground := Ground.data }, { on := 14, ground := Ground.data }], guard := none }) (v := Value.bool true) rfl (by kernel_rfl) (by kernel_rfl) (by kernel_rfl) (fun _ _ _ h => h) (Or.inl ⟨by rfl, ?_⟩) (by assumption) ?_
            · intro W hSw
              try dsimp only at hSw
              go_simp
              try with_reducible rfl
            try simp only [Act.put, List.setIfInBounds_toArray, List.set_cons_zero, List.set_cons_succ]
            refine wpAnyH_done (by kernel_rfl) ?_ _
            refine NoPanic.normal ?_
            have B8 := hid hHeld1
            clear hHeld1
            have RB := hid (HRBW.out.later B8.out)
            have KK := hid (below_up HBW.out B8.out)
            clear HZB HZN HRBW HBW B8
            go_wp2_with fail
            refine (rZero _).mono ?_
            rintro e wy ⟨rfl, Z9, b9⟩
            have R9 := (RB.out.later b9)
            have r0 := R9.dig
            have r1 := R9.sgn
            have f0 := R9.frz 0
            have f1 := R9.frz 1
            have N9 : NmB wy wa.heap.size 0 := ⟨_, Z9, fun _ => Nat.succ_pos 65535, dv_none (fun _ => rfl) 24⟩
            have P := hid (R9.pt (.slice (some ⟨wa.heap.size, 0, none⟩) 24 24) false)
            have NP := hid (N9.off R9 (.slice (some ⟨wa.heap.size, 0, none⟩) 24 24) (.bool false))
            have BP := hid (below_pt (below_up KK.out b9) (Nat.le_refl w.heap.size) (.slice (some ⟨wa.heap.size, 0, none⟩) 24 24) (.bool false))
            unfold pt at P NP BP
            clear R9 N9 Z9 b9
            go_wp2_with fail
            generalize World.setCell _ _ _ = wv at *
            have e0 := P.out.dig
            have e1 := P.out.sgn
            simp [bodyPost, results, Tryd.results22, go_sem, e0, e1]
            exact ⟨_, ⟨rfl, HNO.out.1⟩, by rw [HNO.out.2]; exact NP.out, by rw [HNO.out.2]; exact Int.le_refl 0, BP.out⟩
  · subst hf0
    subst h45
    have hz0 : (0 : Int) < (s.size : Int) := by omega
    by_cases hbig : 41 < s.size
    · have hbi : (41 : Int) < (s.size : Int) := by omega
      have HNO := hid (HNOB.out hbig)
      obtain ⟨⟨ga, AB, AN⟩, RB, -, -, BB⟩ := ST.out
      have c0 := AB.dig
      have c1 := AB.sgn
      have r0 := RB.dig
      have r1 := RB.sgn
      have f0 := RB.frz 0
      have f1 := RB.frz 1
      rw [show decide ((0 : Int) < 0) = false by decide] at c1
      have P := hid (RB.pt (.slice (some ⟨ga, 0, none⟩) 24 24) false)
      have NP := hid (AN.off RB (.slice (some ⟨ga, 0, none⟩) 24 24) (.bool false))
      have BP := hid (below_pt BB (Nat.le_refl w.heap.size) (.slice (some ⟨ga, 0, none⟩) 24 24) (.bool false))
      unfold pt at P NP BP
      clear AB AN RB BB ST
      go_wp2_with fail
      generalize World.setCell _ _ _ = wv at *
      have e0 := P.out.dig
      have e1 := P.out.sgn
      simp [bodyPost, results, Tryd.results22, go_sem, e0, e1]
      exact ⟨_, ⟨rfl, HNO.out.1⟩, by rw [HNO.out.2]; exact NP.out, by rw [HNO.out.2]; exact Int.le_refl 0, BP.out⟩
    · have hbi : ¬ (41 : Int) < (s.size : Int) := by omega
      go_wp2_with fail
      go_loopw [6] (fun ix wr => ∃ i : Nat, 1 ≤ i ∧ i ≤ s.size ∧ ix = .int .i64 (i : Int) ∧ Hid (Rst wr w.heap.size bA ((vN ((l.drop 1).take (i - 1)) : Nat) : Int) w) ∧ Hid (∀ c ∈ (l.drop 1).take (i - 1), digB c)) (fun ix _ => s.size - (intOf ix).toNat)
      case atStart => exact ⟨1, Nat.le_refl _, by omega, rfl, ST, fun c hc => by simp at hc⟩
      case round =>
        rename World => wr
        clear ST
        obtain ⟨i, hfi, hi', rfl, SS, HDG⟩ := hrel
        by_cases hlt : i < s.size
        · have hii : (i : Int) < (s.size : Int) := by omega
          have hil : i < l.length := by rw [HLL.out]; exact hlt
          have hstep := step_list hfi hil
          have hci : l[i] = s[i]'hlt := by have e := HL.out; subst e; exact at_list hlt
          rw [hci] at hstep
          have hmem : s[i]'hlt ∈ l.drop 1 := by rw [← hci, List.mem_drop_iff_getElem]; exact ⟨i - 1, by omega, by simp [show 1 + (i - 1) = i by omega]⟩
          obtain ⟨x, hx⟩ : ∃ x : Nat, (s[i]'hlt).toNat = x := ⟨_, rfl⟩
          have hxl : x < 256 := by rw [← hx]; exact (s[i]'hlt).toNat_lt
          by_cases hdg : 48 ≤ x ∧ x ≤ 57
          · obtain ⟨hd1, hd2⟩ := hdg
            have hd1' : ¬ (x : Int) < 48 := by omega
            have hd2' : ¬ (57 : Int) < (x : Int) := by omega
            have HDG2 : Hid (∀ c ∈ (l.drop 1).take (i + 1 - 1), digB c) := fun c hc => by
              rw [hstep, List.mem_append, List.mem_singleton] at hc
              rcases hc with hc | rfl
              · exact HDG.out c hc
              · unfold digB; rw [hx]; exact ⟨hd1, hd2⟩
            have hV := vN_snoc ((l.drop 1).take (i - 1)) (s[i]'hlt)
            rw [← hstep, hx] at hV
            have hVl : vN ((l.drop 1).take (i - 1)) < 10 ^ 41 := Nat.lt_of_lt_of_le (vN_lt HDG.out) (Nat.pow_le_pow_right (by decide) (by rw [List.length_take]; omega))
            obtain ⟨V, hVV⟩ : ∃ V, V = vN ((l.drop 1).take (i - 1)) := ⟨_, rfl⟩
            obtain ⟨V2, hV2⟩ : ∃ V2, V2 = vN ((l.drop 1).take (i + 1 - 1)) := ⟨_, rfl⟩
            rw [← hVV] at hV hVl SS
            rw [← hV2] at hV
            have HV2 := hid hV2
            obtain ⟨d, hd⟩ : ∃ d, d = x - 48 := ⟨_, rfl⟩
            have ed : (x : Int) - 48 = (d : Int) := by omega
            have hdl : d < 10 := by omega
            have hw8 : IntKind.u8.wrap (d : Int) = (d : Int) := by rw [IntKind.wrap_u8]; omega
            have hw64 : IntKind.u64.wrap (d : Int) = (d : Int) := by rw [wrap_uw]; unfold uw; omega
            obtain ⟨lim1, lim2⟩ := read_lim hVl
            have CTm := hid (cTms (V : Int) false (decide_eq_false (by omega)) 10 ((V * 10 : Nat) : Int) false (by rw [Int.natCast_mul]) (decide_eq_false (by omega)) (by decide) (by rw [Int.natAbs_natCast]; exact lim1))
            have CSm := hid (rSmall d (by omega))
            have CPl := hid (cPlus ((V * 10 : Nat) : Int) (d : Int) (V2 : Int) false false false (by rw [hV, ← hd, Int.natCast_add]) (decide_eq_false (by omega)) (decide_eq_false (by omega)) (decide_eq_false (by omega)) (by rw [Int.natAbs_natCast, Int.natAbs_natCast]; omega))
            obtain ⟨⟨ga, AB, AN⟩, RB, q1, q2, BB⟩ := SS.out
            rw [show decide ((V : Int) < 0) = false from decide_eq_false (by omega)] at AB
            have HAB := hid AB
            have HAN := hid AN
            have HRB2 := hid RB
            have HQ := hid (And.intro q1 (And.intro q2 BB))
            have c0 := AB.dig
            have c1 := AB.sgn
            clear SS AB AN RB q1 q2 BB hV hVl hVV hV2 lim1 lim2 hstep hci hmem HDG hd hd1 hd2
            go_wp2_with fail
            go_region_with first
              | (go_at_call 44; refine (CTm.out _ _ (by exact NmB.same HAN.out rfl)).mono ?_; rintro e wa ⟨g1, rfl, -, N1, ba⟩; have XA := hid (Bn.later (w := wr.drew) HAB.out ba); have RA := hid (Bn.later (w := wr.drew) HRB2.out ba); have TA := hid N1; have QA := hid (below_up (b := wr.drew) HQ.out.2.2.drew ba); clear N1 ba)
              | (go_at_call 36; refine (CSm.out _).mono ?_; rintro e wb ⟨g2, rfl, -, N2, bb⟩; have XB := hid (XA.out.later bb); have RB3 := hid (RA.out.later bb); have TB := hid (TA.out.later bb); have DB3 := hid N2; have QB := hid (below_up QA.out bb); clear N2 bb)
              | (go_at_call 45; refine (CPl.out _ _ _ TB.out DB3.out).mono ?_; rintro e wc ⟨g3, rfl, -, N3, bc⟩; have XC := XB.out.later bc; have z0 := XC.dig; have z1 := XC.sgn; have f0 := XC.frz 0; have f1 := XC.frz 1; have ST2 : Hid (Rst (pt wc bA (.slice (some ⟨g3, 0, none⟩) 24 24) (.bool false)) w.heap.size bA (V2 : Int) w) := ⟨⟨g3, by rw [show decide ((V2 : Int) < 0) = false from decide_eq_false (by omega)]; exact XC.pt _ _, N3.off XC _ _⟩, (RB3.out.later bc).off XC (Nat.ne_of_lt HQ.out.1) _ _, HQ.out.1, HQ.out.2.1, below_pt (below_up QB.out bc) (Nat.le_of_lt HQ.out.1) _ _⟩; unfold pt at ST2; clear XC N3 bc)
            all_goals
              generalize World.setCell _ _ _ = w9 at *
              go_wp2_with fail
              exact ⟨⟨i + 1, by omega, by omega, by go_num, by rw [← HV2.out]; exact ST2, HDG2⟩, by simp [intOf]; omega⟩
          · have HNO := hid (HNOD.out (fun h => hdg (by have := h _ hmem; unfold digB at this; rw [hx] at this; exact this)))
            obtain ⟨-, RB0, -, -, BB⟩ := SS.out
            have RB := hid RB0
            have KK := hid BB
            clear RB0 BB SS hstep hci hmem HDG
            by_cases hx1 : x < 48
            · have hx1' : (x : Int) < 48 := by omega
              go_wp2_with fail
              refine (rZero _).mono ?_
              rintro e wy ⟨rfl, Z9, b9⟩
              have R9 := (RB.out.later b9)
              have r0 := R9.dig
              have r1 := R9.sgn
              have f0 := R9.frz 0
              have f1 := R9.frz 1
              have N9 : NmB wy wr.heap.size 0 := ⟨_, Z9, fun _ => Nat.succ_pos 65535, dv_none (fun _ => rfl) 24⟩
              have P := hid (R9.pt (.slice (some ⟨wr.heap.size, 0, none⟩) 24 24) false)
              have NP := hid (N9.off R9 (.slice (some ⟨wr.heap.size, 0, none⟩) 24 24) (.bool false))
              have BP := hid (below_pt (below_up KK.out b9) (Nat.le_refl w.heap.size) (.slice (some ⟨wr.heap.size, 0, none⟩) 24 24) (.bool false))
              unfold pt at P NP BP
              clear R9 N9 Z9 b9
              go_wp2_with fail
              generalize World.setCell _ _ _ = wv at *
              have e0 := P.out.dig
              have e1 := P.out.sgn
              simp [bodyPost, results, Tryd.results22, go_sem, e0, e1]
              exact ⟨_, ⟨rfl, HNO.out.1⟩, by rw [HNO.out.2]; exact NP.out, by rw [HNO.out.2]; exact Int.le_refl 0, BP.out⟩
            · have hx1' : ¬ (x : Int) < 48 := by omega
              have hx2' : (57 : Int) < (x : Int) := by omega
              go_wp2_with fail
              refine (rZero _).mono ?_
              rintro e wy ⟨rfl, Z9, b9⟩
              have R9 := (RB.out.later b9)
              have r0 := R9.dig
              have r1 := R9.sgn
              have f0 := R9.frz 0
              have f1 := R9.frz 1
              have N9 : NmB wy wr.heap.size 0 := ⟨_, Z9, fun _ => Nat.succ_pos 65535, dv_none (fun _ => rfl) 24⟩
              have P := hid (R9.pt (.slice (some ⟨wr.heap.size, 0, none⟩) 24 24) false)
              have NP := hid (N9.off R9 (.slice (some ⟨wr.heap.size, 0, none⟩) 24 24) (.bool false))
              have BP := hid (below_pt (below_up KK.out b9) (Nat.le_refl w.heap.size) (.slice (some ⟨wr.heap.size, 0, none⟩) 24 24) (.bool false))
              unfold pt at P NP BP
              clear R9 N9 Z9 b9
              go_wp2_with fail
              generalize World.setCell _ _ _ = wv at *
              have e0 := P.out.dig
              have e1 := P.out.sgn
              simp [bodyPost, results, Tryd.results22, go_sem, e0, e1]
              exact ⟨_, ⟨rfl, HNO.out.1⟩, by rw [HNO.out.2]; exact NP.out, by rw [HNO.out.2]; exact Int.le_refl 0, BP.out⟩
        · obtain rfl : i = s.size := by omega
          have HALL : Hid (∀ c ∈ l.drop 1, digB c) := by
            show ∀ c ∈ l.drop 1, digB c
            have := HDG.out
            rwa [List.take_of_length_le (by rw [List.length_drop, HLL.out]; exact Nat.le_refl _)] at this
          rw [List.take_of_length_le (by rw [List.length_drop, HLL.out]; exact Nat.le_refl _)] at SS
          have hsg := sgV_1 HF.out
          clear hlt hi' hfi HDG
          obtain ⟨⟨ga, AB, AN⟩, RB, q1, q2, BB⟩ := SS.out
          obtain ⟨V, hV⟩ : ∃ V, V = vN (l.drop 1) := ⟨_, rfl⟩
          rw [← hV] at AB AN hsg
          rw [show decide ((V : Int) < 0) = false from decide_eq_false (by omega)] at AB
          obtain ⟨v, hv⟩ : ∃ v, sgV l = v := ⟨_, rfl⟩
          rw [hv] at hsg HNOT HYES
          obtain ⟨sv, hsv⟩ : ∃ sv, decide (v < 0) = sv := ⟨_, rfl⟩
          have HSV := hid hsv
          clear SS hV hv
          have CT0 := hid (cTurned (V : Int) v false sv hsg.symm (decide_eq_false (by omega)) hsv ga wr AN)
          have c0 := AB.dig
          have c1 := AB.sgn
          have HAB := hid AB
          have HRB2 := hid RB
          have HQ := hid (And.intro q1 BB)
          clear AB AN RB q1 q2 BB
          go_wp2_with fail
          refine CT0.out.mono ?_
          rintro e w6 ⟨rfl, N6, b6⟩
          have X6 := HAB.out.later b6
          have z0 := X6.dig
          have z1 := X6.sgn
          have f0 := X6.frz 0
          have f1 := X6.frz 1
          have HZB := hid (X6.pt (.slice (some ⟨ga, 0, none⟩) 24 24) sv)
          have HZN := hid (N6.off X6 (.slice (some ⟨ga, 0, none⟩) 24 24) (.bool sv))
          have HRBW := hid ((HRB2.out.later b6).off X6 (Nat.ne_of_lt HQ.out.1) (.slice (some ⟨ga, 0, none⟩) 24 24) (.bool sv))
          have HBW := hid (below_pt (below_up HQ.out.2 b6) (Nat.le_of_lt HQ.out.1) (.slice (some ⟨ga, 0, none⟩) 24 24) (.bool sv))
          unfold pt at HZB HZN HRBW HBW
          clear X6 N6 b6 c0 c1 HAB HRB2
          go_upto_region 15 with fail
          generalize World.setCell _ _ _ = w7 at *
          clear z0 z1 f0 f1
          have CTx := hid (rText v sv hsv)
          have CPw := hid (cPower 127 (by decide) T127 (by decide))
          have CTu := hid (cTurned T127 (-T127) false true rfl (by decide) (by decide))
          by_cases htx : s = txt v
          · have hTs : ((txt v).toList == s.toList) = true := by rw [← htx]; simp
            by_cases hr : v < -T127
            · have HNO := hid (HNOT.out HALL.out (.inr (by unfold Is; unfold T127 at hr; omega)))
              have CB1 := hid (cBelow v (-T127) sv true true hsv (by decide) (decide_eq_true hr))
              clear htx hr hsv hsg HNOB HNOD HNOT HYES
              generalize txt v = T at *
              refine wp_region_noPanic ?_
              refine wp_region_held_drew (S := fun W => Below w7.heap.size w7 W) (by kernel_rfl) ((Below.refl _ _).drew) (fun hHeld0 => ?_)
              refine wpAnyH_take (i := 0) (oi := { dst := some 53, op := Op.load 40 (Operand.tmp 4), type := 40, pos := "ref.go:198", after := #[], guard := none }) (v := ?_) rfl (by kernel_rfl) (by kernel_rfl) (by kernel_rfl) (fun _ _ _ h => h) (Or.inl ⟨by rfl, ?_⟩) (by assumption) ?_
              rotate_left
              · intro W hSw
                try dsimp only at hSw
                have q0 := (HZB.out.later hSw).dig; have q1 := (HZB.out.later hSw).sgn
                go_simp
                try with_reducible rfl
              try simp only [Act.put, List.setIfInBounds_toArray, List.set_cons_zero, List.set_cons_succ]
              refine wpAnyH_take (i := 2) (oi := { dst := some 55, op := Op.move (Operand.tmp 0), type := 9, pos := "ref.go:198", after := #[], guard := none }) (v := ?_) rfl (by kernel_rfl) (by kernel_rfl) (by kernel_rfl) (fun _ _ _ h => h) (Or.inl ⟨by rfl, ?_⟩) (by assumption) ?_
              rotate_left
              · intro W hSw
                try dsimp only at hSw
                go_simp
                try with_reducible rfl
              try simp only [Act.put, List.setIfInBounds_toArray, List.set_cons_zero, List.set_cons_succ]
              refine wpAnyH_ready (rs := [1]) (by kernel_rfl) (by simp) ?_
              refine AllReadyH.cons (o := { dst := some 54, op := Op.call { callee := Callee.value (Operand.func 19), args := #[Operand.tmp 53], argTypes := #[40] }, type := 9, pos := "ref.go:198", after := #[{ on := 0, ground := Ground.data }], guard := none }) rfl (fun K hK => ?_) AllReadyH.nil
              rw [if_pos (by rfl)]
              go_simp
              refine (CTx.out _ _ (HZN.out.later hHeld0)).mono ?_
              rintro e wa ⟨rfl, ba⟩
              refine hK.out _ _ (below_up hHeld0 ba) (fun hHeld1 => ?_)
              clear hK K hHeld0
              try simp only [Act.put, List.setIfInBounds_toArray, List.set_cons_zero, List.set_cons_succ]
              refine wpAnyH_take (i := 3) (oi := { dst := some 56, op := Op.binOp BinOp.neq 9 (Operand.tmp 54) (Operand.tmp 55) 9, type := 4, pos := "ref.go:198", after := #[{ on := 1, ground := Ground.data }, { on := 2, ground := Ground.data }], guard := none }) (v := Value.bool false) rfl (by kernel_rfl) (by kernel_rfl) (by kernel_rfl) (fun _ _ _ h => h) (Or.inl ⟨by rfl, ?_⟩) (by assumption) ?_
              · intro W hSw
                try dsimp only at hSw
                go_simp
                try with_reducible rfl
              try simp only [Act.put, List.setIfInBounds_toArray, List.set_cons_zero, List.set_cons_succ]
              refine wpAnyH_take (i := 4) (oi := { dst := some 57, op := Op.move (Operand.tmp 56), type := 4, pos := "ref.go:198", after := #[{ on := 3, ground := Ground.data }, { on := 1, ground := Ground.chain }], guard := none }) (v := Value.bool false) rfl (by kernel_rfl) (by kernel_rfl) (by kernel_rfl) (fun _ _ _ h => h) (Or.inl ⟨by rfl, ?_⟩) (by assumption) ?_
              · intro W hSw
                try dsimp only at hSw
                go_simp
                try with_reducible rfl
              try simp only [Act.put, List.setIfInBounds_toArray, List.set_cons_zero, List.set_cons_succ]
              refine wpAnyH_take (i := 5) (oi := { dst := some 58, op := Op.load 40 (Operand.tmp 4), type := 40, pos := "ref.go:198", after := #[{ on := 4, ground := Ground.guard }], guard := some (4, false) }) (v := ?_) rfl (by kernel_rfl) (by kernel_rfl) (by kernel_rfl) (fun _ _ _ h => h) (Or.inl ⟨by rfl, ?_⟩) (by assumption) ?_
              rotate_left
              · intro W hSw
                try dsimp only at hSw
                have q0 := (HZB.out.later hSw).dig; have q1 := (HZB.out.later hSw).sgn
                go_simp
                try with_reducible rfl
              try simp only [Act.put, List.setIfInBounds_toArray, List.set_cons_zero, List.set_cons_succ]
              refine wpAnyH_ready (rs := [6]) (by kernel_rfl) (by simp) ?_
              refine AllReadyH.cons (o := { dst := some 59, op := Op.call { callee := Callee.value (Operand.func 49), args := #[Operand.const (Value.int IntKind.i64 127)], argTypes := #[3] }, type := 40, pos := "ref.go:198", after := #[{ on := 4, ground := Ground.chain }, { on := 4, ground := Ground.guard }], guard := some (4, false) }) rfl (fun K hK => ?_) AllReadyH.nil
              rw [if_pos (by rfl)]
              go_simp
              refine (CPw.out _).mono ?_
              rintro e wb ⟨gp, rfl, -, NP, bb⟩
              refine hK.out _ _ (below_up hHeld1 bb) (fun hHeld2 => ?_)
              clear hK K hHeld1
              try simp only [Act.put, List.setIfInBounds_toArray, List.set_cons_zero, List.set_cons_succ]
              refine wpAnyH_ready (rs := [7]) (by kernel_rfl) (by simp) ?_
              refine AllReadyH.cons (o := { dst := some 60, op := Op.call { callee := Callee.value (Operand.func 46), args := #[Operand.tmp 59], argTypes := #[40] }, type := 40, pos := "ref.go:198", after := #[{ on := 6, ground := Ground.data }, { on := 6, ground := Ground.chain }, { on := 4, ground := Ground.guard }], guard := some (4, false) }) rfl (fun K hK => ?_) AllReadyH.nil
              rw [if_pos (by rfl)]
              go_simp
              refine (CTu.out _ _ NP).mono ?_
              rintro e wc ⟨rfl, NT, bc⟩
              refine hK.out _ _ (below_up hHeld2 bc) (fun hHeld3 => ?_)
              clear hK K hHeld2
              try simp only [Act.put, List.setIfInBounds_toArray, List.set_cons_zero, List.set_cons_succ]
              refine wpAnyH_ready (rs := [8]) (by kernel_rfl) (by simp) ?_
              refine AllReadyH.cons (o := { dst := some 61, op := Op.call { callee := Callee.value (Operand.func 18), args := #[Operand.tmp 58, Operand.tmp 60], argTypes := #[40, 40] }, type := 4, pos := "ref.go:198", after := #[{ on := 5, ground := Ground.data }, { on := 7, ground := Ground.data }, { on := 7, ground := Ground.chain }, { on := 4, ground := Ground.guard }], guard := some (4, false) }) rfl (fun K hK => ?_) AllReadyH.nil
              rw [if_pos (by rfl)]
              go_simp
              refine (CB1.out _ _ _ (HZN.out.later hHeld3) NT).mono ?_
              rintro e wd ⟨rfl, bd⟩
              refine hK.out _ _ (below_up hHeld3 bd) (fun hHeld4 => ?_)
              clear hK K hHeld3
              try simp only [Act.put, List.setIfInBounds_toArray, List.set_cons_zero, List.set_cons_succ]
              refine wpAnyH_take (i := 9) (oi := { dst := some 62, op := Op.pick (Operand.tmp 57) (Operand.const (Value.bool true)) (Operand.tmp 61), type := 4, pos := "ref.go:198", after := #[{ on := 4, ground := Ground.data }, { on := 8, ground := Ground.data }], guard := none }) (v := Value.bool true) rfl (by kernel_rfl) (by kernel_rfl) (by kernel_rfl) (fun _ _ _ h => h) (Or.inl ⟨by rfl, ?_⟩) (by assumption) ?_
              · intro W hSw
                try dsimp only at hSw
                go_simp
                try with_reducible rfl
              try simp only [Act.put, List.setIfInBounds_toArray, List.set_cons_zero, List.set_cons_succ]
              refine wpAnyH_take (i := 10) (oi := { dst := some 63, op := Op.move (Operand.tmp 62), type := 4, pos := "ref.go:198", after := #[{ on := 9, ground := Ground.data }, { on := 8, ground := Ground.chain }], guard := none }) (v := Value.bool true) rfl (by kernel_rfl) (by kernel_rfl) (by kernel_rfl) (fun _ _ _ h => h) (Or.inl ⟨by rfl, ?_⟩) (by assumption) ?_
              · intro W hSw
                try dsimp only at hSw
                go_simp
                try with_reducible rfl
              try simp only [Act.put, List.setIfInBounds_toArray, List.set_cons_zero, List.set_cons_succ]
              refine wpAnyH_take (i := 11) (oi := { dst := some 64, op := Op.load 40 (Operand.tmp 4), type := 40, pos := "ref.go:198", after := #[{ on := 10, ground := Ground.guard }], guard := some (10, false) }) (v := undef) rfl (by kernel_rfl) (by kernel_rfl) (by kernel_rfl) (fun _ _ _ h => h) (Or.inr ⟨by rfl, rfl⟩) (by assumption) ?_
              try simp only [Act.put, List.setIfInBounds_toArray, List.set_cons_zero, List.set_cons_succ]
              refine wpAnyH_take (i := 12) (oi := { dst := some 65, op := Op.call { callee := Callee.value (Operand.func 49), args := #[Operand.const (Value.int IntKind.i64 127)], argTypes := #[3] }, type := 40, pos := "ref.go:198", after := #[{ on := 10, ground := Ground.chain }, { on := 10, ground := Ground.guard }], guard := some (10, false) }) (v := undef) rfl (by kernel_rfl) (by kernel_rfl) (by kernel_rfl) (fun _ _ _ h => h) (Or.inr ⟨by rfl, rfl⟩) (by assumption) ?_
              try simp only [Act.put, List.setIfInBounds_toArray, List.set_cons_zero, List.set_cons_succ]
              refine wpAnyH_take (i := 13) (oi := { dst := some 66, op := Op.call { callee := Callee.value (Operand.func 18), args := #[Operand.tmp 64, Operand.tmp 65], argTypes := #[40, 40] }, type := 4, pos := "ref.go:198", after := #[{ on := 11, ground := Ground.data }, { on := 12, ground := Ground.data }, { on := 12, ground := Ground.chain }, { on := 10, ground := Ground.guard }], guard := some (10, false) }) (v := undef) rfl (by kernel_rfl) (by kernel_rfl) (by kernel_rfl) (fun _ _ _ h => h) (Or.inr ⟨by rfl, rfl⟩) (by assumption) ?_
              try simp only [Act.put, List.setIfInBounds_toArray, List.set_cons_zero, List.set_cons_succ]
              refine wpAnyH_take (i := 14) (oi := { dst := some 67, op := Op.unOp UnOp.not 4 (Operand.tmp 66), type := 4, pos := "ref.go:198", after := #[{ on := 13, ground := Ground.data }, { on := 10, ground := Ground.guard }], guard := some (10, false) }) (v := undef) rfl (by kernel_rfl) (by kernel_rfl) (by kernel_rfl) (fun _ _ _ h => h) (Or.inr ⟨by rfl, rfl⟩) (by assumption) ?_
              try simp only [Act.put, List.setIfInBounds_toArray, List.set_cons_zero, List.set_cons_succ]
              refine wpAnyH_take (i := 15) (oi := { dst := some 68, op := Op.pick (Operand.tmp 63) (Operand.const (Value.bool true)) (Operand.tmp 67), type := 4, pos := "ref.go:198", after := #[{ on := 10, ground := Ground.data }, { on := 14, ground := Ground.data }], guard := none }) (v := Value.bool true) rfl (by kernel_rfl) (by kernel_rfl) (by kernel_rfl) (fun _ _ _ h => h) (Or.inl ⟨by rfl, ?_⟩) (by assumption) ?_
              · intro W hSw
                try dsimp only at hSw
                go_simp
                try with_reducible rfl
              try simp only [Act.put, List.setIfInBounds_toArray, List.set_cons_zero, List.set_cons_succ]
              refine wpAnyH_done (by kernel_rfl) ?_ _
              refine NoPanic.normal ?_
              have B8 := hid hHeld4
              clear hHeld4
              have RB := hid (HRBW.out.later B8.out)
              have KK := hid (below_up HBW.out B8.out)
              clear HZB HZN HRBW HBW B8
              go_wp2_with fail
              refine (rZero _).mono ?_
              rintro e wy ⟨rfl, Z9, b9⟩
              have R9 := (RB.out.later b9)
              have r0 := R9.dig
              have r1 := R9.sgn
              have f0 := R9.frz 0
              have f1 := R9.frz 1
              have N9 : NmB wy wd.heap.size 0 := ⟨_, Z9, fun _ => Nat.succ_pos 65535, dv_none (fun _ => rfl) 24⟩
              have P := hid (R9.pt (.slice (some ⟨wd.heap.size, 0, none⟩) 24 24) false)
              have NP := hid (N9.off R9 (.slice (some ⟨wd.heap.size, 0, none⟩) 24 24) (.bool false))
              have BP := hid (below_pt (below_up KK.out b9) (Nat.le_refl w.heap.size) (.slice (some ⟨wd.heap.size, 0, none⟩) 24 24) (.bool false))
              unfold pt at P NP BP
              clear R9 N9 Z9 b9
              go_wp2_with fail
              generalize World.setCell _ _ _ = wv at *
              have e0 := P.out.dig
              have e1 := P.out.sgn
              simp [bodyPost, results, Tryd.results22, go_sem, e0, e1]
              exact ⟨_, ⟨rfl, HNO.out.1⟩, by rw [HNO.out.2]; exact NP.out, by rw [HNO.out.2]; exact Int.le_refl 0, BP.out⟩
            · have HYE := hid (HYES.out htx (by unfold Is; unfold T127 at hr; omega))
              have CB1 := hid (cBelow v (-T127) sv true false hsv (by decide) (decide_eq_false hr))
              have CB2 := hid (cBelow v T127 sv false true hsv (by decide) (decide_eq_true (by unfold T127; omega)))
              clear htx hr hsv hsg HNOB HNOD HNOT HYES
              generalize txt v = T at *
              refine wp_region_noPanic ?_
              refine wp_region_held_drew (S := fun W => Below w7.heap.size w7 W) (by kernel_rfl) ((Below.refl _ _).drew) (fun hHeld0 => ?_)
              refine wpAnyH_take (i := 0) (oi := { dst := some 53, op := Op.load 40 (Operand.tmp 4), type := 40, pos := "ref.go:198", after := #[], guard := none }) (v := ?_) rfl (by kernel_rfl) (by kernel_rfl) (by kernel_rfl) (fun _ _ _ h => h) (Or.inl ⟨by rfl, ?_⟩) (by assumption) ?_
              rotate_left
              · intro W hSw
                try dsimp only at hSw
                have q0 := (HZB.out.later hSw).dig; have q1 := (HZB.out.later hSw).sgn
                go_simp
                try with_reducible rfl
              try simp only [Act.put, List.setIfInBounds_toArray, List.set_cons_zero, List.set_cons_succ]
              refine wpAnyH_take (i := 2) (oi := { dst := some 55, op := Op.move (Operand.tmp 0), type := 9, pos := "ref.go:198", after := #[], guard := none }) (v := ?_) rfl (by kernel_rfl) (by kernel_rfl) (by kernel_rfl) (fun _ _ _ h => h) (Or.inl ⟨by rfl, ?_⟩) (by assumption) ?_
              rotate_left
              · intro W hSw
                try dsimp only at hSw
                go_simp
                try with_reducible rfl
              try simp only [Act.put, List.setIfInBounds_toArray, List.set_cons_zero, List.set_cons_succ]
              refine wpAnyH_ready (rs := [1]) (by kernel_rfl) (by simp) ?_
              refine AllReadyH.cons (o := { dst := some 54, op := Op.call { callee := Callee.value (Operand.func 19), args := #[Operand.tmp 53], argTypes := #[40] }, type := 9, pos := "ref.go:198", after := #[{ on := 0, ground := Ground.data }], guard := none }) rfl (fun K hK => ?_) AllReadyH.nil
              rw [if_pos (by rfl)]
              go_simp
              refine (CTx.out _ _ (HZN.out.later hHeld0)).mono ?_
              rintro e wa ⟨rfl, ba⟩
              refine hK.out _ _ (below_up hHeld0 ba) (fun hHeld1 => ?_)
              clear hK K hHeld0
              try simp only [Act.put, List.setIfInBounds_toArray, List.set_cons_zero, List.set_cons_succ]
              refine wpAnyH_take (i := 3) (oi := { dst := some 56, op := Op.binOp BinOp.neq 9 (Operand.tmp 54) (Operand.tmp 55) 9, type := 4, pos := "ref.go:198", after := #[{ on := 1, ground := Ground.data }, { on := 2, ground := Ground.data }], guard := none }) (v := Value.bool false) rfl (by kernel_rfl) (by kernel_rfl) (by kernel_rfl) (fun _ _ _ h => h) (Or.inl ⟨by rfl, ?_⟩) (by assumption) ?_
              · intro W hSw
                try dsimp only at hSw
                go_simp
                try with_reducible rfl
              try simp only [Act.put, List.setIfInBounds_toArray, List.set_cons_zero, List.set_cons_succ]
              refine wpAnyH_take (i := 4) (oi := { dst := some 57, op := Op.move (Operand.tmp 56), type := 4, pos := "ref.go:198", after := #[{ on := 3, ground := Ground.data }, { on := 1, ground := Ground.chain }], guard := none }) (v := Value.bool false) rfl (by kernel_rfl) (by kernel_rfl) (by kernel_rfl) (fun _ _ _ h => h) (Or.inl ⟨by rfl, ?_⟩) (by assumption) ?_
              · intro W hSw
                try dsimp only at hSw
                go_simp
                try with_reducible rfl
              try simp only [Act.put, List.setIfInBounds_toArray, List.set_cons_zero, List.set_cons_succ]
              refine wpAnyH_take (i := 5) (oi := { dst := some 58, op := Op.load 40 (Operand.tmp 4), type := 40, pos := "ref.go:198", after := #[{ on := 4, ground := Ground.guard }], guard := some (4, false) }) (v := ?_) rfl (by kernel_rfl) (by kernel_rfl) (by kernel_rfl) (fun _ _ _ h => h) (Or.inl ⟨by rfl, ?_⟩) (by assumption) ?_
              rotate_left
              · intro W hSw
                try dsimp only at hSw
                have q0 := (HZB.out.later hSw).dig; have q1 := (HZB.out.later hSw).sgn
                go_simp
                try with_reducible rfl
              try simp only [Act.put, List.setIfInBounds_toArray, List.set_cons_zero, List.set_cons_succ]
              refine wpAnyH_ready (rs := [6]) (by kernel_rfl) (by simp) ?_
              refine AllReadyH.cons (o := { dst := some 59, op := Op.call { callee := Callee.value (Operand.func 49), args := #[Operand.const (Value.int IntKind.i64 127)], argTypes := #[3] }, type := 40, pos := "ref.go:198", after := #[{ on := 4, ground := Ground.chain }, { on := 4, ground := Ground.guard }], guard := some (4, false) }) rfl (fun K hK => ?_) AllReadyH.nil
              rw [if_pos (by rfl)]
              go_simp
              refine (CPw.out _).mono ?_
              rintro e wb ⟨gp, rfl, -, NP, bb⟩
              refine hK.out _ _ (below_up hHeld1 bb) (fun hHeld2 => ?_)
              clear hK K hHeld1
              try simp only [Act.put, List.setIfInBounds_toArray, List.set_cons_zero, List.set_cons_succ]
              refine wpAnyH_ready (rs := [7]) (by kernel_rfl) (by simp) ?_
              refine AllReadyH.cons (o := { dst := some 60, op := Op.call { callee := Callee.value (Operand.func 46), args := #[Operand.tmp 59], argTypes := #[40] }, type := 40, pos := "ref.go:198", after := #[{ on := 6, ground := Ground.data }, { on := 6, ground := Ground.chain }, { on := 4, ground := Ground.guard }], guard := some (4, false) }) rfl (fun K hK => ?_) AllReadyH.nil
              rw [if_pos (by rfl)]
              go_simp
              refine (CTu.out _ _ NP).mono ?_
              rintro e wc ⟨rfl, NT, bc⟩
              refine hK.out _ _ (below_up hHeld2 bc) (fun hHeld3 => ?_)
              clear hK K hHeld2
              try simp only [Act.put, List.setIfInBounds_toArray, List.set_cons_zero, List.set_cons_succ]
              refine wpAnyH_ready (rs := [8]) (by kernel_rfl) (by simp) ?_
              refine AllReadyH.cons (o := { dst := some 61, op := Op.call { callee := Callee.value (Operand.func 18), args := #[Operand.tmp 58, Operand.tmp 60], argTypes := #[40, 40] }, type := 4, pos := "ref.go:198", after := #[{ on := 5, ground := Ground.data }, { on := 7, ground := Ground.data }, { on := 7, ground := Ground.chain }, { on := 4, ground := Ground.guard }], guard := some (4, false) }) rfl (fun K hK => ?_) AllReadyH.nil
              rw [if_pos (by rfl)]
              go_simp
              refine (CB1.out _ _ _ (HZN.out.later hHeld3) NT).mono ?_
              rintro e wd ⟨rfl, bd⟩
              refine hK.out _ _ (below_up hHeld3 bd) (fun hHeld4 => ?_)
              clear hK K hHeld3
              try simp only [Act.put, List.setIfInBounds_toArray, List.set_cons_zero, List.set_cons_succ]
              refine wpAnyH_take (i := 9) (oi := { dst := some 62, op := Op.pick (Operand.tmp 57) (Operand.const (Value.bool true)) (Operand.tmp 61), type := 4, pos := "ref.go:198", after := #[{ on := 4, ground := Ground.data }, { on := 8, ground := Ground.data }], guard := none }) (v := Value.bool false) rfl (by kernel_rfl) (by kernel_rfl) (by kernel_rfl) (fun _ _ _ h => h) (Or.inl ⟨by rfl, ?_⟩) (by assumption) ?_
              · intro W hSw
                try dsimp only at hSw
                go_simp
                try with_reducible rfl
              try simp only [Act.put, List.setIfInBounds_toArray, List.set_cons_zero, List.set_cons_succ]
              refine wpAnyH_take (i := 10) (oi := { dst := some 63, op := Op.move (Operand.tmp 62), type := 4, pos := "ref.go:198", after := #[{ on := 9, ground := Ground.data }, { on := 8, ground := Ground.chain }], guard := none }) (v := Value.bool false) rfl (by kernel_rfl) (by kernel_rfl) (by kernel_rfl) (fun _ _ _ h => h) (Or.inl ⟨by rfl, ?_⟩) (by assumption) ?_
              · intro W hSw
                try dsimp only at hSw
                go_simp
                try with_reducible rfl
              try simp only [Act.put, List.setIfInBounds_toArray, List.set_cons_zero, List.set_cons_succ]
              refine wpAnyH_take (i := 11) (oi := { dst := some 64, op := Op.load 40 (Operand.tmp 4), type := 40, pos := "ref.go:198", after := #[{ on := 10, ground := Ground.guard }], guard := some (10, false) }) (v := ?_) rfl (by kernel_rfl) (by kernel_rfl) (by kernel_rfl) (fun _ _ _ h => h) (Or.inl ⟨by rfl, ?_⟩) (by assumption) ?_
              rotate_left
              · intro W hSw
                try dsimp only at hSw
                have q0 := (HZB.out.later hSw).dig; have q1 := (HZB.out.later hSw).sgn
                go_simp
                try with_reducible rfl
              try simp only [Act.put, List.setIfInBounds_toArray, List.set_cons_zero, List.set_cons_succ]
              refine wpAnyH_ready (rs := [12]) (by kernel_rfl) (by simp) ?_
              refine AllReadyH.cons (o := { dst := some 65, op := Op.call { callee := Callee.value (Operand.func 49), args := #[Operand.const (Value.int IntKind.i64 127)], argTypes := #[3] }, type := 40, pos := "ref.go:198", after := #[{ on := 10, ground := Ground.chain }, { on := 10, ground := Ground.guard }], guard := some (10, false) }) rfl (fun K hK => ?_) AllReadyH.nil
              rw [if_pos (by rfl)]
              go_simp
              refine (CPw.out _).mono ?_
              rintro e we ⟨gq, rfl, -, NQ, be⟩
              refine hK.out _ _ (below_up hHeld4 be) (fun hHeld5 => ?_)
              clear hK K hHeld4
              try simp only [Act.put, List.setIfInBounds_toArray, List.set_cons_zero, List.set_cons_succ]
              refine wpAnyH_ready (rs := [13]) (by kernel_rfl) (by simp) ?_
              refine AllReadyH.cons (o := { dst := some 66, op := Op.call { callee := Callee.value (Operand.func 18), args := #[Operand.tmp 64, Operand.tmp 65], argTypes := #[40, 40] }, type := 4, pos := "ref.go:198", after := #[{ on := 11, ground := Ground.data }, { on := 12, ground := Ground.data }, { on := 12, ground := Ground.chain }, { on := 10, ground := Ground.guard }], guard := some (10, false) }) rfl (fun K hK => ?_) AllReadyH.nil
              rw [if_pos (by rfl)]
              go_simp
              refine (CB2.out _ _ _ (HZN.out.later hHeld5) NQ).mono ?_
              rintro e wf ⟨rfl, bf⟩
              refine hK.out _ _ (below_up hHeld5 bf) (fun hHeld6 => ?_)
              clear hK K hHeld5
              try simp only [Act.put, List.setIfInBounds_toArray, List.set_cons_zero, List.set_cons_succ]
              refine wpAnyH_take (i := 14) (oi := { dst := some 67, op := Op.unOp UnOp.not 4 (Operand.tmp 66), type := 4, pos := "ref.go:198", after := #[{ on := 13, ground := Ground.data }, { on := 10, ground := Ground.guard }], guard := some (10, false) }) (v := Value.bool false) rfl (by kernel_rfl) (by kernel_rfl) (by kernel_rfl) (fun _ _ _ h => h) (Or.inl ⟨by rfl, ?_⟩) (by assumption) ?_
              · intro W hSw
                try dsimp only at hSw
                go_simp
                try with_reducible rfl
              try simp only [Act.put, List.setIfInBounds_toArray, List.set_cons_zero, List.set_cons_succ]
              refine wpAnyH_take (i := 15) (oi := { dst := some 68, op := Op.pick (Operand.tmp 63) (Operand.const (Value.bool true)) (Operand.tmp 67), type := 4, pos := "ref.go:198", after := #[{ on := 10, ground := Ground.data }, { on := 14, ground := Ground.data }], guard := none }) (v := Value.bool false) rfl (by kernel_rfl) (by kernel_rfl) (by kernel_rfl) (fun _ _ _ h => h) (Or.inl ⟨by rfl, ?_⟩) (by assumption) ?_
              · intro W hSw
                try dsimp only at hSw
                go_simp
                try with_reducible rfl
              try simp only [Act.put, List.setIfInBounds_toArray, List.set_cons_zero, List.set_cons_succ]
              refine wpAnyH_done (by kernel_rfl) ?_ _
              refine NoPanic.normal ?_
              have B8 := hid hHeld6
              clear hHeld6
              have A8 := HZB.out.later B8.out
              have R8 := HRBW.out.later B8.out
              have N8 := HZN.out.later B8.out
              have c0 := A8.dig
              have c1 := A8.sgn
              have r0 := R8.dig
              have r1 := R8.sgn
              have f0 := R8.frz 0
              have f1 := R8.frz 1
              have P := hid (R8.pt (.slice (some ⟨ga, 0, none⟩) 24 24) sv)
              have NP := hid (N8.off R8 (.slice (some ⟨ga, 0, none⟩) 24 24) (.bool sv))
              have BP := hid (below_pt (below_up HBW.out B8.out) (Nat.le_refl w.heap.size) (.slice (some ⟨ga, 0, none⟩) 24 24) (.bool sv))
              unfold pt at P NP BP
              clear A8 R8 N8 HZB HZN HRBW HBW B8
              go_wp2_with fail
              generalize World.setCell _ _ _ = wv at *
              have e0 := P.out.dig
              have e1 := P.out.sgn
              simp [bodyPost, results, Tryd.results22, go_sem, e0, e1]
              have NPx := NP.out
              have SVx := HSV.out
              rw [← HYE.out.2] at NPx SVx
              refine ⟨ga, ?_⟩
              by_cases hneg : rv < 0
              · exact .inr ⟨⟨⟨rfl, by rw [← SVx]; exact decide_eq_true hneg⟩, HYE.out.1⟩, NPx, hneg, BP.out⟩
              · exact .inl ⟨⟨⟨rfl, by rw [← SVx]; exact decide_eq_false hneg⟩, HYE.out.1⟩, NPx, by omega, BP.out⟩
          · have HNO := hid (HNOT.out HALL.out (.inl htx))
            have hTs : ((txt v).toList == s.toList) = false := by
              rw [beq_eq_false_iff_ne]; intro e; apply htx
              rw [Go.ByteArray.toList_eq, Go.ByteArray.toList_eq] at e
              exact (ByteArray.ext (Array.toList_inj.1 e)).symm
            clear htx hsv hsg HNOB HNOD HNOT HYES
            generalize txt v = T at *
            refine wp_region_noPanic ?_
            refine wp_region_held_drew (S := fun W => Below w7.heap.size w7 W) (by kernel_rfl) ((Below.refl _ _).drew) (fun hHeld0 => ?_)
            refine wpAnyH_take (i := 0) (oi := { dst := some 53, op := Op.load 40 (Operand.tmp 4), type := 40, pos := "ref.go:198", after := #[], guard := none }) (v := ?_) rfl (by kernel_rfl) (by kernel_rfl) (by kernel_rfl) (fun _ _ _ h => h) (Or.inl ⟨by rfl, ?_⟩) (by assumption) ?_
            rotate_left
            · intro W hSw
              try dsimp only at hSw
              have q0 := (HZB.out.later hSw).dig; have q1 := (HZB.out.later hSw).sgn
              go_simp
              try with_reducible rfl
            try simp only [Act.put, List.setIfInBounds_toArray, List.set_cons_zero, List.set_cons_succ]
            refine wpAnyH_take (i := 2) (oi := { dst := some 55, op := Op.move (Operand.tmp 0), type := 9, pos := "ref.go:198", after := #[], guard := none }) (v := ?_) rfl (by kernel_rfl) (by kernel_rfl) (by kernel_rfl) (fun _ _ _ h => h) (Or.inl ⟨by rfl, ?_⟩) (by assumption) ?_
            rotate_left
            · intro W hSw
              try dsimp only at hSw
              go_simp
              try with_reducible rfl
            try simp only [Act.put, List.setIfInBounds_toArray, List.set_cons_zero, List.set_cons_succ]
            refine wpAnyH_ready (rs := [1]) (by kernel_rfl) (by simp) ?_
            refine AllReadyH.cons (o := { dst := some 54, op := Op.call { callee := Callee.value (Operand.func 19), args := #[Operand.tmp 53], argTypes := #[40] }, type := 9, pos := "ref.go:198", after := #[{ on := 0, ground := Ground.data }], guard := none }) rfl (fun K hK => ?_) AllReadyH.nil
            rw [if_pos (by rfl)]
            go_simp
            refine (CTx.out _ _ (HZN.out.later hHeld0)).mono ?_
            rintro e wa ⟨rfl, ba⟩
            refine hK.out _ _ (below_up hHeld0 ba) (fun hHeld1 => ?_)
            clear hK K hHeld0
            try simp only [Act.put, List.setIfInBounds_toArray, List.set_cons_zero, List.set_cons_succ]
            refine wpAnyH_take (i := 3) (oi := { dst := some 56, op := Op.binOp BinOp.neq 9 (Operand.tmp 54) (Operand.tmp 55) 9, type := 4, pos := "ref.go:198", after := #[{ on := 1, ground := Ground.data }, { on := 2, ground := Ground.data }], guard := none }) (v := Value.bool true) rfl (by kernel_rfl) (by kernel_rfl) (by kernel_rfl) (fun _ _ _ h => h) (Or.inl ⟨by rfl, ?_⟩) (by assumption) ?_
            · intro W hSw
              try dsimp only at hSw
              go_simp
              try with_reducible rfl
            try simp only [Act.put, List.setIfInBounds_toArray, List.set_cons_zero, List.set_cons_succ]
            refine wpAnyH_take (i := 4) (oi := { dst := some 57, op := Op.move (Operand.tmp 56), type := 4, pos := "ref.go:198", after := #[{ on := 3, ground := Ground.data }, { on := 1, ground := Ground.chain }], guard := none }) (v := Value.bool true) rfl (by kernel_rfl) (by kernel_rfl) (by kernel_rfl) (fun _ _ _ h => h) (Or.inl ⟨by rfl, ?_⟩) (by assumption) ?_
            · intro W hSw
              try dsimp only at hSw
              go_simp
              try with_reducible rfl
            try simp only [Act.put, List.setIfInBounds_toArray, List.set_cons_zero, List.set_cons_succ]
            refine wpAnyH_take (i := 5) (oi := { dst := some 58, op := Op.load 40 (Operand.tmp 4), type := 40, pos := "ref.go:198", after := #[{ on := 4, ground := Ground.guard }], guard := some (4, false) }) (v := undef) rfl (by kernel_rfl) (by kernel_rfl) (by kernel_rfl) (fun _ _ _ h => h) (Or.inr ⟨by rfl, rfl⟩) (by assumption) ?_
            try simp only [Act.put, List.setIfInBounds_toArray, List.set_cons_zero, List.set_cons_succ]
            refine wpAnyH_take (i := 6) (oi := { dst := some 59, op := Op.call { callee := Callee.value (Operand.func 49), args := #[Operand.const (Value.int IntKind.i64 127)], argTypes := #[3] }, type := 40, pos := "ref.go:198", after := #[{ on := 4, ground := Ground.chain }, { on := 4, ground := Ground.guard }], guard := some (4, false) }) (v := undef) rfl (by kernel_rfl) (by kernel_rfl) (by kernel_rfl) (fun _ _ _ h => h) (Or.inr ⟨by rfl, rfl⟩) (by assumption) ?_
            try simp only [Act.put, List.setIfInBounds_toArray, List.set_cons_zero, List.set_cons_succ]
            refine wpAnyH_take (i := 7) (oi := { dst := some 60, op := Op.call { callee := Callee.value (Operand.func 46), args := #[Operand.tmp 59], argTypes := #[40] }, type := 40, pos := "ref.go:198", after := #[{ on := 6, ground := Ground.data }, { on := 6, ground := Ground.chain }, { on := 4, ground := Ground.guard }], guard := some (4, false) }) (v := undef) rfl (by kernel_rfl) (by kernel_rfl) (by kernel_rfl) (fun _ _ _ h => h) (Or.inr ⟨by rfl, rfl⟩) (by assumption) ?_
            try simp only [Act.put, List.setIfInBounds_toArray, List.set_cons_zero, List.set_cons_succ]
            refine wpAnyH_take (i := 8) (oi := { dst := some 61, op := Op.call { callee := Callee.value (Operand.func 18), args := #[Operand.tmp 58, Operand.tmp 60], argTypes := #[40, 40] }, type := 4, pos := "ref.go:198", after := #[{ on := 5, ground := Ground.data }, { on := 7, ground := Ground.data }, { on := 7, ground := Ground.chain }, { on := 4, ground := Ground.guard }], guard := some (4, false) }) (v := undef) rfl (by kernel_rfl) (by kernel_rfl) (by kernel_rfl) (fun _ _ _ h => h) (Or.inr ⟨by rfl, rfl⟩) (by assumption) ?_
            try simp only [Act.put, List.setIfInBounds_toArray, List.set_cons_zero, List.set_cons_succ]
            refine wpAnyH_take (i := 9) (oi := { dst := some 62, op := Op.pick (Operand.tmp 57) (Operand.const (Value.bool true)) (Operand.tmp 61), type := 4, pos := "ref.go:198", after := #[{ on := 4, ground := Ground.data }, { on := 8, ground := Ground.data }], guard := none }) (v := Value.bool true) rfl (by kernel_rfl) (by kernel_rfl) (by kernel_rfl) (fun _ _ _ h => h) (Or.inl ⟨by rfl, ?_⟩) (by assumption) ?_
            · intro W hSw
              try dsimp only at hSw
              go_simp
              try with_reducible rfl
            try simp only [Act.put, List.setIfInBounds_toArray, List.set_cons_zero, List.set_cons_succ]
            refine wpAnyH_take (i := 10) (oi := { dst := some 63, op := Op.move (Operand.tmp 62), type := 4, pos := "ref.go:198", after := #[{ on := 9, ground := Ground.data }, { on := 8, ground := Ground.chain }], guard := none }) (v := Value.bool true) rfl (by kernel_rfl) (by kernel_rfl) (by kernel_rfl) (fun _ _ _ h => h) (Or.inl ⟨by rfl, ?_⟩) (by assumption) ?_
            · intro W hSw
              try dsimp only at hSw
              go_simp
              try with_reducible rfl
            try simp only [Act.put, List.setIfInBounds_toArray, List.set_cons_zero, List.set_cons_succ]
            refine wpAnyH_take (i := 11) (oi := { dst := some 64, op := Op.load 40 (Operand.tmp 4), type := 40, pos := "ref.go:198", after := #[{ on := 10, ground := Ground.guard }], guard := some (10, false) }) (v := undef) rfl (by kernel_rfl) (by kernel_rfl) (by kernel_rfl) (fun _ _ _ h => h) (Or.inr ⟨by rfl, rfl⟩) (by assumption) ?_
            try simp only [Act.put, List.setIfInBounds_toArray, List.set_cons_zero, List.set_cons_succ]
            refine wpAnyH_take (i := 12) (oi := { dst := some 65, op := Op.call { callee := Callee.value (Operand.func 49), args := #[Operand.const (Value.int IntKind.i64 127)], argTypes := #[3] }, type := 40, pos := "ref.go:198", after := #[{ on := 10, ground := Ground.chain }, { on := 10, ground := Ground.guard }], guard := some (10, false) }) (v := undef) rfl (by kernel_rfl) (by kernel_rfl) (by kernel_rfl) (fun _ _ _ h => h) (Or.inr ⟨by rfl, rfl⟩) (by assumption) ?_
            try simp only [Act.put, List.setIfInBounds_toArray, List.set_cons_zero, List.set_cons_succ]
            refine wpAnyH_take (i := 13) (oi := { dst := some 66, op := Op.call { callee := Callee.value (Operand.func 18), args := #[Operand.tmp 64, Operand.tmp 65], argTypes := #[40, 40] }, type := 4, pos := "ref.go:198", after := #[{ on := 11, ground := Ground.data }, { on := 12, ground := Ground.data }, { on := 12, ground := Ground.chain }, { on := 10, ground := Ground.guard }], guard := some (10, false) }) (v := undef) rfl (by kernel_rfl) (by kernel_rfl) (by kernel_rfl) (fun _ _ _ h => h) (Or.inr ⟨by rfl, rfl⟩) (by assumption) ?_
            try simp only [Act.put, List.setIfInBounds_toArray, List.set_cons_zero, List.set_cons_succ]
            refine wpAnyH_take (i := 14) (oi := { dst := some 67, op := Op.unOp UnOp.not 4 (Operand.tmp 66), type := 4, pos := "ref.go:198", after := #[{ on := 13, ground := Ground.data }, { on := 10, ground := Ground.guard }], guard := some (10, false) }) (v := undef) rfl (by kernel_rfl) (by kernel_rfl) (by kernel_rfl) (fun _ _ _ h => h) (Or.inr ⟨by rfl, rfl⟩) (by assumption) ?_
            try simp only [Act.put, List.setIfInBounds_toArray, List.set_cons_zero, List.set_cons_succ]
            refine wpAnyH_take (i := 15) (oi := { dst := some 68, op := Op.pick (Operand.tmp 63) (Operand.const (Value.bool true)) (Operand.tmp 67), type := 4, pos := "ref.go:198", after := #[{ on := 10, ground := Ground.data }, { on := 14, ground := Ground.data }], guard := none }) (v := Value.bool true) rfl (by kernel_rfl) (by kernel_rfl) (by kernel_rfl) (fun _ _ _ h => h) (Or.inl ⟨by rfl, ?_⟩) (by assumption) ?_
            · intro W hSw
              try dsimp only at hSw
              go_simp
              try with_reducible rfl
            try simp only [Act.put, List.setIfInBounds_toArray, List.set_cons_zero, List.set_cons_succ]
            refine wpAnyH_done (by kernel_rfl) ?_ _
            refine NoPanic.normal ?_
            have B8 := hid hHeld1
            clear hHeld1
            have RB := hid (HRBW.out.later B8.out)
            have KK := hid (below_up HBW.out B8.out)
            clear HZB HZN HRBW HBW B8
            go_wp2_with fail
            refine (rZero _).mono ?_
            rintro e wy ⟨rfl, Z9, b9⟩
            have R9 := (RB.out.later b9)
            have r0 := R9.dig
            have r1 := R9.sgn
            have f0 := R9.frz 0
            have f1 := R9.frz 1
            have N9 : NmB wy wa.heap.size 0 := ⟨_, Z9, fun _ => Nat.succ_pos 65535, dv_none (fun _ => rfl) 24⟩
            have P := hid (R9.pt (.slice (some ⟨wa.heap.size, 0, none⟩) 24 24) false)
            have NP := hid (N9.off R9 (.slice (some ⟨wa.heap.size, 0, none⟩) 24 24) (.bool false))
            have BP := hid (below_pt (below_up KK.out b9) (Nat.le_refl w.heap.size) (.slice (some ⟨wa.heap.size, 0, none⟩) 24 24) (.bool false))
            unfold pt at P NP BP
            clear R9 N9 Z9 b9
            go_wp2_with fail
            generalize World.setCell _ _ _ = wv at *
            have e0 := P.out.dig
            have e1 := P.out.sgn
            simp [bodyPost, results, Tryd.results22, go_sem, e0, e1]
            exact ⟨_, ⟨rfl, HNO.out.1⟩, by rw [HNO.out.2]; exact NP.out, by rw [HNO.out.2]; exact Int.le_refl 0, BP.out⟩
  · subst hf0
    have hz0 : (0 : Int) < (s.size : Int) := by omega
    have h45' : ¬ (x0 : Int) = 45 := by omega
    by_cases hbig : 41 < s.size
    · have hbi : (41 : Int) < (s.size : Int) := by omega
      have HNO := hid (HNOB.out hbig)
      obtain ⟨⟨ga, AB, AN⟩, RB, -, -, BB⟩ := ST.out
      have c0 := AB.dig
      have c1 := AB.sgn
      have r0 := RB.dig
      have r1 := RB.sgn
      have f0 := RB.frz 0
      have f1 := RB.frz 1
      rw [show decide ((0 : Int) < 0) = false by decide] at c1
      have P := hid (RB.pt (.slice (some ⟨ga, 0, none⟩) 24 24) false)
      have NP := hid (AN.off RB (.slice (some ⟨ga, 0, none⟩) 24 24) (.bool false))
      have BP := hid (below_pt BB (Nat.le_refl w.heap.size) (.slice (some ⟨ga, 0, none⟩) 24 24) (.bool false))
      unfold pt at P NP BP
      clear AB AN RB BB ST
      go_wp2_with fail
      generalize World.setCell _ _ _ = wv at *
      have e0 := P.out.dig
      have e1 := P.out.sgn
      simp [bodyPost, results, Tryd.results22, go_sem, e0, e1]
      exact ⟨_, ⟨rfl, HNO.out.1⟩, by rw [HNO.out.2]; exact NP.out, by rw [HNO.out.2]; exact Int.le_refl 0, BP.out⟩
    · have hbi : ¬ (41 : Int) < (s.size : Int) := by omega
      go_wp2_with fail
      go_loopw [6] (fun ix wr => ∃ i : Nat, 0 ≤ i ∧ i ≤ s.size ∧ ix = .int .i64 (i : Int) ∧ Hid (Rst wr w.heap.size bA ((vN ((l.drop 0).take (i - 0)) : Nat) : Int) w) ∧ Hid (∀ c ∈ (l.drop 0).take (i - 0), digB c)) (fun ix _ => s.size - (intOf ix).toNat)
      case atStart => exact ⟨0, Nat.le_refl _, by omega, rfl, ST, fun c hc => by simp at hc⟩
      case round =>
        rename World => wr
        clear ST
        obtain ⟨i, hfi, hi', rfl, SS, HDG⟩ := hrel
        by_cases hlt : i < s.size
        · have hii : (i : Int) < (s.size : Int) := by omega
          have hil : i < l.length := by rw [HLL.out]; exact hlt
          have hstep := step_list hfi hil
          have hci : l[i] = s[i]'hlt := by have e := HL.out; subst e; exact at_list hlt
          rw [hci] at hstep
          have hmem : s[i]'hlt ∈ l.drop 0 := by rw [← hci, List.mem_drop_iff_getElem]; exact ⟨i - 0, by omega, by simp⟩
          obtain ⟨x, hx⟩ : ∃ x : Nat, (s[i]'hlt).toNat = x := ⟨_, rfl⟩
          have hxl : x < 256 := by rw [← hx]; exact (s[i]'hlt).toNat_lt
          by_cases hdg : 48 ≤ x ∧ x ≤ 57
          · obtain ⟨hd1, hd2⟩ := hdg
            have hd1' : ¬ (x : Int) < 48 := by omega
            have hd2' : ¬ (57 : Int) < (x : Int) := by omega
            have HDG2 : Hid (∀ c ∈ (l.drop 0).take (i + 1 - 0), digB c) := fun c hc => by
              rw [hstep, List.mem_append, List.mem_singleton] at hc
              rcases hc with hc | rfl
              · exact HDG.out c hc
              · unfold digB; rw [hx]; exact ⟨hd1, hd2⟩
            have hV := vN_snoc ((l.drop 0).take (i - 0)) (s[i]'hlt)
            rw [← hstep, hx] at hV
            have hVl : vN ((l.drop 0).take (i - 0)) < 10 ^ 41 := Nat.lt_of_lt_of_le (vN_lt HDG.out) (Nat.pow_le_pow_right (by decide) (by rw [List.length_take]; omega))
            obtain ⟨V, hVV⟩ : ∃ V, V = vN ((l.drop 0).take (i - 0)) := ⟨_, rfl⟩
            obtain ⟨V2, hV2⟩ : ∃ V2, V2 = vN ((l.drop 0).take (i + 1 - 0)) := ⟨_, rfl⟩
            rw [← hVV] at hV hVl SS
            rw [← hV2] at hV
            have HV2 := hid hV2
            obtain ⟨d, hd⟩ : ∃ d, d = x - 48 := ⟨_, rfl⟩
            have ed : (x : Int) - 48 = (d : Int) := by omega
            have hdl : d < 10 := by omega
            have hw8 : IntKind.u8.wrap (d : Int) = (d : Int) := by rw [IntKind.wrap_u8]; omega
            have hw64 : IntKind.u64.wrap (d : Int) = (d : Int) := by rw [wrap_uw]; unfold uw; omega
            obtain ⟨lim1, lim2⟩ := read_lim hVl
            have CTm := hid (cTms (V : Int) false (decide_eq_false (by omega)) 10 ((V * 10 : Nat) : Int) false (by rw [Int.natCast_mul]) (decide_eq_false (by omega)) (by decide) (by rw [Int.natAbs_natCast]; exact lim1))
            have CSm := hid (rSmall d (by omega))
            have CPl := hid (cPlus ((V * 10 : Nat) : Int) (d : Int) (V2 : Int) false false false (by rw [hV, ← hd, Int.natCast_add]) (decide_eq_false (by omega)) (decide_eq_false (by omega)) (decide_eq_false (by omega)) (by rw [Int.natAbs_natCast, Int.natAbs_natCast]; omega))
            obtain ⟨⟨ga, AB, AN⟩, RB, q1, q2, BB⟩ := SS.out
            rw [show decide ((V : Int) < 0) = false from decide_eq_false (by omega)] at AB
            have HAB := hid AB
            have HAN := hid AN
            have HRB2 := hid RB
            have HQ := hid (And.intro q1 (And.intro q2 BB))
            have c0 := AB.dig
            have c1 := AB.sgn
            clear SS AB AN RB q1 q2 BB hV hVl hVV hV2 lim1 lim2 hstep hci hmem HDG hd hd1 hd2
            go_wp2_with fail
            go_region_with first
              | (go_at_call 44; refine (CTm.out _ _ (by exact NmB.same HAN.out rfl)).mono ?_; rintro e wa ⟨g1, rfl, -, N1, ba⟩; have XA := hid (Bn.later (w := wr.drew) HAB.out ba); have RA := hid (Bn.later (w := wr.drew) HRB2.out ba); have TA := hid N1; have QA := hid (below_up (b := wr.drew) HQ.out.2.2.drew ba); clear N1 ba)
              | (go_at_call 36; refine (CSm.out _).mono ?_; rintro e wb ⟨g2, rfl, -, N2, bb⟩; have XB := hid (XA.out.later bb); have RB3 := hid (RA.out.later bb); have TB := hid (TA.out.later bb); have DB3 := hid N2; have QB := hid (below_up QA.out bb); clear N2 bb)
              | (go_at_call 45; refine (CPl.out _ _ _ TB.out DB3.out).mono ?_; rintro e wc ⟨g3, rfl, -, N3, bc⟩; have XC := XB.out.later bc; have z0 := XC.dig; have z1 := XC.sgn; have f0 := XC.frz 0; have f1 := XC.frz 1; have ST2 : Hid (Rst (pt wc bA (.slice (some ⟨g3, 0, none⟩) 24 24) (.bool false)) w.heap.size bA (V2 : Int) w) := ⟨⟨g3, by rw [show decide ((V2 : Int) < 0) = false from decide_eq_false (by omega)]; exact XC.pt _ _, N3.off XC _ _⟩, (RB3.out.later bc).off XC (Nat.ne_of_lt HQ.out.1) _ _, HQ.out.1, HQ.out.2.1, below_pt (below_up QB.out bc) (Nat.le_of_lt HQ.out.1) _ _⟩; unfold pt at ST2; clear XC N3 bc)
            all_goals
              generalize World.setCell _ _ _ = w9 at *
              go_wp2_with fail
              exact ⟨⟨i + 1, by omega, by omega, by go_num, by rw [← HV2.out]; exact ST2, HDG2⟩, by simp [intOf]; omega⟩
          · have HNO := hid (HNOD.out (fun h => hdg (by have := h _ hmem; unfold digB at this; rw [hx] at this; exact this)))
            obtain ⟨-, RB0, -, -, BB⟩ := SS.out
            have RB := hid RB0
            have KK := hid BB
            clear RB0 BB SS hstep hci hmem HDG
            by_cases hx1 : x < 48
            · have hx1' : (x : Int) < 48 := by omega
              go_wp2_with fail
              refine (rZero _).mono ?_
              rintro e wy ⟨rfl, Z9, b9⟩
              have R9 := (RB.out.later b9)
              have r0 := R9.dig
              have r1 := R9.sgn
              have f0 := R9.frz 0
              have f1 := R9.frz 1
              have N9 : NmB wy wr.heap.size 0 := ⟨_, Z9, fun _ => Nat.succ_pos 65535, dv_none (fun _ => rfl) 24⟩
              have P := hid (R9.pt (.slice (some ⟨wr.heap.size, 0, none⟩) 24 24) false)
              have NP := hid (N9.off R9 (.slice (some ⟨wr.heap.size, 0, none⟩) 24 24) (.bool false))
              have BP := hid (below_pt (below_up KK.out b9) (Nat.le_refl w.heap.size) (.slice (some ⟨wr.heap.size, 0, none⟩) 24 24) (.bool false))
              unfold pt at P NP BP
              clear R9 N9 Z9 b9
              go_wp2_with fail
              generalize World.setCell _ _ _ = wv at *
              have e0 := P.out.dig
              have e1 := P.out.sgn
              simp [bodyPost, results, Tryd.results22, go_sem, e0, e1]
              exact ⟨_, ⟨rfl, HNO.out.1⟩, by rw [HNO.out.2]; exact NP.out, by rw [HNO.out.2]; exact Int.le_refl 0, BP.out⟩
            · have hx1' : ¬ (x : Int) < 48 := by omega
              have hx2' : (57 : Int) < (x : Int) := by omega
              go_wp2_with fail
              refine (rZero _).mono ?_
              rintro e wy ⟨rfl, Z9, b9⟩
              have R9 := (RB.out.later b9)
              have r0 := R9.dig
              have r1 := R9.sgn
              have f0 := R9.frz 0
              have f1 := R9.frz 1
              have N9 : NmB wy wr.heap.size 0 := ⟨_, Z9, fun _ => Nat.succ_pos 65535, dv_none (fun _ => rfl) 24⟩
              have P := hid (R9.pt (.slice (some ⟨wr.heap.size, 0, none⟩) 24 24) false)
              have NP := hid (N9.off R9 (.slice (some ⟨wr.heap.size, 0, none⟩) 24 24) (.bool false))
              have BP := hid (below_pt (below_up KK.out b9) (Nat.le_refl w.heap.size) (.slice (some ⟨wr.heap.size, 0, none⟩) 24 24) (.bool false))
              unfold pt at P NP BP
              clear R9 N9 Z9 b9
              go_wp2_with fail
              generalize World.setCell _ _ _ = wv at *
              have e0 := P.out.dig
              have e1 := P.out.sgn
              simp [bodyPost, results, Tryd.results22, go_sem, e0, e1]
              exact ⟨_, ⟨rfl, HNO.out.1⟩, by rw [HNO.out.2]; exact NP.out, by rw [HNO.out.2]; exact Int.le_refl 0, BP.out⟩
        · obtain rfl : i = s.size := by omega
          have HALL : Hid (∀ c ∈ l.drop 0, digB c) := by
            show ∀ c ∈ l.drop 0, digB c
            have := HDG.out
            rwa [List.take_of_length_le (by rw [List.length_drop, HLL.out]; exact Nat.le_refl _)] at this
          rw [List.take_of_length_le (by rw [List.length_drop, HLL.out]; exact Nat.le_refl _)] at SS
          have hsg := sgV_0 HF.out
          clear hlt hi' hfi HDG
          obtain ⟨⟨ga, AB, AN⟩, RB, q1, q2, BB⟩ := SS.out
          obtain ⟨V, hV⟩ : ∃ V, V = vN (l.drop 0) := ⟨_, rfl⟩
          rw [← hV] at AB AN hsg
          rw [show decide ((V : Int) < 0) = false from decide_eq_false (by omega)] at AB
          obtain ⟨v, hv⟩ : ∃ v, sgV l = v := ⟨_, rfl⟩
          rw [hv] at hsg HNOT HYES
          obtain ⟨sv, hsv⟩ : ∃ sv, decide (v < 0) = sv := ⟨_, rfl⟩
          have HSV := hid hsv
          clear SS hV hv
          have hsvf : sv = false := by rw [← hsv]; exact decide_eq_false (by omega)
          rw [← hsg] at AN
          rw [← hsvf] at AB
          have HZB := hid AB
          have HZN := hid AN
          have HRBW := hid RB
          have HBW := hid BB
          clear AB AN RB q1 q2 BB hsvf
          go_upto_region 15 with fail
          obtain ⟨w7, hw7⟩ : ∃ w7 : World, w7 = wr := ⟨_, rfl⟩
          rw [← hw7] at HZB HZN HRBW HBW ⊢
          clear hw7
          have CTx := hid (rText v sv hsv)
          have CPw := hid (cPower 127 (by decide) T127 (by decide))
          have CTu := hid (cTurned T127 (-T127) false true rfl (by decide) (by decide))
          by_cases htx : s = txt v
          · have hTs : ((txt v).toList == s.toList) = true := by rw [← htx]; simp
            by_cases hr : T127 ≤ v
            · have HNO := hid (HNOT.out HALL.out (.inr (by unfold Is; unfold T127 at hr; omega)))
              have CB1 := hid (cBelow v (-T127) sv true false hsv (by decide) (decide_eq_false (by unfold T127; omega)))
              have CB2 := hid (cBelow v T127 sv false false hsv (by decide) (decide_eq_false (by omega)))
              clear htx hr hsv hsg HNOB HNOD HNOT HYES
              generalize txt v = T at *
              refine wp_region_noPanic ?_
              refine wp_region_held_drew (S := fun W => Below w7.heap.size w7 W) (by kernel_rfl) ((Below.refl _ _).drew) (fun hHeld0 => ?_)
              refine wpAnyH_take (i := 0) (oi := { dst := some 53, op := Op.load 40 (Operand.tmp 4), type := 40, pos := "ref.go:198", after := #[], guard := none }) (v := ?_) rfl (by kernel_rfl) (by kernel_rfl) (by kernel_rfl) (fun _ _ _ h => h) (Or.inl ⟨by rfl, ?_⟩) (by assumption) ?_
              rotate_left
              · intro W hSw
                try dsimp only at hSw
                have q0 := (HZB.out.later hSw).dig; have q1 := (HZB.out.later hSw).sgn
                go_simp
                try with_reducible rfl
              try simp only [Act.put, List.setIfInBounds_toArray, List.set_cons_zero, List.set_cons_succ]
              refine wpAnyH_take (i := 2) (oi := { dst := some 55, op := Op.move (Operand.tmp 0), type := 9, pos := "ref.go:198", after := #[], guard := none }) (v := ?_) rfl (by kernel_rfl) (by kernel_rfl) (by kernel_rfl) (fun _ _ _ h => h) (Or.inl ⟨by rfl, ?_⟩) (by assumption) ?_
              rotate_left
              · intro W hSw
                try dsimp only at hSw
                go_simp
                try with_reducible rfl
              try simp only [Act.put, List.setIfInBounds_toArray, List.set_cons_zero, List.set_cons_succ]
              refine wpAnyH_ready (rs := [1]) (by kernel_rfl) (by simp) ?_
              refine AllReadyH.cons (o := { dst := some 54, op := Op.call { callee := Callee.value (Operand.func 19), args := #[Operand.tmp 53], argTypes := #[40] }, type := 9, pos := "ref.go:198", after := #[{ on := 0, ground := Ground.data }], guard := none }) rfl (fun K hK => ?_) AllReadyH.nil
              rw [if_pos (by rfl)]
              go_simp
              refine (CTx.out _ _ (HZN.out.later hHeld0)).mono ?_
              rintro e wa ⟨rfl, ba⟩
              refine hK.out _ _ (below_up hHeld0 ba) (fun hHeld1 => ?_)
              clear hK K hHeld0
              try simp only [Act.put, List.setIfInBounds_toArray, List.set_cons_zero, List.set_cons_succ]
              refine wpAnyH_take (i := 3) (oi := { dst := some 56, op := Op.binOp BinOp.neq 9 (Operand.tmp 54) (Operand.tmp 55) 9, type := 4, pos := "ref.go:198", after := #[{ on := 1, ground := Ground.data }, { on := 2, ground := Ground.data }], guard := none }) (v := Value.bool false) rfl (by kernel_rfl) (by kernel_rfl) (by kernel_rfl) (fun _ _ _ h => h) (Or.inl ⟨by rfl, ?_⟩) (by assumption) ?_
              · intro W hSw
                try dsimp only at hSw
                go_simp
                try with_reducible rfl
              try simp only [Act.put, List.setIfInBounds_toArray, List.set_cons_zero, List.set_cons_succ]
              refine wpAnyH_take (i := 4) (oi := { dst := some 57, op := Op.move (Operand.tmp 56), type := 4, pos := "ref.go:198", after := #[{ on := 3, ground := Ground.data }, { on := 1, ground := Ground.chain }], guard := none }) (v := Value.bool false) rfl (by kernel_rfl) (by kernel_rfl) (by kernel_rfl) (fun _ _ _ h => h) (Or.inl ⟨by rfl, ?_⟩) (by assumption) ?_
              · intro W hSw
                try dsimp only at hSw
                go_simp
                try with_reducible rfl
              try simp only [Act.put, List.setIfInBounds_toArray, List.set_cons_zero, List.set_cons_succ]
              refine wpAnyH_take (i := 5) (oi := { dst := some 58, op := Op.load 40 (Operand.tmp 4), type := 40, pos := "ref.go:198", after := #[{ on := 4, ground := Ground.guard }], guard := some (4, false) }) (v := ?_) rfl (by kernel_rfl) (by kernel_rfl) (by kernel_rfl) (fun _ _ _ h => h) (Or.inl ⟨by rfl, ?_⟩) (by assumption) ?_
              rotate_left
              · intro W hSw
                try dsimp only at hSw
                have q0 := (HZB.out.later hSw).dig; have q1 := (HZB.out.later hSw).sgn
                go_simp
                try with_reducible rfl
              try simp only [Act.put, List.setIfInBounds_toArray, List.set_cons_zero, List.set_cons_succ]
              refine wpAnyH_ready (rs := [6]) (by kernel_rfl) (by simp) ?_
              refine AllReadyH.cons (o := { dst := some 59, op := Op.call { callee := Callee.value (Operand.func 49), args := #[Operand.const (Value.int IntKind.i64 127)], argTypes := #[3] }, type := 40, pos := "ref.go:198", after := #[{ on := 4, ground := Ground.chain }, { on := 4, ground := Ground.guard }], guard := some (4, false) }) rfl (fun K hK => ?_) AllReadyH.nil
              rw [if_pos (by rfl)]
              go_simp
              refine (CPw.out _).mono ?_
              rintro e wb ⟨gp, rfl, -, NP, bb⟩
              refine hK.out _ _ (below_up hHeld1 bb) (fun hHeld2 => ?_)
              clear hK K hHeld1
              try simp only [Act.put, List.setIfInBounds_toArray, List.set_cons_zero, List.set_cons_succ]
              refine wpAnyH_ready (rs := [7]) (by kernel_rfl) (by simp) ?_
              refine AllReadyH.cons (o := { dst := some 60, op := Op.call { callee := Callee.value (Operand.func 46), args := #[Operand.tmp 59], argTypes := #[40] }, type := 40, pos := "ref.go:198", after := #[{ on := 6, ground := Ground.data }, { on := 6, ground := Ground.chain }, { on := 4, ground := Ground.guard }], guard := some (4, false) }) rfl (fun K hK => ?_) AllReadyH.nil
              rw [if_pos (by rfl)]
              go_simp
              refine (CTu.out _ _ NP).mono ?_
              rintro e wc ⟨rfl, NT, bc⟩
              refine hK.out _ _ (below_up hHeld2 bc) (fun hHeld3 => ?_)
              clear hK K hHeld2
              try simp only [Act.put, List.setIfInBounds_toArray, List.set_cons_zero, List.set_cons_succ]
              refine wpAnyH_ready (rs := [8]) (by kernel_rfl) (by simp) ?_
              refine AllReadyH.cons (o := { dst := some 61, op := Op.call { callee := Callee.value (Operand.func 18), args := #[Operand.tmp 58, Operand.tmp 60], argTypes := #[40, 40] }, type := 4, pos := "ref.go:198", after := #[{ on := 5, ground := Ground.data }, { on := 7, ground := Ground.data }, { on := 7, ground := Ground.chain }, { on := 4, ground := Ground.guard }], guard := some (4, false) }) rfl (fun K hK => ?_) AllReadyH.nil
              rw [if_pos (by rfl)]
              go_simp
              refine (CB1.out _ _ _ (HZN.out.later hHeld3) NT).mono ?_
              rintro e wd ⟨rfl, bd⟩
              refine hK.out _ _ (below_up hHeld3 bd) (fun hHeld4 => ?_)
              clear hK K hHeld3
              try simp only [Act.put, List.setIfInBounds_toArray, List.set_cons_zero, List.set_cons_succ]
              refine wpAnyH_take (i := 9) (oi := { dst := some 62, op := Op.pick (Operand.tmp 57) (Operand.const (Value.bool true)) (Operand.tmp 61), type := 4, pos := "ref.go:198", after := #[{ on := 4, ground := Ground.data }, { on := 8, ground := Ground.data }], guard := none }) (v := Value.bool false) rfl (by kernel_rfl) (by kernel_rfl) (by kernel_rfl) (fun _ _ _ h => h) (Or.inl ⟨by rfl, ?_⟩) (by assumption) ?_
              · intro W hSw
                try dsimp only at hSw
                go_simp
                try with_reducible rfl
              try simp only [Act.put, List.setIfInBounds_toArray, List.set_cons_zero, List.set_cons_succ]
              refine wpAnyH_take (i := 10) (oi := { dst := some 63, op := Op.move (Operand.tmp 62), type := 4, pos := "ref.go:198", after := #[{ on := 9, ground := Ground.data }, { on := 8, ground := Ground.chain }], guard := none }) (v := Value.bool false) rfl (by kernel_rfl) (by kernel_rfl) (by kernel_rfl) (fun _ _ _ h => h) (Or.inl ⟨by rfl, ?_⟩) (by assumption) ?_
              · intro W hSw
                try dsimp only at hSw
                go_simp
                try with_reducible rfl
              try simp only [Act.put, List.setIfInBounds_toArray, List.set_cons_zero, List.set_cons_succ]
              refine wpAnyH_take (i := 11) (oi := { dst := some 64, op := Op.load 40 (Operand.tmp 4), type := 40, pos := "ref.go:198", after := #[{ on := 10, ground := Ground.guard }], guard := some (10, false) }) (v := ?_) rfl (by kernel_rfl) (by kernel_rfl) (by kernel_rfl) (fun _ _ _ h => h) (Or.inl ⟨by rfl, ?_⟩) (by assumption) ?_
              rotate_left
              · intro W hSw
                try dsimp only at hSw
                have q0 := (HZB.out.later hSw).dig; have q1 := (HZB.out.later hSw).sgn
                go_simp
                try with_reducible rfl
              try simp only [Act.put, List.setIfInBounds_toArray, List.set_cons_zero, List.set_cons_succ]
              refine wpAnyH_ready (rs := [12]) (by kernel_rfl) (by simp) ?_
              refine AllReadyH.cons (o := { dst := some 65, op := Op.call { callee := Callee.value (Operand.func 49), args := #[Operand.const (Value.int IntKind.i64 127)], argTypes := #[3] }, type := 40, pos := "ref.go:198", after := #[{ on := 10, ground := Ground.chain }, { on := 10, ground := Ground.guard }], guard := some (10, false) }) rfl (fun K hK => ?_) AllReadyH.nil
              rw [if_pos (by rfl)]
              go_simp
              refine (CPw.out _).mono ?_
              rintro e we ⟨gq, rfl, -, NQ, be⟩
              refine hK.out _ _ (below_up hHeld4 be) (fun hHeld5 => ?_)
              clear hK K hHeld4
              try simp only [Act.put, List.setIfInBounds_toArray, List.set_cons_zero, List.set_cons_succ]
              refine wpAnyH_ready (rs := [13]) (by kernel_rfl) (by simp) ?_
              refine AllReadyH.cons (o := { dst := some 66, op := Op.call { callee := Callee.value (Operand.func 18), args := #[Operand.tmp 64, Operand.tmp 65], argTypes := #[40, 40] }, type := 4, pos := "ref.go:198", after := #[{ on := 11, ground := Ground.data }, { on := 12, ground := Ground.data }, { on := 12, ground := Ground.chain }, { on := 10, ground := Ground.guard }], guard := some (10, false) }) rfl (fun K hK => ?_) AllReadyH.nil
              rw [if_pos (by rfl)]
              go_simp
              refine (CB2.out _ _ _ (HZN.out.later hHeld5) NQ).mono ?_
              rintro e wf ⟨rfl, bf⟩
              refine hK.out _ _ (below_up hHeld5 bf) (fun hHeld6 => ?_)
              clear hK K hHeld5
              try simp only [Act.put, List.setIfInBounds_toArray, List.set_cons_zero, List.set_cons_succ]
              refine wpAnyH_take (i := 14) (oi := { dst := some 67, op := Op.unOp UnOp.not 4 (Operand.tmp 66), type := 4, pos := "ref.go:198", after := #[{ on := 13, ground := Ground.data }, { on := 10, ground := Ground.guard }], guard := some (10, false) }) (v := Value.bool true) rfl (by kernel_rfl) (by kernel_rfl) (by kernel_rfl) (fun _ _ _ h => h) (Or.inl ⟨by rfl, ?_⟩) (by assumption) ?_
              · intro W hSw
                try dsimp only at hSw
                go_simp
                try with_reducible rfl
              try simp only [Act.put, List.setIfInBounds_toArray, List.set_cons_zero, List.set_cons_succ]
              refine wpAnyH_take (i := 15) (oi := { dst := some 68, op := Op.pick (Operand.tmp 63) (Operand.const (Value.bool true)) (Operand.tmp 67), type := 4, pos := "ref.go:198", after := #[{ on := 10, ground := Ground.data }, { on := 14, ground := Ground.data }], guard := none }) (v := Value.bool true) rfl (by kernel_rfl) (by kernel_rfl) (by kernel_rfl) (fun _ _ _ h => h) (Or.inl ⟨by rfl, ?_⟩) (by assumption) ?_
              · intro W hSw
                try dsimp only at hSw
                go_simp
                try with_reducible rfl
              try simp only [Act.put, List.setIfInBounds_toArray, List.set_cons_zero, List.set_cons_succ]
              refine wpAnyH_done (by kernel_rfl) ?_ _
              refine NoPanic.normal ?_
              have B8 := hid hHeld6
              clear hHeld6
              have RB := hid (HRBW.out.later B8.out)
              have KK := hid (below_up HBW.out B8.out)
              clear HZB HZN HRBW HBW B8
              go_wp2_with fail
              refine (rZero _).mono ?_
              rintro e wy ⟨rfl, Z9, b9⟩
              have R9 := (RB.out.later b9)
              have r0 := R9.dig
              have r1 := R9.sgn
              have f0 := R9.frz 0
              have f1 := R9.frz 1
              have N9 : NmB wy wf.heap.size 0 := ⟨_, Z9, fun _ => Nat.succ_pos 65535, dv_none (fun _ => rfl) 24⟩
              have P := hid (R9.pt (.slice (some ⟨wf.heap.size, 0, none⟩) 24 24) false)
              have NP := hid (N9.off R9 (.slice (some ⟨wf.heap.size, 0, none⟩) 24 24) (.bool false))
              have BP := hid (below_pt (below_up KK.out b9) (Nat.le_refl w.heap.size) (.slice (some ⟨wf.heap.size, 0, none⟩) 24 24) (.bool false))
              unfold pt at P NP BP
              clear R9 N9 Z9 b9
              go_wp2_with fail
              generalize World.setCell _ _ _ = wv at *
              have e0 := P.out.dig
              have e1 := P.out.sgn
              simp [bodyPost, results, Tryd.results22, go_sem, e0, e1]
              exact ⟨_, ⟨rfl, HNO.out.1⟩, by rw [HNO.out.2]; exact NP.out, by rw [HNO.out.2]; exact Int.le_refl 0, BP.out⟩
            · have HYE := hid (HYES.out htx (by unfold Is; unfold T127 at hr; omega))
              have CB1 := hid (cBelow v (-T127) sv true false hsv (by decide) (decide_eq_false (by unfold T127; omega)))
              have CB2 := hid (cBelow v T127 sv false true hsv (by decide) (decide_eq_true (by omega)))
              clear htx hr hsv hsg HNOB HNOD HNOT HYES
              generalize txt v = T at *
              refine wp_region_noPanic ?_
              refine wp_region_held_drew (S := fun W => Below w7.heap.size w7 W) (by kernel_rfl) ((Below.refl _ _).drew) (fun hHeld0 => ?_)
              refine wpAnyH_take (i := 0) (oi := { dst := some 53, op := Op.load 40 (Operand.tmp 4), type := 40, pos := "ref.go:198", after := #[], guard := none }) (v := ?_) rfl (by kernel_rfl) (by kernel_rfl) (by kernel_rfl) (fun _ _ _ h => h) (Or.inl ⟨by rfl, ?_⟩) (by assumption) ?_
              rotate_left
              · intro W hSw
                try dsimp only at hSw
                have q0 := (HZB.out.later hSw).dig; have q1 := (HZB.out.later hSw).sgn
                go_simp
                try with_reducible rfl
              try simp only [Act.put, List.setIfInBounds_toArray, List.set_cons_zero, List.set_cons_succ]
              refine wpAnyH_take (i := 2) (oi := { dst := some 55, op := Op.move (Operand.tmp 0), type := 9, pos := "ref.go:198", after := #[], guard := none }) (v := ?_) rfl (by kernel_rfl) (by kernel_rfl) (by kernel_rfl) (fun _ _ _ h => h) (Or.inl ⟨by rfl, ?_⟩) (by assumption) ?_
              rotate_left
              · intro W hSw
                try dsimp only at hSw
                go_simp
                try with_reducible rfl
              try simp only [Act.put, List.setIfInBounds_toArray, List.set_cons_zero, List.set_cons_succ]
              refine wpAnyH_ready (rs := [1]) (by kernel_rfl) (by simp) ?_
              refine AllReadyH.cons (o := { dst := some 54, op := Op.call { callee := Callee.value (Operand.func 19), args := #[Operand.tmp 53], argTypes := #[40] }, type := 9, pos := "ref.go:198", after := #[{ on := 0, ground := Ground.data }], guard := none }) rfl (fun K hK => ?_) AllReadyH.nil
              rw [if_pos (by rfl)]
              go_simp
              refine (CTx.out _ _ (HZN.out.later hHeld0)).mono ?_
              rintro e wa ⟨rfl, ba⟩
              refine hK.out _ _ (below_up hHeld0 ba) (fun hHeld1 => ?_)
              clear hK K hHeld0
              try simp only [Act.put, List.setIfInBounds_toArray, List.set_cons_zero, List.set_cons_succ]
              refine wpAnyH_take (i := 3) (oi := { dst := some 56, op := Op.binOp BinOp.neq 9 (Operand.tmp 54) (Operand.tmp 55) 9, type := 4, pos := "ref.go:198", after := #[{ on := 1, ground := Ground.data }, { on := 2, ground := Ground.data }], guard := none }) (v := Value.bool false) rfl (by kernel_rfl) (by kernel_rfl) (by kernel_rfl) (fun _ _ _ h => h) (Or.inl ⟨by rfl, ?_⟩) (by assumption) ?_
              · intro W hSw
                try dsimp only at hSw
                go_simp
                try with_reducible rfl
              try simp only [Act.put, List.setIfInBounds_toArray, List.set_cons_zero, List.set_cons_succ]
              refine wpAnyH_take (i := 4) (oi := { dst := some 57, op := Op.move (Operand.tmp 56), type := 4, pos := "ref.go:198", after := #[{ on := 3, ground := Ground.data }, { on := 1, ground := Ground.chain }], guard := none }) (v := Value.bool false) rfl (by kernel_rfl) (by kernel_rfl) (by kernel_rfl) (fun _ _ _ h => h) (Or.inl ⟨by rfl, ?_⟩) (by assumption) ?_
              · intro W hSw
                try dsimp only at hSw
                go_simp
                try with_reducible rfl
              try simp only [Act.put, List.setIfInBounds_toArray, List.set_cons_zero, List.set_cons_succ]
              refine wpAnyH_take (i := 5) (oi := { dst := some 58, op := Op.load 40 (Operand.tmp 4), type := 40, pos := "ref.go:198", after := #[{ on := 4, ground := Ground.guard }], guard := some (4, false) }) (v := ?_) rfl (by kernel_rfl) (by kernel_rfl) (by kernel_rfl) (fun _ _ _ h => h) (Or.inl ⟨by rfl, ?_⟩) (by assumption) ?_
              rotate_left
              · intro W hSw
                try dsimp only at hSw
                have q0 := (HZB.out.later hSw).dig; have q1 := (HZB.out.later hSw).sgn
                go_simp
                try with_reducible rfl
              try simp only [Act.put, List.setIfInBounds_toArray, List.set_cons_zero, List.set_cons_succ]
              refine wpAnyH_ready (rs := [6]) (by kernel_rfl) (by simp) ?_
              refine AllReadyH.cons (o := { dst := some 59, op := Op.call { callee := Callee.value (Operand.func 49), args := #[Operand.const (Value.int IntKind.i64 127)], argTypes := #[3] }, type := 40, pos := "ref.go:198", after := #[{ on := 4, ground := Ground.chain }, { on := 4, ground := Ground.guard }], guard := some (4, false) }) rfl (fun K hK => ?_) AllReadyH.nil
              rw [if_pos (by rfl)]
              go_simp
              refine (CPw.out _).mono ?_
              rintro e wb ⟨gp, rfl, -, NP, bb⟩
              refine hK.out _ _ (below_up hHeld1 bb) (fun hHeld2 => ?_)
              clear hK K hHeld1
              try simp only [Act.put, List.setIfInBounds_toArray, List.set_cons_zero, List.set_cons_succ]
              refine wpAnyH_ready (rs := [7]) (by kernel_rfl) (by simp) ?_
              refine AllReadyH.cons (o := { dst := some 60, op := Op.call { callee := Callee.value (Operand.func 46), args := #[Operand.tmp 59], argTypes := #[40] }, type := 40, pos := "ref.go:198", after := #[{ on := 6, ground := Ground.data }, { on := 6, ground := Ground.chain }, { on := 4, ground := Ground.guard }], guard := some (4, false) }) rfl (fun K hK => ?_) AllReadyH.nil
              rw [if_pos (by rfl)]
              go_simp
              refine (CTu.out _ _ NP).mono ?_
              rintro e wc ⟨rfl, NT, bc⟩
              refine hK.out _ _ (below_up hHeld2 bc) (fun hHeld3 => ?_)
              clear hK K hHeld2
              try simp only [Act.put, List.setIfInBounds_toArray, List.set_cons_zero, List.set_cons_succ]
              refine wpAnyH_ready (rs := [8]) (by kernel_rfl) (by simp) ?_
              refine AllReadyH.cons (o := { dst := some 61, op := Op.call { callee := Callee.value (Operand.func 18), args := #[Operand.tmp 58, Operand.tmp 60], argTypes := #[40, 40] }, type := 4, pos := "ref.go:198", after := #[{ on := 5, ground := Ground.data }, { on := 7, ground := Ground.data }, { on := 7, ground := Ground.chain }, { on := 4, ground := Ground.guard }], guard := some (4, false) }) rfl (fun K hK => ?_) AllReadyH.nil
              rw [if_pos (by rfl)]
              go_simp
              refine (CB1.out _ _ _ (HZN.out.later hHeld3) NT).mono ?_
              rintro e wd ⟨rfl, bd⟩
              refine hK.out _ _ (below_up hHeld3 bd) (fun hHeld4 => ?_)
              clear hK K hHeld3
              try simp only [Act.put, List.setIfInBounds_toArray, List.set_cons_zero, List.set_cons_succ]
              refine wpAnyH_take (i := 9) (oi := { dst := some 62, op := Op.pick (Operand.tmp 57) (Operand.const (Value.bool true)) (Operand.tmp 61), type := 4, pos := "ref.go:198", after := #[{ on := 4, ground := Ground.data }, { on := 8, ground := Ground.data }], guard := none }) (v := Value.bool false) rfl (by kernel_rfl) (by kernel_rfl) (by kernel_rfl) (fun _ _ _ h => h) (Or.inl ⟨by rfl, ?_⟩) (by assumption) ?_
              · intro W hSw
                try dsimp only at hSw
                go_simp
                try with_reducible rfl
              try simp only [Act.put, List.setIfInBounds_toArray, List.set_cons_zero, List.set_cons_succ]
              refine wpAnyH_take (i := 10) (oi := { dst := some 63, op := Op.move (Operand.tmp 62), type := 4, pos := "ref.go:198", after := #[{ on := 9, ground := Ground.data }, { on := 8, ground := Ground.chain }], guard := none }) (v := Value.bool false) rfl (by kernel_rfl) (by kernel_rfl) (by kernel_rfl) (fun _ _ _ h => h) (Or.inl ⟨by rfl, ?_⟩) (by assumption) ?_
              · intro W hSw
                try dsimp only at hSw
                go_simp
                try with_reducible rfl
              try simp only [Act.put, List.setIfInBounds_toArray, List.set_cons_zero, List.set_cons_succ]
              refine wpAnyH_take (i := 11) (oi := { dst := some 64, op := Op.load 40 (Operand.tmp 4), type := 40, pos := "ref.go:198", after := #[{ on := 10, ground := Ground.guard }], guard := some (10, false) }) (v := ?_) rfl (by kernel_rfl) (by kernel_rfl) (by kernel_rfl) (fun _ _ _ h => h) (Or.inl ⟨by rfl, ?_⟩) (by assumption) ?_
              rotate_left
              · intro W hSw
                try dsimp only at hSw
                have q0 := (HZB.out.later hSw).dig; have q1 := (HZB.out.later hSw).sgn
                go_simp
                try with_reducible rfl
              try simp only [Act.put, List.setIfInBounds_toArray, List.set_cons_zero, List.set_cons_succ]
              refine wpAnyH_ready (rs := [12]) (by kernel_rfl) (by simp) ?_
              refine AllReadyH.cons (o := { dst := some 65, op := Op.call { callee := Callee.value (Operand.func 49), args := #[Operand.const (Value.int IntKind.i64 127)], argTypes := #[3] }, type := 40, pos := "ref.go:198", after := #[{ on := 10, ground := Ground.chain }, { on := 10, ground := Ground.guard }], guard := some (10, false) }) rfl (fun K hK => ?_) AllReadyH.nil
              rw [if_pos (by rfl)]
              go_simp
              refine (CPw.out _).mono ?_
              rintro e we ⟨gq, rfl, -, NQ, be⟩
              refine hK.out _ _ (below_up hHeld4 be) (fun hHeld5 => ?_)
              clear hK K hHeld4
              try simp only [Act.put, List.setIfInBounds_toArray, List.set_cons_zero, List.set_cons_succ]
              refine wpAnyH_ready (rs := [13]) (by kernel_rfl) (by simp) ?_
              refine AllReadyH.cons (o := { dst := some 66, op := Op.call { callee := Callee.value (Operand.func 18), args := #[Operand.tmp 64, Operand.tmp 65], argTypes := #[40, 40] }, type := 4, pos := "ref.go:198", after := #[{ on := 11, ground := Ground.data }, { on := 12, ground := Ground.data }, { on := 12, ground := Ground.chain }, { on := 10, ground := Ground.guard }], guard := some (10, false) }) rfl (fun K hK => ?_) AllReadyH.nil
              rw [if_pos (by rfl)]
              go_simp
              refine (CB2.out _ _ _ (HZN.out.later hHeld5) NQ).mono ?_
              rintro e wf ⟨rfl, bf⟩
              refine hK.out _ _ (below_up hHeld5 bf) (fun hHeld6 => ?_)
              clear hK K hHeld5
              try simp only [Act.put, List.setIfInBounds_toArray, List.set_cons_zero, List.set_cons_succ]
              refine wpAnyH_take (i := 14) (oi := { dst := some 67, op := Op.unOp UnOp.not 4 (Operand.tmp 66), type := 4, pos := "ref.go:198", after := #[{ on := 13, ground := Ground.data }, { on := 10, ground := Ground.guard }], guard := some (10, false) }) (v := Value.bool false) rfl (by kernel_rfl) (by kernel_rfl) (by kernel_rfl) (fun _ _ _ h => h) (Or.inl ⟨by rfl, ?_⟩) (by assumption) ?_
              · intro W hSw
                try dsimp only at hSw
                go_simp
                try with_reducible rfl
              try simp only [Act.put, List.setIfInBounds_toArray, List.set_cons_zero, List.set_cons_succ]
              refine wpAnyH_take (i := 15) (oi := { dst := some 68, op := Op.pick (Operand.tmp 63) (Operand.const (Value.bool true)) (Operand.tmp 67), type := 4, pos := "ref.go:198", after := #[{ on := 10, ground := Ground.data }, { on := 14, ground := Ground.data }], guard := none }) (v := Value.bool false) rfl (by kernel_rfl) (by kernel_rfl) (by kernel_rfl) (fun _ _ _ h => h) (Or.inl ⟨by rfl, ?_⟩) (by assumption) ?_
              · intro W hSw
                try dsimp only at hSw
                go_simp
                try with_reducible rfl
              try simp only [Act.put, List.setIfInBounds_toArray, List.set_cons_zero, List.set_cons_succ]
              refine wpAnyH_done (by kernel_rfl) ?_ _
              refine NoPanic.normal ?_
              have B8 := hid hHeld6
              clear hHeld6
              have A8 := HZB.out.later B8.out
              have R8 := HRBW.out.later B8.out
              have N8 := HZN.out.later B8.out
              have c0 := A8.dig
              have c1 := A8.sgn
              have r0 := R8.dig
              have r1 := R8.sgn
              have f0 := R8.frz 0
              have f1 := R8.frz 1
              have P := hid (R8.pt (.slice (some ⟨ga, 0, none⟩) 24 24) sv)
              have NP := hid (N8.off R8 (.slice (some ⟨ga, 0, none⟩) 24 24) (.bool sv))
              have BP := hid (below_pt (below_up HBW.out B8.out) (Nat.le_refl w.heap.size) (.slice (some ⟨ga, 0, none⟩) 24 24) (.bool sv))
              unfold pt at P NP BP
              clear A8 R8 N8 HZB HZN HRBW HBW B8
              go_wp2_with fail
              generalize World.setCell _ _ _ = wv at *
              have e0 := P.out.dig
              have e1 := P.out.sgn
              simp [bodyPost, results, Tryd.results22, go_sem, e0, e1]
              have NPx := NP.out
              have SVx := HSV.out
              rw [← HYE.out.2] at NPx SVx
              refine ⟨ga, ?_⟩
              by_cases hneg : rv < 0
              · exact .inr ⟨⟨⟨rfl, by rw [← SVx]; exact decide_eq_true hneg⟩, HYE.out.1⟩, NPx, hneg, BP.out⟩
              · exact .inl ⟨⟨⟨rfl, by rw [← SVx]; exact decide_eq_false hneg⟩, HYE.out.1⟩, NPx, by omega, BP.out⟩
          · have HNO := hid (HNOT.out HALL.out (.inl htx))
            have hTs : ((txt v).toList == s.toList) = false := by
              rw [beq_eq_false_iff_ne]; intro e; apply htx
              rw [Go.ByteArray.toList_eq, Go.ByteArray.toList_eq] at e
              exact (ByteArray.ext (Array.toList_inj.1 e)).symm
            clear htx hsv hsg HNOB HNOD HNOT HYES
            generalize txt v = T at *
            refine wp_region_noPanic ?_
            refine wp_region_held_drew (S := fun W => Below w7.heap.size w7 W) (by kernel_rfl) ((Below.refl _ _).drew) (fun hHeld0 => ?_)
            refine wpAnyH_take (i := 0) (oi := { dst := some 53, op := Op.load 40 (Operand.tmp 4), type := 40, pos := "ref.go:198", after := #[], guard := none }) (v := ?_) rfl (by kernel_rfl) (by kernel_rfl) (by kernel_rfl) (fun _ _ _ h => h) (Or.inl ⟨by rfl, ?_⟩) (by assumption) ?_
            rotate_left
            · intro W hSw
              try dsimp only at hSw
              have q0 := (HZB.out.later hSw).dig; have q1 := (HZB.out.later hSw).sgn
              go_simp
              try with_reducible rfl
            try simp only [Act.put, List.setIfInBounds_toArray, List.set_cons_zero, List.set_cons_succ]
            refine wpAnyH_take (i := 2) (oi := { dst := some 55, op := Op.move (Operand.tmp 0), type := 9, pos := "ref.go:198", after := #[], guard := none }) (v := ?_) rfl (by kernel_rfl) (by kernel_rfl) (by kernel_rfl) (fun _ _ _ h => h) (Or.inl ⟨by rfl, ?_⟩) (by assumption) ?_
            rotate_left
            · intro W hSw
              try dsimp only at hSw
              go_simp
              try with_reducible rfl
            try simp only [Act.put, List.setIfInBounds_toArray, List.set_cons_zero, List.set_cons_succ]
            refine wpAnyH_ready (rs := [1]) (by kernel_rfl) (by simp) ?_
            refine AllReadyH.cons (o := { dst := some 54, op := Op.call { callee := Callee.value (Operand.func 19), args := #[Operand.tmp 53], argTypes := #[40] }, type := 9, pos := "ref.go:198", after := #[{ on := 0, ground := Ground.data }], guard := none }) rfl (fun K hK => ?_) AllReadyH.nil
            rw [if_pos (by rfl)]
            go_simp
            refine (CTx.out _ _ (HZN.out.later hHeld0)).mono ?_
            rintro e wa ⟨rfl, ba⟩
            refine hK.out _ _ (below_up hHeld0 ba) (fun hHeld1 => ?_)
            clear hK K hHeld0
            try simp only [Act.put, List.setIfInBounds_toArray, List.set_cons_zero, List.set_cons_succ]
            refine wpAnyH_take (i := 3) (oi := { dst := some 56, op := Op.binOp BinOp.neq 9 (Operand.tmp 54) (Operand.tmp 55) 9, type := 4, pos := "ref.go:198", after := #[{ on := 1, ground := Ground.data }, { on := 2, ground := Ground.data }], guard := none }) (v := Value.bool true) rfl (by kernel_rfl) (by kernel_rfl) (by kernel_rfl) (fun _ _ _ h => h) (Or.inl ⟨by rfl, ?_⟩) (by assumption) ?_
            · intro W hSw
              try dsimp only at hSw
              go_simp
              try with_reducible rfl
            try simp only [Act.put, List.setIfInBounds_toArray, List.set_cons_zero, List.set_cons_succ]
            refine wpAnyH_take (i := 4) (oi := { dst := some 57, op := Op.move (Operand.tmp 56), type := 4, pos := "ref.go:198", after := #[{ on := 3, ground := Ground.data }, { on := 1, ground := Ground.chain }], guard := none }) (v := Value.bool true) rfl (by kernel_rfl) (by kernel_rfl) (by kernel_rfl) (fun _ _ _ h => h) (Or.inl ⟨by rfl, ?_⟩) (by assumption) ?_
            · intro W hSw
              try dsimp only at hSw
              go_simp
              try with_reducible rfl
            try simp only [Act.put, List.setIfInBounds_toArray, List.set_cons_zero, List.set_cons_succ]
            refine wpAnyH_take (i := 5) (oi := { dst := some 58, op := Op.load 40 (Operand.tmp 4), type := 40, pos := "ref.go:198", after := #[{ on := 4, ground := Ground.guard }], guard := some (4, false) }) (v := undef) rfl (by kernel_rfl) (by kernel_rfl) (by kernel_rfl) (fun _ _ _ h => h) (Or.inr ⟨by rfl, rfl⟩) (by assumption) ?_
            try simp only [Act.put, List.setIfInBounds_toArray, List.set_cons_zero, List.set_cons_succ]
            refine wpAnyH_take (i := 6) (oi := { dst := some 59, op := Op.call { callee := Callee.value (Operand.func 49), args := #[Operand.const (Value.int IntKind.i64 127)], argTypes := #[3] }, type := 40, pos := "ref.go:198", after := #[{ on := 4, ground := Ground.chain }, { on := 4, ground := Ground.guard }], guard := some (4, false) }) (v := undef) rfl (by kernel_rfl) (by kernel_rfl) (by kernel_rfl) (fun _ _ _ h => h) (Or.inr ⟨by rfl, rfl⟩) (by assumption) ?_
            try simp only [Act.put, List.setIfInBounds_toArray, List.set_cons_zero, List.set_cons_succ]
            refine wpAnyH_take (i := 7) (oi := { dst := some 60, op := Op.call { callee := Callee.value (Operand.func 46), args := #[Operand.tmp 59], argTypes := #[40] }, type := 40, pos := "ref.go:198", after := #[{ on := 6, ground := Ground.data }, { on := 6, ground := Ground.chain }, { on := 4, ground := Ground.guard }], guard := some (4, false) }) (v := undef) rfl (by kernel_rfl) (by kernel_rfl) (by kernel_rfl) (fun _ _ _ h => h) (Or.inr ⟨by rfl, rfl⟩) (by assumption) ?_
            try simp only [Act.put, List.setIfInBounds_toArray, List.set_cons_zero, List.set_cons_succ]
            refine wpAnyH_take (i := 8) (oi := { dst := some 61, op := Op.call { callee := Callee.value (Operand.func 18), args := #[Operand.tmp 58, Operand.tmp 60], argTypes := #[40, 40] }, type := 4, pos := "ref.go:198", after := #[{ on := 5, ground := Ground.data }, { on := 7, ground := Ground.data }, { on := 7, ground := Ground.chain }, { on := 4, ground := Ground.guard }], guard := some (4, false) }) (v := undef) rfl (by kernel_rfl) (by kernel_rfl) (by kernel_rfl) (fun _ _ _ h => h) (Or.inr ⟨by rfl, rfl⟩) (by assumption) ?_
            try simp only [Act.put, List.setIfInBounds_toArray, List.set_cons_zero, List.set_cons_succ]
            refine wpAnyH_take (i := 9) (oi := { dst := some 62, op := Op.pick (Operand.tmp 57) (Operand.const (Value.bool true)) (Operand.tmp 61), type := 4, pos := "ref.go:198", after := #[{ on := 4, ground := Ground.data }, { on := 8, ground := Ground.data }], guard := none }) (v := Value.bool true) rfl (by kernel_rfl) (by kernel_rfl) (by kernel_rfl) (fun _ _ _ h => h) (Or.inl ⟨by rfl, ?_⟩) (by assumption) ?_
            · intro W hSw
              try dsimp only at hSw
              go_simp
              try with_reducible rfl
            try simp only [Act.put, List.setIfInBounds_toArray, List.set_cons_zero, List.set_cons_succ]
            refine wpAnyH_take (i := 10) (oi := { dst := some 63, op := Op.move (Operand.tmp 62), type := 4, pos := "ref.go:198", after := #[{ on := 9, ground := Ground.data }, { on := 8, ground := Ground.chain }], guard := none }) (v := Value.bool true) rfl (by kernel_rfl) (by kernel_rfl) (by kernel_rfl) (fun _ _ _ h => h) (Or.inl ⟨by rfl, ?_⟩) (by assumption) ?_
            · intro W hSw
              try dsimp only at hSw
              go_simp
              try with_reducible rfl
            try simp only [Act.put, List.setIfInBounds_toArray, List.set_cons_zero, List.set_cons_succ]
            refine wpAnyH_take (i := 11) (oi := { dst := some 64, op := Op.load 40 (Operand.tmp 4), type := 40, pos := "ref.go:198", after := #[{ on := 10, ground := Ground.guard }], guard := some (10, false) }) (v := undef) rfl (by kernel_rfl) (by kernel_rfl) (by kernel_rfl) (fun _ _ _ h => h) (Or.inr ⟨by rfl, rfl⟩) (by assumption) ?_
            try simp only [Act.put, List.setIfInBounds_toArray, List.set_cons_zero, List.set_cons_succ]
            refine wpAnyH_take (i := 12) (oi := { dst := some 65, op := Op.call { callee := Callee.value (Operand.func 49), args := #[Operand.const (Value.int IntKind.i64 127)], argTypes := #[3] }, type := 40, pos := "ref.go:198", after := #[{ on := 10, ground := Ground.chain }, { on := 10, ground := Ground.guard }], guard := some (10, false) }) (v := undef) rfl (by kernel_rfl) (by kernel_rfl) (by kernel_rfl) (fun _ _ _ h => h) (Or.inr ⟨by rfl, rfl⟩) (by assumption) ?_
            try simp only [Act.put, List.setIfInBounds_toArray, List.set_cons_zero, List.set_cons_succ]
            refine wpAnyH_take (i := 13) (oi := { dst := some 66, op := Op.call { callee := Callee.value (Operand.func 18), args := #[Operand.tmp 64, Operand.tmp 65], argTypes := #[40, 40] }, type := 4, pos := "ref.go:198", after := #[{ on := 11, ground := Ground.data }, { on := 12, ground := Ground.data }, { on := 12, ground := Ground.chain }, { on := 10, ground := Ground.guard }], guard := some (10, false) }) (v := undef) rfl (by kernel_rfl) (by kernel_rfl) (by kernel_rfl) (fun _ _ _ h => h) (Or.inr ⟨by rfl, rfl⟩) (by assumption) ?_
            try simp only [Act.put, List.setIfInBounds_toArray, List.set_cons_zero, List.set_cons_succ]
            refine wpAnyH_take (i := 14) (oi := { dst := some 67, op := Op.unOp UnOp.not 4 (Operand.tmp 66), type := 4, pos := "ref.go:198", after := #[{ on := 13, ground := Ground.data }, { on := 10, ground := Ground.guard }], guard := some (10, false) }) (v := undef) rfl (by kernel_rfl) (by kernel_rfl) (by kernel_rfl) (fun _ _ _ h => h) (Or.inr ⟨by rfl, rfl⟩) (by assumption) ?_
            try simp only [Act.put, List.setIfInBounds_toArray, List.set_cons_zero, List.set_cons_succ]
            refine wpAnyH_take (i := 15) (oi := { dst := some 68, op := Op.pick (Operand.tmp 63) (Operand.const (Value.bool true)) (Operand.tmp 67), type := 4, pos := "ref.go:198", after := #[{ on := 10, ground := Ground.data }, { on := 14, ground := Ground.data }], guard := none }) (v := Value.bool true) rfl (by kernel_rfl) (by kernel_rfl) (by kernel_rfl) (fun _ _ _ h => h) (Or.inl ⟨by rfl, ?_⟩) (by assumption) ?_
            · intro W hSw
              try dsimp only at hSw
              go_simp
              try with_reducible rfl
            try simp only [Act.put, List.setIfInBounds_toArray, List.set_cons_zero, List.set_cons_succ]
            refine wpAnyH_done (by kernel_rfl) ?_ _
            refine NoPanic.normal ?_
            have B8 := hid hHeld1
            clear hHeld1
            have RB := hid (HRBW.out.later B8.out)
            have KK := hid (below_up HBW.out B8.out)
            clear HZB HZN HRBW HBW B8
            go_wp2_with fail
            refine (rZero _).mono ?_
            rintro e wy ⟨rfl, Z9, b9⟩
            have R9 := (RB.out.later b9)
            have r0 := R9.dig
            have r1 := R9.sgn
            have f0 := R9.frz 0
            have f1 := R9.frz 1
            have N9 : NmB wy wa.heap.size 0 := ⟨_, Z9, fun _ => Nat.succ_pos 65535, dv_none (fun _ => rfl) 24⟩
            have P := hid (R9.pt (.slice (some ⟨wa.heap.size, 0, none⟩) 24 24) false)
            have NP := hid (N9.off R9 (.slice (some ⟨wa.heap.size, 0, none⟩) 24 24) (.bool false))
            have BP := hid (below_pt (below_up KK.out b9) (Nat.le_refl w.heap.size) (.slice (some ⟨wa.heap.size, 0, none⟩) 24 24) (.bool false))
            unfold pt at P NP BP
            clear R9 N9 Z9 b9
            go_wp2_with fail
            generalize World.setCell _ _ _ = wv at *
            have e0 := P.out.dig
            have e1 := P.out.sgn
            simp [bodyPost, results, Tryd.results22, go_sem, e0, e1]
            exact ⟨_, ⟨rfl, HNO.out.1⟩, by rw [HNO.out.2]; exact NP.out, by rw [HNO.out.2]; exact Int.le_refl 0, BP.out⟩
end Go.Proofs.YthaafegakjjenaaDoor

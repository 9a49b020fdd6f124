/-
  strconv.FormatUint at base 10; package wide: digits, Text.
-/
import Derived.Test.YtdfmaicmbnjilaaDoorWDiv
import Derived.Test.YtdfmaicmbnjilaaDoorWTextM
import Derived.Lib.ItoaMem
import Derived.Lib.AppendIntMem
import Derived.Lib.SmallJoins
import Derived.Shelf.Strconv.Itoa2
import Derived.Shelf.Strings.Repeat
namespace Go.Proofs.YtdfmaicmbnjilaaDoor
open Go.RowKit Wd Go.Sort

/-- The table that numerals are made with. -/
def Tb (w : World) : Prop := ∀ n, Tryd.prog.globalNamed n = some 3 → Lib.TabIs Tryd.prog w n .u64 Lib.pow10Tab
theorem Tb.later {w w' : World} (h : Tb w) (hb : Below w.heap.size w w') : Tb w' := fun n hn => Joins.tab_stays hn (h n hn) hb (Nat.le_refl _)
theorem numDigits_any (u : Nat) (h1 : 1 ≤ u) (h2 : u < 18446744073709551616) (w : World) (ht : Tb w) :
    Calls Tryd.prog 76 #[.int .u64 (u : Int)] w fun e w' => e = .returned (.int .i64 (Lib.nDigits u)) ∧ w' = w :=
  Any.internal_strconv_numDigits laidNum u h1 h2 w (ht _ (by kernel_rfl))
theorem holds0 (w : World) (T : TypeId) (nd : Nat) (hs : nd ≤ 24) : Holds (fun (b : UInt8) => Value.int .u8 (b.toNat : Int)) (w.alloc (.cells Lib.zeros24 T)) w.heap.size 0 (Array.replicate nd (0 : UInt8)) := fun j hj => by
  have hj' : j < nd := by simpa using hj
  refine ⟨?_, World.frozen?_alloc_new _ _ _ _⟩
  rw [World.cell?_alloc_new, Lib.zeros24_at _ (by omega), getElem!_pos _ j hj]
  simp
theorem below_row (w : World) (o : Obj) (dk : Array UInt8) (k : Nat) : Below w.heap.size w ((putRow (fun (b : UInt8) => Value.int .u8 (b.toNat : Int)) (w.alloc o) w.heap.size 0 dk).drewN k) := by
  apply below_drewN
  unfold putRow mapBlock
  refine ⟨rfl, rfl, rfl, by simp, fun j hj => ?_⟩
  simp only [Array.getElem?_modify]
  rw [if_neg (by omega)]
  exact Below.heap_alloc w o j hj
set_option maxHeartbeats 6400000 in
set_option maxRecDepth 100000 in
theorem fmtU_in (u : Nat) (hu : u < 18446744073709551616) (w : World) (ht : Tb w) :
    Calls Tryd.prog 62 #[.int .u64 (u : Int), .int .i64 10] w fun e w' => e = .returned (.string ⟨(Lib.decDigits u).toArray⟩) ∧ Below w.heap.size w w' := by
  by_cases hs : u < 100
  · have CS := hid (Any.internal_strconv_small laidSmall u hs)
    have hs' : (u : Int) < 100 := by omega
    go_enter Tryd.func62, Tryd.ntmps62
    go_wp2_with (go_at_call 75; refine (CS.out _).mono ?_; rintro e w' ⟨rfl, rfl⟩)
    go_ret
    exact ⟨rfl, Below.refl _ _⟩
  · have hs' : ¬ (u : Int) < 100 := by omega
    have hnd20 : Lib.nDigits u ≤ 20 := nd_le (k := 19) (Nat.lt_of_lt_of_le hu (by decide))
    have hal : Tryd.prog.arrayLen 110 = 24 := by kernel_rfl
    have hsl : ∀ W, (Instr.sliceAt 110 (.pointer (some ⟨w.heap.size, 0, none⟩)) none (some (.int .i64 (Lib.nDigits u : Int))) none).run Tryd.prog W = .ok (.slice (some ⟨w.heap.size, 0, none⟩) (Lib.nDigits u) 24) W := fun W => by
      rw [run_sliceAt_array_h W 110 ⟨w.heap.size, 0, none⟩ (by kernel_rfl) .i64 (Lib.nDigits u : Int) (by omega) (by rw [hal]; omega)]
      go_simp
    have hH0 := holds0 w 110 (Lib.nDigits u) (by omega)
    have hfmt := Any.internal_strconv_formatBase10 laidFmt w.heap.size 0 24 u (Array.replicate (Lib.nDigits u) 0) (w.alloc (.cells Lib.zeros24 110)) hH0 (by rw [Array.size_replicate]; exact Lib.lt_pow_nDigits u) hu (by rw [Array.size_replicate]; omega)
    rw [Array.size_replicate] at hfmt
    have HF := hid hfmt
    have HH0 := hid hH0
    have CN := hid (numDigits_any u (by omega) hu _ (ht.later (below_new w (.cells Lib.zeros24 110))))
    clear hH0 hal hfmt hnd20
    go_enter Tryd.func62, Tryd.ntmps62
    go_wp2_with (go_at_call 76; refine CN.out.mono ?_; rintro e w' ⟨rfl, rfl⟩)
    refine HF.out.mono ?_
    rintro e w' ⟨rfl, k, v', dk, rfl, hF⟩
    have hcv : (convert 96 9 (.slice (some ⟨w.heap.size, 0, none⟩) (Lib.nDigits u) 24)).run Tryd.prog ((putRow (fun (b : UInt8) => Value.int .u8 (b.toNat : Int)) (w.alloc (.cells Lib.zeros24 110)) w.heap.size 0 dk).drewN k) = .ok (.string ⟨(Lib.decDigits u).toArray⟩) ((putRow (fun (b : UInt8) => Value.int .u8 (b.toNat : Int)) (w.alloc (.cells Lib.zeros24 110)) w.heap.size 0 dk).drewN k) := by
      have h := run_convert_bytes_back (P := Tryd.prog) ((putRow (fun (b : UInt8) => Value.int .u8 (b.toNat : Int)) (w.alloc (.cells Lib.zeros24 110)) w.heap.size 0 dk).drewN k) 96 9 5 ⟨w.heap.size, 0, none⟩ 24 (Lib.decDigits u) Tryd.underlying96 Tryd.underlying5 Tryd.underlying9 (fun j hj => by
        rw [Lib.row_is_numeral hF j hj, Lib.add_plain, World.cell?_drewN]
        exact cell?_putRow (fun (b : UInt8) => Value.int .u8 (b.toNat : Int)) _ w.heap.size 0 _ dk HH0.out (by rw [hF.size, Array.size_replicate]) j (by rw [hF.size]; rw [Lib.decDigits_length] at hj; exact hj))
      rw [Lib.decDigits_length] at h
      exact h
    have B := hid (below_row w (.cells Lib.zeros24 110) dk k)
    generalize (putRow (fun (b : UInt8) => Value.int .u8 (b.toNat : Int)) (w.alloc (.cells Lib.zeros24 110)) w.heap.size 0 dk).drewN k = w9 at *
    go_wp2_with fail
    go_ret
    exact ⟨rfl, B.out⟩
set_option maxRecDepth 8000 in
theorem fmtU (u : Nat) (hu : u < 18446744073709551616) (w : World) (ht : Tb w) :
    Calls Tryd.prog 56 #[.int .u64 (u : Int), .int .i64 10] w fun e w' => e = .returned (.string ⟨(Lib.decDigits u).toArray⟩) ∧ Below w.heap.size w w' := by
  have C := hid (fmtU_in u hu w ht)
  go_enter Tryd.func56, Tryd.ntmps56
  go_wp2_with fail
  refine C.out.mono ?_
  rintro e w' ⟨rfl, hb⟩
  go_wp2_with fail
  go_ret
  exact ⟨rfl, hb⟩
theorem extraRep : Builder.Extra Tryd.prog laidRep_ren where
  sizeBuilder := by kernel_rfl
  liesBuilder := by kernel_rfl
  t5 := Tryd.underlying5
  a5 := Tryd.isAgg5
  z5 := Tryd.sizeOf5
  v5 := Tryd.zeroValue5
  infoByte := by kernel_rfl
  cellsByte := by kernel_rfl
  sizeByte := by kernel_rfl
  neB5 := by decide
theorem rep_zero (c : Nat) (hc : c ≤ 19) (w : World) : Calls Tryd.prog 57 #[.string ⟨#[48]⟩, .int .i64 (c : Int)] w fun e w' => e = .returned (.string ⟨(List.replicate c (48 : UInt8)).toArray⟩) ∧ Below w.heap.size w w' := by
  have h := Any.strings_Repeat laidRep extraRep ⟨#[48]⟩ c w (by omega) (by show 1 * c ≤ _; omega)
  have e : Lib.repeatL (⟨#[48]⟩ : ByteArray).data.toList c = List.replicate c (48 : UInt8) := by
    show Lib.repeatL [48] c = _
    clear h hc
    induction c with
    | zero => rfl
    | succ n ih => simp [Lib.repeatL, List.replicate_succ] at *; exact ih
  rw [e] at h
  exact h
theorem ba_app (l r : List UInt8) : (⟨l.toArray⟩ : ByteArray) ++ ⟨r.toArray⟩ = ⟨(l ++ r).toArray⟩ := by
  apply ByteArray.ext
  simp
set_option maxRecDepth 8000 in
set_option maxHeartbeats 1600000 in
theorem digits_any (f b : Nat) (hf : f < 18446744073709551616) (hb : b < 10000000000000000000) (w : World) (ht : Tb w) :
    Calls Tryd.prog 45 #[.int .u64 (f : Int), .int .u64 (b : Int)] w fun e w' => e = .returned (.string ⟨(Lib.decDigits (f * 10000000000000000000 + b)).toArray⟩) ∧ Below w.heap.size w w' := by
  have C1 := hid (fmtU b (by omega) w ht)
  by_cases h0 : f = 0
  · subst h0
    rw [Nat.zero_mul, Nat.zero_add]
    go_enter Tryd.func45, Tryd.ntmps45
    go_wp2_with fail
    refine C1.out.mono ?_
    rintro e w1 ⟨rfl, b1⟩
    go_wp2_with fail
    go_ret
    exact ⟨rfl, b1⟩
  · have h0' : ¬ (f : Int) = 0 := by omega
    rw [dec_split (by omega) hb]
    have hn : Lib.nDigits b ≤ 19 := nd_le (k := 18) (Nat.lt_of_lt_of_le hb (by decide))
    have hl := dec_len b
    have hlF : (Lib.decDigits f).length ≤ 20 := by rw [dec_len]; exact nd_le (k := 19) (Nat.lt_of_lt_of_le hf (by decide))
    have hc : 19 - Lib.nDigits b ≤ 19 := by omega
    have C2 := hid fun W hW => fmtU f hf W hW
    have C3 := hid (rep_zero (19 - Lib.nDigits b) (by omega))
    have HT := hid ht
    have e3 : (19 : Int) - (Lib.nDigits b : Int) = ((19 - Lib.nDigits b : Nat) : Int) := by omega
    obtain ⟨D, hD⟩ : ∃ D, D = Lib.decDigits b := ⟨_, rfl⟩
    rw [← hD] at C1 hl ⊢
    clear hD
    generalize Lib.nDigits b = nb at *
    generalize 19 - nb = c at *
    generalize Lib.decDigits f = F at *
    clear ht
    go_enter Tryd.func45, Tryd.ntmps45
    go_wp2_with fail
    refine C1.out.mono ?_
    rintro e w1 ⟨rfl, b1⟩
    go_wp2_with fail
    refine (C2.out _ (HT.out.later b1)).mono ?_
    rintro e w2 ⟨rfl, b2⟩
    go_wp2_with fail
    refine (C3.out _).mono ?_
    rintro e w3 ⟨rfl, b3⟩
    have B := hid (below_up b1 (below_up b2 b3))
    clear b1 b2 b3 HT
    go_wp2_with fail
    go_ret
    exact ⟨by show Ending.returned (Value.string ((⟨F.toArray⟩ ++ ⟨Array.replicate c (48 : UInt8)⟩) ++ ⟨D.toArray⟩)) = _; rw [show Array.replicate c (48 : UInt8) = (List.replicate c (48 : UInt8)).toArray by simp, ba_app, ba_app, List.append_assoc], B.out⟩
/-- A wide's text. -/
abbrev txt (a : Int) : ByteArray := ⟨(Lib.itoa a).toArray⟩
theorem size_nat (a : Int) : size a = (a.natAbs : Int) := by unfold size; split <;> omega
theorem itoa_abs (a : Int) : Lib.itoa a = if a < 0 then 45 :: Lib.decDigits a.natAbs else Lib.decDigits a.natAbs := by
  unfold Lib.itoa
  split
  · rfl
  · rename_i h; rw [show a.toNat = a.natAbs by omega]
set_option maxRecDepth 8000 in
set_option maxHeartbeats 1600000 in
theorem text_any (a : Int) (ha : Is a) (w : World) (ht : Tb w) : Calls Tryd.prog 22 #[.agg #[.int .i64 (hi (a)), .int .u64 (lo (a))]] w fun e w' => e = .returned (.string (txt a)) ∧ Below w.heap.size w w' := by
  have hs := size_in ha
  rw [size_nat] at hs
  have e1 : sH a = ((a.natAbs / 18446744073709551616 : Nat) : Int) := by unfold sH; rw [size_nat]; omega
  have e2 : sL a = ((a.natAbs % 18446744073709551616 : Nat) : Int) := by unfold sL; rw [size_nat]; omega
  have C1 := hid (size_any a ha)
  rw [e1, e2] at C1
  have eN : a.natAbs / 18446744073709551616 * 18446744073709551616 + a.natAbs % 18446744073709551616 = a.natAbs := by omega
  have CD : Hid (∀ W, Calls Tryd.prog 44 #[.int .u64 ((a.natAbs / 18446744073709551616 : Nat) : Int), .int .u64 ((a.natAbs % 18446744073709551616 : Nat) : Int), .int .u64 10000000000000000000] W fun e w' => e = .returned (.tuple #[.int .u64 ((a.natAbs / 10000000000000000000 : Nat) : Int), .int .u64 ((a.natAbs % 10000000000000000000 : Nat) : Int)]) ∧ Below W.heap.size W w') := fun W => by
    by_cases h0 : a.natAbs / 18446744073709551616 = 0
    · rw [h0, show a.natAbs % 18446744073709551616 = a.natAbs by omega]
      exact div_small a.natAbs 10000000000000000000 (by omega) (by decide) W
    · refine (div_big _ _ 10000000000000000000 (by omega) (Nat.mod_lt _ (by decide)) (by omega) (by decide) _ _ (by rw [eN]) (by rw [eN]) W).mono ?_
      rintro e w' ⟨rfl, rfl⟩
      exact ⟨rfl, Below.refl _ _⟩
  have CT := hid fun W hW => digits_any (a.natAbs / 10000000000000000000) (a.natAbs % 10000000000000000000) (by omega) (Nat.mod_lt _ (by decide)) W hW
  rw [show a.natAbs / 10000000000000000000 * 10000000000000000000 + a.natAbs % 10000000000000000000 = a.natAbs by rw [Nat.mul_comm]; exact Nat.div_add_mod _ _] at CT
  have hn := hi_neg ha
  have hx := itoa_abs a
  have HT := hid ht
  have hlen : (Lib.decDigits a.natAbs).length ≤ 40 := by rw [dec_len]; exact nd_le (k := 39) (Nat.lt_of_le_of_lt (show a.natAbs ≤ 170141183460469231731687303715884105728 by omega) (by decide))
  unfold txt
  rw [hx]
  clear hx hs e1 e2 eN ht ha
  generalize ((a.natAbs / 18446744073709551616 : Nat) : Int) = x1 at *
  generalize ((a.natAbs % 18446744073709551616 : Nat) : Int) = x2 at *
  generalize ((a.natAbs / 10000000000000000000 : Nat) : Int) = x3 at *
  generalize ((a.natAbs % 10000000000000000000 : Nat) : Int) = x4 at *
  generalize Lib.decDigits a.natAbs = D at *
  obtain ⟨w1, hw1⟩ : ∃ w1, w.alloc (.cells #[.int .i64 (hi a), .int .u64 (lo a)] 24) = w1 := ⟨_, rfl⟩
  have b1 : Below w.heap.size w w1 := by rw [← hw1]; exact below_new _ _
  have X1 : Bw w1 w.heap.size (hi a) (lo a) := by rw [← hw1]; exact Bw.new _ _ _
  have c0 := X1.hi
  have c1 := X1.lo
  have XX := hid X1
  clear X1
  by_cases h : a < 0
  · have hlt : hi a < 0 := hn.2 h
    rw [if_pos h]
    clear hn h
    generalize hi a = h1 at *
    generalize lo a = l1 at *
    go_enter Tryd.func22, Tryd.ntmps22
    go_wp2_with fail
    refine (C1.out _).mono ?_
    rintro e w2 ⟨rfl, b2⟩
    go_wp2_with fail
    refine (CD.out _).mono ?_
    rintro e w3 ⟨rfl, b3⟩
    have b4 := below_up b1 (below_up b2 b3)
    go_wp2_with fail
    refine (CT.out _ (HT.out.later b4)).mono ?_
    rintro e w4 ⟨rfl, b5⟩
    have X4 := XX.out.later (below_up b2 (below_up b3 b5))
    have d0 := X4.hi
    have B := hid (below_up b4 b5)
    clear b1 b2 b3 b4 b5 X4 HT XX
    go_wp2_with fail
    go_ret
    exact ⟨by first | rfl | (rw [show (⟨#[45]⟩ : ByteArray) = ⟨([45] : List UInt8).toArray⟩ from rfl, ba_app]; rfl), B.out⟩
  · have hlt : ¬ hi a < 0 := fun k => h (hn.1 k)
    rw [if_neg h]
    clear hn h
    generalize hi a = h1 at *
    generalize lo a = l1 at *
    go_enter Tryd.func22, Tryd.ntmps22
    go_wp2_with fail
    refine (C1.out _).mono ?_
    rintro e w2 ⟨rfl, b2⟩
    go_wp2_with fail
    refine (CD.out _).mono ?_
    rintro e w3 ⟨rfl, b3⟩
    have b4 := below_up b1 (below_up b2 b3)
    go_wp2_with fail
    refine (CT.out _ (HT.out.later b4)).mono ?_
    rintro e w4 ⟨rfl, b5⟩
    have X4 := XX.out.later (below_up b2 (below_up b3 b5))
    have d0 := X4.hi
    have B := hid (below_up b4 b5)
    clear b1 b2 b3 b4 b5 X4 HT XX
    go_wp2_with fail
    go_ret
    exact ⟨rfl, B.out⟩
end Go.Proofs.YtdfmaicmbnjilaaDoor

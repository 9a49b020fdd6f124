/-
  The document's least, codes, widest, FrameWidth, PackedWidth.
-/
import Derived.Test.YtaefdkifijebcaaGRefV
namespace Go.Proofs.Ytaefdkifijebcaa
open Go.ChangeShapes Go.WideShapes Go.ChangeAt Go.RowKit Fr Rn Cu

theorem lo_snoc (l : List Int) (x : Int) : lo (l ++ [x]) = if l = [] then x else min (lo l) x := by
  induction l with
  | nil => rfl
  | cons y r ih =>
    rw [if_neg (by simp)]
    cases r with
    | nil => rfl
    | cons z t =>
      show min y (lo (z :: t ++ [x])) = min (min y (lo (z :: t))) x
      rw [ih, if_neg (by simp)]
      omega
set_option maxRecDepth 4000 in
set_option maxHeartbeats 2000000 in
theorem rLeast_any (a : Option Addr) (l : List Int) (c : Nat) (w : World) (hA : Ints w a l) (hn : l.length ≤ 140737488355328) :
    Calls Try.prog 40 #[.slice a l.length c] w fun e w' => e = .returned (.int .i64 (lo l)) ∧ w' = w := by
  have HA := hid hA
  clear hA
  go_enter Try.func40, Try.ntmps40
  go_wp2_with fail
  go_loopw [3, 4] (fun x y wr => ∃ i : Nat, i ≤ l.length ∧ x = .int .i64 (lo (l.take i)) ∧ y = .int .i64 (i : Int) ∧ wr = w) (fun _ y _ => l.length - (intOf y).toNat)
  case atStart => exact ⟨0, Nat.zero_le _, rfl, rfl, rfl⟩
  case round =>
    obtain ⟨i, hi, rfl, rfl, hwr⟩ := hrel
    subst wr
    by_cases hlt : i < l.length
    · have hii : (i : Int) < (l.length : Int) := by omega
      obtain ⟨g, o, rfl, _, k1⟩ := HA.out.cell1 hlt
      have hs : lo (l.take (i + 1)) = if l.take i = [] then l[i] else min (lo (l.take i)) l[i] := by
        rw [List.take_add_one, List.getElem?_eq_getElem hlt]
        exact lo_snoc _ _
      have hte : l.take i = [] ↔ i = 0 := by
        rw [List.take_eq_nil_iff]
        constructor
        · rintro (h | h)
          · exact h
          · rw [h] at hlt; simp at hlt
        · exact fun h => .inl h
      by_cases h0 : i = 0
      · rw [if_pos (hte.2 h0)] at hs
        have HS := hid hs
        generalize l[i] = x at *
        generalize lo (l.take i) = m at *
        have h0i : (i : Int) = 0 := by omega
        have k2 := k1
        rw [h0, Nat.add_zero] at k2
        clear hs hte HA
        go_wp2_with fail
        exact ⟨⟨i + 1, by omega, by rw [HS.out], by go_num, by first | trivial | rfl⟩, by simp [intOf]; omega⟩
      · rw [if_neg (fun h => h0 (hte.1 h))] at hs
        have h0i : ((i : Int) == 0) = false := by rw [beq_eq_false_iff_ne]; omega
        have h0j : ¬ (i : Int) = 0 := by omega
        by_cases hx : l[i] < lo (l.take i)
        · rw [show min (lo (l.take i)) l[i] = l[i] by omega] at hs
          have HS := hid hs
          generalize l[i] = x at *
          generalize lo (l.take i) = m at *
          clear hs hte HA
          go_wp2_with fail
          exact ⟨⟨i + 1, by omega, by rw [HS.out], by go_num, by first | trivial | rfl⟩, by simp [intOf]; omega⟩
        · rw [show min (lo (l.take i)) l[i] = lo (l.take i) by omega] at hs
          have HS := hid hs
          generalize l[i] = x at *
          generalize lo (l.take i) = m at *
          clear hs hte HA
          go_wp2_with fail
          exact ⟨⟨i + 1, by omega, by rw [HS.out], by go_num, by first | trivial | rfl⟩, by simp [intOf]; omega⟩
    · obtain rfl : i = l.length := by omega
      rw [List.take_length]
      go_wp2_with fail
      go_ret
      exact ⟨rfl, rfl⟩
/-- The least width that all fit. -/
def Wd (C : List Nat) (w : Nat) : Prop := (∀ c ∈ C, c < 2 ^ w) ∧ (w = 0 ∨ ∃ c ∈ C, ¬ c < 2 ^ (w - 1))
theorem wd_fw {l : List Int} (h : ∀ x ∈ l, In x) {w : Nat} (hw : w ≤ 64) (hd : Wd (codes (lo l) l) w) : w = fw l := by
  have h1 := (fw_fits h hw).2 hd.1
  rcases hd.2 with h0 | ⟨c, h2, h3⟩
  · omega
  · by_cases h4 : fw l ≤ w - 1
    · exact absurd ((fw_fits h (by omega)).1 h4 c h2) h3
    · omega
theorem wd_pw {l : List Int} (h : ∀ x ∈ l, In x) (h0 : ∀ x ∈ l, 0 ≤ x) {w : Nat} (hw : w ≤ 64) (hd : Wd (codes 0 l) w) : w = pw l := by
  have h1 := (pw_fits h h0 hw).2 hd.1
  rcases hd.2 with h0' | ⟨c, h2, h3⟩
  · omega
  · by_cases h4 : pw l ≤ w - 1
    · exact absurd ((pw_fits h h0 (by omega)).1 h4 c h2) h3
    · omega
theorem wd_next {C : List Nat} {i k : Nat} (hi : i < C.length) (h : Wd (C.take i) k) (hx : C[i] < 2 ^ k) : Wd (C.take (i + 1)) k := by
  have em : ∀ c, c ∈ C.take (i + 1) ↔ c ∈ C.take i ∨ c = C[i] := fun c => by
    rw [List.take_add_one, List.getElem?_eq_getElem hi, List.mem_append]
    simp
  refine ⟨fun c hc => ?_, h.2.imp id (fun ⟨c, h1, h2⟩ => ⟨c, (em c).2 (.inl h1), h2⟩)⟩
  rcases (em c).1 hc with h1 | rfl
  · exact h.1 c h1
  · exact hx
/-- In the inner loop: what came before fits; the width below is too small for all so far. -/
def Wi (C : List Nat) (i k : Nat) : Prop := (∀ c ∈ C.take i, c < 2 ^ k) ∧ (k = 0 ∨ ∃ c ∈ C.take (i + 1), ¬ c < 2 ^ (k - 1))
theorem wi_of {C : List Nat} {i k : Nat} (hi : i < C.length) (h : Wd (C.take i) k) : Wi C i k := by
  refine ⟨h.1, h.2.imp id (fun ⟨c, h1, h2⟩ => ⟨c, ?_, h2⟩)⟩
  rw [List.take_add_one, List.getElem?_eq_getElem hi, List.mem_append]
  exact .inl h1
theorem wi_up {C : List Nat} {i k : Nat} (hi : i < C.length) (h : Wi C i k) (hx : ¬ C[i] < 2 ^ k) : Wi C i (k + 1) := by
  refine ⟨fun c hc => Nat.lt_trans (h.1 c hc) (Nat.pow_lt_pow_right (by omega) (by omega)), .inr ⟨C[i], ?_, by simpa using hx⟩⟩
  rw [List.take_add_one, List.getElem?_eq_getElem hi, List.mem_append]
  exact .inr (by simp)
theorem wi_done {C : List Nat} {i k : Nat} (hi : i < C.length) (h : Wi C i k) (hx : C[i] < 2 ^ k) : Wd (C.take (i + 1)) k := by
  refine ⟨fun c hc => ?_, h.2⟩
  rw [List.take_add_one, List.getElem?_eq_getElem hi, List.mem_append] at hc
  rcases hc with h1 | h1
  · exact h.1 c h1
  · have : c = C[i] := by simpa using h1
    rw [this]; exact hx
set_option maxRecDepth 4000 in
set_option maxHeartbeats 2000000 in
theorem rWidest_any (a : Option Addr) (C : List Nat) (c : Nat) (w : World) (hA : Pk.Nums w .u64 a C.length (ofL C)) (hC : ∀ x ∈ C, x < 18446744073709551616) (hn : C.length ≤ 140737488355328) :
    Calls Try.prog 35 #[.slice a C.length c] w fun e w' => (∃ k : Nat, e = .returned (.int .i64 (k : Int)) ∧ k ≤ 64 ∧ Wd C k) ∧ w' = w := by
  have HA := hid hA
  have HC := hid hC
  clear hA hC
  go_enter Try.func35, Try.ntmps35
  go_wp2_with fail
  go_loopw [3, 4] (fun x y wr => ∃ i k : Nat, i ≤ C.length ∧ x = .int .i64 (k : Int) ∧ y = .int .i64 (i : Int) ∧ k ≤ 64 ∧ Hid (Wd (C.take i) k) ∧ wr = w) (fun _ y _ => C.length - (intOf y).toNat)
  case atStart => exact ⟨0, 0, Nat.zero_le _, rfl, rfl, by omega, ⟨fun c hc => by simp at hc, .inl rfl⟩, rfl⟩
  case round =>
    obtain ⟨i, k, hi, rfl, rfl, hk, HW, hwr⟩ := hrel
    subst wr
    by_cases hlt : i < C.length
    · have hii : (i : Int) < (C.length : Int) := by omega
      obtain ⟨g, o, rfl, _, k1⟩ := HA.out i hlt
      rw [show ofL C i = C[i] by unfold ofL; rw [List.getD_eq_getElem?_getD, List.getElem?_eq_getElem hlt]; rfl] at k1
      have hxl := HC.out _ (List.getElem_mem hlt)
      have HWI := hid (wi_of hlt HW.out)
      have HUP := hid (fun k => wi_up (C := C) (i := i) (k := k) hlt)
      have HDN := hid (fun k => wi_done (C := C) (i := i) (k := k) hlt)
      have HF := hid (fun k (hk : k ≤ 64) wx => Pk.fits_any C[i] k wx hxl hk)
      have HTOP : Hid (C[i] < 2 ^ 64) := hxl
      clear HW HA HC
      generalize C[i] = x at *
      go_wp2_with fail
      go_loopw [3] (fun y wr => ∃ k : Nat, k ≤ 64 ∧ y = .int .i64 (k : Int) ∧ Hid (Wi C i k) ∧ wr = w) (fun y _ => 64 - (intOf y).toNat)
      case atStart => exact ⟨k, hk, rfl, HWI, rfl⟩
      case round =>
        clear HWI
        obtain ⟨k, hk, rfl, HK, hwr⟩ := hrel
        subst wr
        have HF2 := hid (HF.out k hk)
        by_cases hx : x < 2 ^ k
        · have HF3 := HF2.out
          rw [show decide (x < 2 ^ k) = true from decide_eq_true hx] at HF3
          have HF4 := hid HF3
          have HN := hid (HDN.out k HK.out hx)
          clear HF HF2 HF3 HUP HDN hx HTOP
          go_wp2_with (go_at_call 69; refine (HF4.out _).mono ?_; rintro e wb ⟨rfl, hwb⟩; subst wb)
          exact ⟨⟨i + 1, k, by omega, rfl, by go_num, hk, HN, by first | trivial | rfl⟩, by simp [intOf]; omega⟩
        · have HF3 := HF2.out
          rw [show decide (x < 2 ^ k) = false from decide_eq_false hx] at HF3
          have HF4 := hid HF3
          have hk64 : k ≠ 64 := fun e => hx (by rw [e]; exact HTOP.out)
          have HN := hid (HUP.out k HK.out hx)
          clear HF HF2 HF3 HUP HDN hx HTOP
          go_wp2_with (go_at_call 69; refine (HF4.out _).mono ?_; rintro e wb ⟨rfl, hwb⟩; subst wb)
          exact ⟨⟨k + 1, by omega, by go_num, HN, by first | trivial | rfl⟩, by simp [intOf]; omega⟩
    · obtain rfl : i = C.length := by omega
      rw [List.take_length] at HW
      go_wp2_with fail
      go_ret
      exact ⟨⟨k, rfl, hk, HW.out⟩, rfl⟩
theorem infoU64p : (Try.prog.info? 22).map (fun i => (i.zero, i.size, i.bytes)) = some (some (.int .u64 0), 1, 8) := by kernel_rfl
theorem ofL_map_at {l : List Int} {f : Int → Nat} {i : Nat} (h : i < l.length) : ofL (l.map f) i = f l[i] := by
  unfold ofL
  rw [List.getD_eq_getElem?_getD, List.getElem?_map, List.getElem?_eq_getElem h]
  rfl
set_option maxRecDepth 4000 in
set_option maxHeartbeats 2000000 in
theorem rCodes_any (a : Option Addr) (l : List Int) (c : Nat) (w : World) (hA : Ints w a l) (hI : ∀ x ∈ l, In x) (hn : l.length * 8 ≤ 140737488355328) :
    Calls Try.prog 38 #[.slice a l.length c] w fun e w' => ∃ v, e = .returned v ∧ Pk.Own w' w.heap.size 22 .u64 v l.length (ofL (codes (lo l) l)) ∧ Below w.heap.size w w' := by
  have HA := hid hA
  have HI := hid hI
  have HL := hid (rLeast_any a l c w hA (by omega))
  have HLE : Hid (∀ x ∈ l, lo l ≤ x) := fun x hx => lo_le hx
  have HLI : Hid (In (lo l)) := lo_in hI
  clear hA hI
  go_enter Try.func38, Try.ntmps38
  go_wp2_with (go_at_call 40; refine HL.out.mono ?_; rintro e wb ⟨rfl, hwb⟩; subst wb)
  generalize hml : lo l = m at *
  have HML := hid hml
  clear hml
  go_loopw [4, 5] (fun x y wr => ∃ i : Nat, i ≤ l.length ∧ y = .int .i64 (i : Int) ∧ Hid (Pk.Own wr w.heap.size 22 .u64 x i (ofL (codes m l))) ∧ Hid (Below w.heap.size w wr)) (fun _ y _ => l.length - (intOf y).toNat)
  case atStart => exact ⟨0, Nat.zero_le _, rfl, Pk.Own.nil _ _ _ _ _, Below.refl _ _⟩
  case round =>
    obtain ⟨i, hi, rfl, HO, HB⟩ := hrel
    rename World => wr
    by_cases hlt : i < l.length
    · have hii : (i : Int) < (l.length : Int) := by omega
      obtain ⟨g, o, rfl, _, k1⟩ := (Lst.later HA.out HB.out).cell1 hlt
      have HD := hid (fun wx => refDrop_yes m l[i] wx HLI.out (HI.out _ (List.getElem_mem hlt)) (HLE.out _ (List.getElem_mem hlt)))
      have he : ((cd m l[i] : Nat) : Int) = ((ofL (codes m l) i : Nat) : Int) := by
        unfold codes
        rw [ofL_map_at hlt]
      have HE := hid he
      clear he
      generalize l[i] = x at *
      generalize cd m x = d at *
      go_wp2_with (first
        | (go_at_call 7
           refine (HD.out _).mono ?_
           rintro e w2 ⟨rfl, hb2⟩
           obtain ⟨g3, c3, w3, R3, H3, B3, _⟩ := Pk.run_one (w := w2) (t := 67) (ty := 67) (by0 := 8) Try.underlying67 infoU64p (HO.out.later hb2) (by omega) (by omega) (Nat.le_trans HB.out.size hb2.size) (d : Int) HE.out
           have R3' := hid R3
           have H3' := hid H3
           have B3' : Hid (Below w.heap.size w w3) := (below_up HB.out hb2).trans B3
           clear R3 H3 B3 hb2 HO)
        | (at_builtin; refine wpList_app (by rfl) (by rfl) R3'.out ?_; clear R3'))
      exact ⟨⟨i + 1, by omega, by go_num, H3', B3'⟩, by simp [intOf]; omega⟩
    · obtain rfl : i = l.length := by omega
      go_wp2_with fail
      go_ret
      exact ⟨_, rfl, by rw [HML.out]; exact HO.out, HB.out⟩
set_option maxRecDepth 4000 in
set_option maxHeartbeats 2000000 in
theorem rFrameWidth_any (a : Option Addr) (l : List Int) (c : Nat) (w : World) (hA : Ints w a l) (hI : ∀ x ∈ l, In x) (hn : l.length * 8 ≤ 140737488355328) :
    Calls Try.prog 18 #[.slice a l.length c] w fun e w' => e = .returned (.int .i64 (fw l : Int)) ∧ Below w.heap.size w w' := by
  have HC := hid (rCodes_any a l c w hA hI hn)
  have HI := hid hI
  have HLT : Hid (∀ x ∈ codes (lo l) l, x < 18446744073709551616) := fun x hx => by
    unfold codes at hx
    rw [List.mem_map] at hx
    obtain ⟨y, hy, rfl⟩ := hx
    exact cd_lt (lo_in hI) (hI y hy)
  clear hA hI
  go_enter Try.func18, Try.ntmps18
  go_wp2_with fail
  refine HC.out.mono ?_
  rintro e w1 ⟨v, rfl, hO, hB⟩
  obtain ⟨a1, c1, rfl, _⟩ := hO.form
  have HW := rWidest_any a1 (codes (lo l) l) c1 w1 (by rw [codes_len]; exact hO.nums) HLT.out (by rw [codes_len]; omega)
  rw [codes_len] at HW
  have HW' := hid HW
  have HB := hid hB
  clear HW hO hB HC
  go_wp2_with fail
  refine HW'.out.mono ?_
  rintro e w2 ⟨⟨k, rfl, hk, hd⟩, hw2⟩
  subst w2
  have hkf := wd_fw HI.out hk hd
  clear hd HW'
  go_wp2_with fail
  go_ret
  exact ⟨by rw [← hkf]; rfl, HB.out⟩
end Go.Proofs.Ytaefdkifijebcaa

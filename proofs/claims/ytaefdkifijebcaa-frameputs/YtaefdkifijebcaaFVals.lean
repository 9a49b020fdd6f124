/-
  Values.
-/
import Derived.Test.YtaefdkifijebcaaFOpenF
import Derived.Deep.RegionWith
namespace Go.Proofs.Ytaefdkifijebcaa
open Go.ChangeShapes Go.WideShapes Go.ChangeAt Go.RowKit Fr

/-- What Unpack refuses. -/
def unE (b : List Nat) (n width : Int) : Int := if Pk.isWidth width = true then faultE b n width else 20
def valE (base : Int) (b : List Nat) (n width : Int) : Int := if unE b n width ≠ 0 then unE b n width else if ∃ c ∈ unpackL b n.toNat width.toNat, most base < c then 70 else 0
def valR (base : Int) (b : List Nat) (n width : Int) : List Int := if valE base b n width = 0 then (unpackL b n.toNat width.toNat).map fun (c : Nat) => base + (c : Int) else []
theorem unpack_any (a : Option Addr) (b : List Nat) (c : Nat) (n width : Int) (w : World) (hA : Bytes w a b) (hb : ∀ x ∈ b, x < 256) (hc : b.length ≤ c) (hc2 : c ≤ 9223372036854775807) :
    Calls Try.prog 54 #[.slice a b.length c, .int .i64 width, .int .i64 n] w fun e w' => Below w.heap.size w w' ∧
      ((unE b n width ≠ 0 ∧ e = .returned (.tuple #[.slice none 0 0, .int .i64 (unE b n width)])) ∨
       ∃ m k : Nat, n = (m : Int) ∧ width = (k : Int) ∧ unE b n width = 0 ∧ m ≤ 16777216 ∧ k ≤ 64 ∧ e = .returned (.tuple #[.slice (some ⟨w.heap.size, 0, none⟩) m m, .int .i64 0]) ∧ Pk.Blk w' w.heap.size 22 .u64 m m (ofL (unpackL b m k))) := by
  by_cases hw : Pk.isWidth width = true
  · have e0 : unE b n width = faultE b n width := by unfold unE; rw [if_pos hw]
    by_cases hE : Pk.byteE n width = 0
    · obtain ⟨m, k, rfl, rfl, hm, hk⟩ := byteE_int hE
      have e1 : faultE b (m : Int) (k : Int) = if b.length < (m * k + 7) / 8 then 22 else if (m * k + 7) / 8 < b.length ∨ tailZ b m k ≠ 0 then 23 else 0 := by
        unfold faultE
        rw [if_neg (by simpa using hE), Pk.byteN_nat hm hk, Int.toNat_natCast, Int.toNat_natCast]
        simp only [Int.ofNat_lt]
      rcases Nat.lt_trichotomy b.length ((m * k + 7) / 8) with h | h | h
      · rw [if_pos h] at e1
        refine (Pk.unpackU64_cut a b.length c k m w hm hk h).mono ?_
        rintro e w' ⟨rfl, rfl⟩
        exact ⟨Below.refl _ _, .inl ⟨by rw [e0, e1]; omega, by rw [e0, e1]⟩⟩
      · rw [if_neg (by omega)] at e1
        by_cases hz : tailZ b m k = 0
        · rw [if_neg (by rw [hz]; omega)] at e1
          have := Pk.unpackU64_run a c k m (ofL b) w hm hk (by omega) hc2 (by rw [← h]; exact ofL_byt hb) (by rw [← h]; exact hA) hz
          rw [← h] at this
          refine this.mono ?_
          rintro e w' ⟨hB, ⟨_, i, hi, hx⟩ | ⟨_, rfl, hbk⟩⟩
          · exact absurd (lane_lt64 b hk i) hx
          · exact ⟨hB, .inr ⟨m, k, rfl, rfl, by rw [e0, e1], hm, hk, rfl, hbk.ext fun j hj => (unpackL_get b hj).symm⟩⟩
        · rw [if_pos (.inr hz)] at e1
          have := Pk.unpackU64_left a c k m (ofL b) w hm hk (by omega) hc2 (by rw [← h]; exact ofL_byt hb) (by rw [← h]; exact hA) hz
          rw [← h] at this
          refine this.mono ?_
          rintro e w' ⟨rfl, j, rfl⟩
          exact ⟨below_drewN (Below.refl _ _) _, .inl ⟨by rw [e0, e1]; omega, by rw [e0, e1]⟩⟩
      · rw [if_neg (by omega), if_pos (.inl h)] at e1
        refine (Pk.unpackU64_long a b.length c k m w hm hk h).mono ?_
        rintro e w' ⟨rfl, rfl⟩
        exact ⟨Below.refl _ _, .inl ⟨by rw [e0, e1]; omega, by rw [e0, e1]⟩⟩
    · have e1 : faultE b n width = Pk.byteE n width := by unfold faultE; rw [if_pos hE]
      refine (Pk.unpackU64_bad a b.length c width n w hw hE).mono ?_
      rintro e w' ⟨rfl, rfl⟩
      exact ⟨Below.refl _ _, .inl ⟨by rw [e0, e1]; exact hE, by rw [e0, e1]⟩⟩
  · have e0 : unE b n width = 20 := by unfold unE; rw [if_neg hw]
    refine (Pk.unpackU64_width a b.length c width n w (by simpa using hw)).mono ?_
    rintro e w' ⟨rfl, rfl⟩
    exact ⟨Below.refl _ _, .inl ⟨by rw [e0]; omega, by rw [e0]⟩⟩

theorem infoI64 : (Try.prog.info? 2).map (fun i => (i.zero, i.size, i.bytes)) = some (some (.int .i64 0), 1, 8) := by kernel_rfl
theorem flat_one (l : List Int) : (l.flatMap fun x => [Value.int .i64 x]) = l.map (Value.int .i64) := by
  induction l with
  | nil => rfl
  | cons x l ih => rw [List.flatMap_cons, ih, List.map_cons]; rfl
/-- A block of whole numbers, some of them known. -/
def IBk (w : World) (g n : Nat) (l : List Int) : Prop := ∃ cur : Array Value, w.heap[g]? = some (.cells cur 2 (0, 0)) ∧ cur.size = n ∧ l.length ≤ n ∧ ∀ (j : Nat) (x : Int), l[j]? = some x → cur[j]? = some (Value.int .i64 x)
theorem IBk.made (w : World) (n : Nat) : IBk (w.alloc (.cells (madeCells #[.int .i64 0] n) 2)) w.heap.size n [] :=
  ⟨_, heap_alloc_new w _, by simp [madeCells], Nat.zero_le _, fun j x hj => by simp at hj⟩
theorem IBk.drewN {w : World} {g n : Nat} {l : List Int} (h : IBk w g n l) (j : Nat) : IBk (w.drewN j) g n l := h
theorem IBk.lt {w : World} {g n : Nat} {l : List Int} (h : IBk w g n l) : g < w.heap.size := by
  obtain ⟨cur, h1, _⟩ := h
  exact (Array.getElem?_eq_some_iff.1 h1).1
theorem IBk.cell {w : World} {g n : Nat} {l : List Int} (h : IBk w g n l) {j : Nat} (hj : j < n) : ∃ u, w.cell? ⟨g, j, none⟩ = some u := by
  obtain ⟨cur, h1, h2, _⟩ := h
  exact ⟨cur[j], by simp [World.cell?, h1, h2, hj]⟩
theorem IBk.frozen {w : World} {g n : Nat} {l : List Int} (h : IBk w g n l) (j : Nat) : w.frozen? ⟨g, j, none⟩ = false := by
  obtain ⟨cur, h1, _⟩ := h
  simp [World.frozen?, h1]
theorem IBk.push {w : World} {g n : Nat} {l : List Int} (h : IBk w g n l) (hl : l.length < n) (x : Int) : IBk (w.setCell ⟨g, l.length, none⟩ (.int .i64 x)) g n (l ++ [x]) := by
  obtain ⟨cur, h1, h2, h3, h4⟩ := h
  refine ⟨cur.setIfInBounds l.length (.int .i64 x), ?_, by simpa using h2, by simp; omega, fun j y hj => ?_⟩
  · simp only [World.setCell, Array.getElem?_modify]
    simp [h1]
  · rw [Array.getElem?_setIfInBounds]
    by_cases hji : l.length = j
    · subst hji
      simp at hj
      subst hj
      simp; omega
    · rw [if_neg hji]
      rw [List.getElem?_append] at hj
      by_cases hjl : j < l.length
      · rw [if_pos hjl] at hj; exact h4 j y hj
      · rw [if_neg hjl, List.getElem?_eq_none (by simp; omega)] at hj; simp at hj
theorem IBk.own {w : World} {g n : Nat} {l : List Int} (h : IBk w g n l) (hl : l.length = n) {B : Nat} (hB : B ≤ g) (hn : n ≤ maxLen) : OwnL (one (Value.int .i64)) 1 w B 2 (.slice (some ⟨g, 0, none⟩) n n) l := by
  obtain ⟨cur, h1, h2, _, h4⟩ := h
  refine ⟨by rw [flat_len (one_len _)], .inr ⟨g, n, cur, by rw [hl], hB, h1, by omega, hn, by omega, ?_⟩⟩
  have e : l.flatMap (one (Value.int .i64)) = l.map (Value.int .i64) := by
    unfold one
    exact flat_one l
  rw [e]
  apply List.ext_getElem?
  intro j
  rw [List.getElem?_take, List.getElem?_map]
  by_cases hj : j < l.length
  · rw [if_pos (by omega), List.getElem?_eq_getElem hj]
    simpa using h4 j _ (List.getElem?_eq_getElem hj)
  · rw [if_neg (by omega), List.getElem?_eq_none (by omega)]; rfl
theorem map_next (C : List Nat) (base : Int) (i : Nat) (h : i < C.length) : ((C.take i).map fun (c : Nat) => base + (c : Int)) ++ [base + (C[i] : Int)] = ((C.take (i + 1)).map fun (c : Nat) => base + (c : Int)) := by
  rw [List.take_add_one, List.getElem?_eq_getElem h, List.map_append]
  rfl
/-- What Values answers. -/
def IAns (w w' : World) (v : Value) (l : List Int) : Prop := OwnL (one (Value.int .i64)) 1 w' w.heap.size 2 v l ∧ Below w.heap.size w w'
theorem lift_in {b : Int} {c : Nat} (hb : In b) (h : ¬ most b < c) : lift b c = b + (c : Int) := by
  unfold lift most cd In at *
  rw [if_pos (by omega)]
set_option maxRecDepth 4000 in
set_option maxHeartbeats 2000000 in
theorem values_any (base : Int) (a : Option Addr) (b : List Nat) (c : Nat) (n width : Int) (w : World) (hA : Bytes w a b) (hb : ∀ x ∈ b, x < 256) (hc : b.length ≤ c) (hc2 : c ≤ 9223372036854775807) (hI : In base) :
    Calls Try.prog 28 #[.int .i64 base, .slice a b.length c, .int .i64 n, .int .i64 width] w fun e w' => ∃ v, e = .returned (.tuple #[v, .int .i64 (valE base b n width)]) ∧ IAns w w' v (valR base b n width) := by
  have HU := hid (unpack_any a b c n width w hA hb hc hc2)
  have HI := hid hI
  clear hA hb hI
  go_enter Try.func28, Try.ntmps28
  go_wp2_with fail
  refine HU.out.mono ?_
  rintro e w1 ⟨hB, ⟨hne, rfl⟩ | ⟨m, k, rfl, rfl, hz, hm, hk, rfl, hbk⟩⟩
  · have e1 : valE base b n width = unE b n width := by unfold valE; rw [if_pos hne]
    have e2 : valR base b n width = [] := by unfold valR; rw [e1, if_neg hne]
    have E1 := hid e1
    have E2 := hid e2
    have B1 := hid hB
    clear HU hB e1 e2
    generalize unE b n width = E at *
    have hne2 : (E != 0) = true := by simpa using hne
    go_wp2_with fail
    go_ret2
    rw [E1.out, E2.out]
    exact ⟨_, rfl, OwnL.nil _ _ _ _ _, B1.out⟩
  · have e1 : valE base b (m : Int) (k : Int) = if ∃ c ∈ unpackL b m k, most base < c then 70 else 0 := by
      unfold valE
      rw [if_neg (by simpa using hz)]
      rfl
    have E1 := hid e1
    have E2 : Hid (valE base b (m : Int) (k : Int) = 0 → valR base b (m : Int) (k : Int) = (unpackL b m k).map fun (c : Nat) => base + (c : Int)) := fun h => by unfold valR; rw [if_pos h]; rfl
    have E3 : Hid (valE base b (m : Int) (k : Int) ≠ 0 → valR base b (m : Int) (k : Int) = []) := fun h => by unfold valR; rw [if_neg h]
    have B1 := hid hB
    have K1 := hid hbk
    have HLT : Hid (∀ x ∈ unpackL b m k, x < 18446744073709551616) := fun x hx => by
      unfold unpackL at hx
      simp only [List.mem_map] at hx
      obtain ⟨i, _, rfl⟩ := hx
      exact lane_lt64 b hk i
    have hul := unpackL_len b m k
    clear HU hB hbk e1 hz
    generalize hc0 : unpackL b m k = C at *
    subst hul
    clear hc0
    have hg1 : w.heap.size < w1.heap.size := K1.out.lt
    obtain ⟨i0, hi, hz0, hz1, hz2⟩ := info_parts infoI64
    have hmk := fun wx => run_make (P := Try.prog) wx 27 2 i0 (.int .i64 0) Try.underlying27 hi hz0 .i64 .i64 (C.length : Int) (C.length : Int) (by omega) (by omega) (by rw [hz2]; omega) (by omega)
    simp only [hz1, Int.toNat_natCast, Nat.mul_one] at hmk
    clear hi hz0 hz1 hz2
    have HM0 := hid (IBk.made w1 C.length)
    have HB0 := hid (below_new w1 (.cells (madeCells #[.int .i64 0] C.length) 2))
    have HMO := hid (fun wx => most_any base wx HI.out)
    go_wp2_with fail
    go_region_with (go_at_call 52; refine (HMO.out _).mono ?_; rintro e w2 ⟨rfl, rfl⟩)
    all_goals go_wp2_with fail
    all_goals
      go_loopw [33] (fun y wr => ∃ i : Nat, i ≤ C.length ∧ y = .int .i64 (i : Int) ∧ Hid (IBk wr w1.heap.size C.length ((C.take i).map fun (c : Nat) => base + (c : Int))) ∧ Hid (Below w1.heap.size w1 wr) ∧ Hid (∀ c ∈ C.take i, ¬ most base < c)) (fun y _ => C.length - (intOf y).toNat)
      case atStart => exact ⟨0, Nat.zero_le _, rfl, HM0.out, ⟨HB0.out.os, HB0.out.tape, HB0.out.output, HB0.out.size, HB0.out.block⟩, fun c hc => by simp at hc⟩
      case round =>
        obtain ⟨i, hil, rfl, hIB, hBe, hAl⟩ := hrel
        clear HM0 HB0 hmk HMO
        by_cases hlt : i < C.length
        · have hii : (i : Int) < (C.length : Int) := by omega
          have k1 : wr.cell? ⟨w.heap.size, i, none⟩ = some (.int .u64 (C[i] : Int)) := by
            rw [hBe.out.cell (p := ⟨w.heap.size, i, none⟩) hg1, K1.out.cell hlt]
            unfold ofL
            rw [List.getD_eq_getElem?_getD, List.getElem?_eq_getElem hlt]; rfl
          have hxl := HLT.out _ (List.getElem_mem hlt)
          by_cases hmo : most base < C[i]
          · have hd : decide (most base < C[i]) = true := by simpa using hmo
            have e1 : valE base b (C.length : Int) (k : Int) = 70 := by rw [E1.out, if_pos ⟨_, List.getElem_mem hlt, hmo⟩]
            have e3 := E3.out (by rw [e1]; omega)
            have F1 := hid e1
            have F3 := hid e3
            have B2 := hid (B1.out.trans (hBe.out.mono B1.out.size))
            clear e1 e3 E1 E2 E3 hIB hBe hAl hmo
            generalize C[i] = x at *
            go_wp2_with fail
            go_ret2
            rw [F1.out, F3.out]
            exact ⟨_, rfl, OwnL.nil _ _ _ _ _, B2.out⟩
          · have hd : decide (most base < C[i]) = false := by simpa using hmo
            have hln : ((C.take i).map fun (c : Nat) => base + (c : Int)).length = i := by simp; omega
            have hp := hIB.out.push (by rw [hln]; exact hlt) (base + (C[i] : Int))
            rw [hln, map_next C base i hlt] at hp
            have hfz := hIB.out.frozen i
            obtain ⟨u, hcl⟩ := hIB.out.cell hlt
            have HL := hid (fun wx => lift_any base C[i] wx HI.out hxl)
            rw [lift_in HI.out hmo] at HL
            have HP := hid hp
            have HA2 : Hid (∀ c ∈ C.take (i + 1), ¬ most base < c) := fun c hc => by
              rw [List.take_add_one, List.getElem?_eq_getElem hlt] at hc
              rcases List.mem_append.1 hc with h | h
              · exact hAl.out c h
              · simp at h; subst h; exact hmo
            clear hp hln hIB hAl hmo E1 E2 E3
            generalize C[i] = x at *
            go_wp2_with fail
            refine (HL.out _).mono ?_
            rintro e w3 ⟨rfl, hw3⟩
            subst hw3
            go_wp2_with fail
            exact ⟨⟨i + 1, by omega, by go_num, HP, hBe.out.setCell (p := ⟨w1.heap.size, i, none⟩) (Nat.le_refl _) _, HA2⟩, by simp [intOf]; omega⟩
        · obtain rfl : i = C.length := by omega
          have hln : ((C.take C.length).map fun (c : Nat) => base + (c : Int)).length = C.length := by simp
          have ho := hIB.out.own hln (B := w.heap.size) (by omega) (by simp only [maxLen]; omega)
          have hal := hAl.out
          rw [List.take_length] at ho hal
          have e1 : valE base b (C.length : Int) (k : Int) = 0 := by rw [E1.out, if_neg (fun ⟨c, hc, h⟩ => hal c hc h)]
          have e2 := E2.out e1
          have F1 := hid e1
          have F2 := hid e2
          have O := hid ho
          have B2 := hid (B1.out.trans (hBe.out.mono B1.out.size))
          clear e1 e2 ho hal hln hIB hBe hAl E1 E2 E3
          go_wp2_with fail
          go_ret2
          rw [F1.out, F2.out]
          exact ⟨_, rfl, O.out, B2.out⟩
end Go.Proofs.Ytaefdkifijebcaa

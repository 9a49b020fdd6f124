/-
  dict's codesMayBe, of any codes.
-/
import Derived.Test.YtenkdhphgfhkbaaGreatDRead4
namespace Go.Proofs.YtenkdhphgfhkbaaGreat
open Go.ChangeShapes Go.WideShapes Go.ChangeAt Go.RowKit Cu

/-- The code at a place. -/
def lnC (CB : List Nat) (wk i : Nat) : Nat := Pk.laneOf (Pk.bitB (ofL CB)) wk i
def MayC (k n : Nat) (CB : List Nat) : Prop := Pk.wordZ (Pk.bitB (ofL CB)) ((n * wd k : Nat) : Int) = 0 ∧ (∀ i, i < n → lnC CB (wd k) i < k) ∧ ∀ x, x < k → ∃ i, i < n ∧ lnC CB (wd k) i = x
theorem wd_le16 {k : Nat} (hk : k ≤ 65536) : wd k ≤ 16 := by
  unfold wd
  split
  · omega
  · exact (Pk.bitLen_fits (by omega) (by omega)).2 (by omega)
def seen (L : Nat → Nat) (i x : Nat) : Bool := (List.range i).any (fun t => L t == x)
theorem seen_next (L : Nat → Nat) (i x : Nat) : seen L (i + 1) x = if x = L i then true else seen L i x := by
  unfold seen
  rw [List.range_succ, List.any_append]
  by_cases h : x = L i
  · rw [if_pos h, h]; simp
  · rw [if_neg h]
    have : (L i == x) = false := by simp; exact fun e => h e.symm
    simp [this]
theorem seen_iff (L : Nat → Nat) (i x : Nat) : seen L i x = true ↔ ∃ t, t < i ∧ L t = x := by
  unfold seen
  rw [List.any_eq_true]
  constructor
  · rintro ⟨t, ht, h⟩
    exact ⟨t, List.mem_range.1 ht, by simpa using h⟩
  · rintro ⟨t, ht, h⟩
    exact ⟨t, List.mem_range.2 ht, by simpa using h⟩
theorem byt_of {CB : List Nat} {m : Nat} (hb : ∀ x ∈ CB, x < 256) (hlen : CB.length = m) : Pk.Byt m (ofL CB) := by
  refine ⟨fun j => ofL_small (by decide) hb j, fun j hj => ?_⟩
  unfold ofL
  rw [List.getD_eq_getElem?_getD, List.getElem?_eq_none (by omega)]
  rfl
set_option maxRecDepth 8000 in
set_option maxHeartbeats 4000000 in
theorem codes_any (vk : Value) (k n : Nat) (ac : Option Addr) (CB : List Nat) (cc : Nat) (w : World) (hA : Bytes w ac CB) (hb : ∀ x ∈ CB, x < 256) (hk : k ≤ 65536) (hn : n ≤ 16777216) (hlen : CB.length = (n * wd k + 7) / 8) (hc : CB.length ≤ cc) (hc2 : cc ≤ 9223372036854775807) :
    Calls Tryz.prog 38 #[.agg #[.int .i64 (k : Int), .int .i64 (wd k : Int), vk, .slice ac CB.length cc], .int .i64 (n : Int)] w fun e w' => ∃ r : Bool, e = .returned (.bool r) ∧ (r = true ↔ MayC k n CB) ∧ Below w.heap.size w w' := by
  have hw16 := wd_le16 hk
  have hby := byt_of hb hlen
  have hA' : Pk.Nums w .u8 ac ((n * wd k + 7) / 8) (ofL CB) := by rw [← hlen]; exact hA
  have b1 := below_new w (.cells #[.int .i64 (k : Int), .int .i64 (wd k : Int), vk, .slice ac CB.length cc] 69)
  have k1 := heap_new w (.cells #[.int .i64 (k : Int), .int .i64 (wd k : Int), vk, .slice ac CB.length cc] 69)
  obtain ⟨pb, hpb⟩ : ∃ pb, w.heap.size = pb := ⟨_, rfl⟩
  have hs1 : (w.alloc (.cells #[.int .i64 (k : Int), .int .i64 (wd k : Int), vk, .slice ac CB.length cc] 69)).heap.size = pb + 1 := by simp [hpb]
  by_cases hz : Pk.wordZ (Pk.bitB (ofL CB)) ((n * wd k : Nat) : Int) = 0
  · have HU := hid (fun wx (h : Below w.heap.size w wx) => Pk.unpackU16_run ac cc (wd k) n (ofL CB) wx hn (by omega) (by omega) hc2 hby (Pk.Nums.later hA' h) hz)
    have HMAY : Hid (MayC k n CB ↔ ((∀ i, i < n → lnC CB (wd k) i < k) ∧ ∀ x, x < k → ∃ i, i < n ∧ lnC CB (wd k) i = x)) := by unfold MayC; exact ⟨fun h => h.2, fun h => ⟨hz, h⟩⟩
    have HLN : Hid (∀ i, Pk.laneOf (Pk.bitB (ofL CB)) (wd k) i = lnC CB (wd k) i ∧ lnC CB (wd k) i < 65536) := fun i => ⟨rfl, Nat.lt_of_lt_of_le (Pk.laneOf_lt _ _ _) (Nat.pow_le_pow_right (n := 2) (by omega) hw16)⟩
    obtain ⟨i0, hi, hz0, hz1, hz2⟩ := info_parts infoBool
    have hmk := fun wx => run_make (P := Tryz.prog) wx 101 4 i0 (.bool false) Tryz.underlying101 hi hz0 .i64 .i64 (k : Int) (k : Int) (by omega) (by omega) (by rw [hz2]; omega) (by omega)
    simp only [hz1, Int.toNat_natCast, Nat.mul_one] at hmk
    rw [← hlen] at HU
    clear hby hA hA' hc hc2 hb hlen hi hz0 hz1 hz2 hz hw16
    generalize lnC CB (wd k) = L at *
    generalize wd k = wk at *
    go_enter Tryz.func38, Tryz.ntmps38
    go_wp2_with fail
    have H1 := hid (HU.out _ b1)
    generalize w.alloc (.cells #[.int .i64 (k : Int), .int .i64 (wk : Int), vk, .slice ac CB.length cc] 69) = w1 at *
    rw [hpb] at k1
    have B1 := hid b1
    clear b1 HU
    refine H1.out.mono ?_
    rintro e w2 ⟨b2, hor⟩
    have hor2 : e = .returned (.tuple #[.slice (some ⟨w1.heap.size, 0, none⟩) n n, .int .i64 0]) ∧ Pk.Blk w2 w1.heap.size 100 .u16 n n L := by
      rcases hor with ⟨_, i, hi, hno⟩ | ⟨_, he, hB⟩
      · exfalso
        rw [(HLN.out i).1] at hno
        exact hno (HLN.out i).2
      · exact ⟨he, Pk.Blk.ext hB (fun j _ => (HLN.out j).1)⟩
    clear hor
    obtain ⟨rfl, hB⟩ := hor2
    have hgl := hB.lt
    rw [hs1] at hB hgl ⊢
    have k2 := (b2.block pb (by rw [hs1]; omega)).trans k1
    have B2 := hid (below_up B1.out b2)
    have HBL := hid hB
    have HL6 : Hid (∀ i, L i < 65536) := fun i => (HLN.out i).2
    clear hB b2 H1 B1 k1 hs1 HLN
    have p0 : w2.cell? ⟨pb, 0, none⟩ = some (.int .i64 (k : Int)) := by rw [cell_of_row _ _ _ _ _ _ k2]; rfl
    have bm := below_new w2 (.cells (madeCells #[.bool false] k) 4)
    have KM := hid (BB.made w2 k)
    have hpl : pb < w2.heap.size := (Array.getElem?_eq_some_iff.1 k2).1
    have hmk2 := hmk w2
    obtain ⟨gm, hgm⟩ : ∃ gm, w2.heap.size = gm := ⟨_, rfl⟩
    rw [hgm] at KM hgl hpl hmk2
    have HQ : Hid (∀ wr : World, Below gm (w2.alloc (.cells (madeCells #[.bool false] k) 4)) wr → wr.cell? ⟨pb, 0, none⟩ = some (.int .i64 (k : Int)) ∧ ∀ i, i < n → wr.cell? ⟨pb + 1, i, none⟩ = some (.int .u16 (L i : Int))) := fun wr hb => by
      have f : ∀ p : Addr, p.block < gm → wr.cell? p = w2.cell? p := fun p hp => (hb.cell (p := p) hp).trans (bm.cell (p := p) (by rw [hgm]; exact hp))
      exact ⟨(f ⟨pb, 0, none⟩ hpl).trans p0, fun i hi => (f ⟨pb + 1, i, none⟩ hgl).trans (HBL.out.cell hi)⟩
    have HB : Hid (∀ wr : World, Below gm (w2.alloc (.cells (madeCells #[.bool false] k) 4)) wr → Below w.heap.size w wr) := fun wr hb => by
      have h2 := below_up B2.out bm
      exact h2.trans (hb.mono (by rw [← hgm]; exact B2.out.size))
    clear hmk
    go_wp2_with fail
    clear hmk2
    generalize w2.alloc (.cells (madeCells #[.bool false] k) 4) = w3 at *
    clear p0 k2 B2 bm HBL
    go_loopw [26] (fun z wr => ∃ i : Nat, i ≤ n ∧ z = .int .i64 (i : Int) ∧ Hid (Below gm w3 wr ∧ BB wr gm k (seen L i) ∧ ∀ t, t < i → L t < k)) (fun z _ => n - (intOf z).toNat)
    case atStart => exact ⟨0, Nat.zero_le _, rfl, Below.refl _ _, KM.out, fun t ht => absurd ht (by omega)⟩
    case round =>
      clear KM
      obtain ⟨i, hi, rfl, HS⟩ := hrel
      obtain ⟨hb, hM, hall⟩ := HS.out
      obtain ⟨p0, q0⟩ := HQ.out wr hb
      by_cases hlt : i < n
      · have hq := q0 i hlt
        have hii : (i : Int) < (n : Int) := by omega
        have hL6 := HL6.out i
        by_cases hlk : L i < k
        · have hcl := hM.cell hlk
          have hfz := hM.frozen (L i)
          have HS2 : Hid (Below gm w3 (wr.setCell ⟨gm, L i, none⟩ (.bool true)) ∧ BB (wr.setCell ⟨gm, L i, none⟩ (.bool true)) gm k (seen L (i + 1)) ∧ ∀ t, t < i + 1 → L t < k) := ⟨hb.setCell (p := ⟨gm, L i, none⟩) (Nat.le_refl _) _, hM.store (L i) (fun j _ => seen_next L i j), fun t ht => by
            by_cases h : t = i
            · subst h; exact hlk
            · exact hall t (by omega)⟩
          have hlk' : (L i : Int) < (k : Int) := by omega
          have hlk2 : ¬ (k : Int) ≤ (L i : Int) := by omega
          clear HS hb hM hall q0
          generalize seen L i (L i) = b0 at hcl
          generalize L i = x at *
          go_wp2_with fail
          exact ⟨⟨i + 1, by omega, by go_num, HS2⟩, by simp [intOf]; omega⟩
        · have HNO : Hid (¬ MayC k n CB) := fun h => hlk ((HMAY.out.1 h).1 i hlt)
          have HF := hid (HB.out wr hb)
          have hlk2 : (k : Int) ≤ (L i : Int) := by omega
          clear HS hb hM hall q0
          generalize L i = x at *
          go_wp2_with fail
          go_ret
          exact ⟨false, rfl, ⟨fun h => (by cases h), fun h => absurd h HNO.out⟩, HF.out⟩
      · have hii : ¬ (i : Int) < (n : Int) := by omega
        obtain rfl : i = n := by omega
        have HC := hid (contains_any gm k k (seen L i) wr hM (by omega))
        have HF := hid (HB.out wr hb)
        have HY : Hid (decide (∀ x, x < k → seen L i x = true) = true ↔ MayC k i CB) := by
          show _ ↔ _
          rw [HMAY.out, decide_eq_true_eq]
          constructor
          · intro h
            exact ⟨hall, fun x hx => (seen_iff L i x).1 (h x hx)⟩
          · intro h x hx
            exact (seen_iff L i x).2 (h.2 x hx)
        generalize decide (∀ x, x < k → seen L i x = true) = bb at HC HY
        clear HS hb hM hall q0
        go_wp2_with fail
        refine HC.out.mono ?_
        rintro e w4 ⟨rfl, hw4⟩
        have hw4' := hw4.symm
        clear hw4
        subst hw4'
        go_wp2_with fail
        go_ret
        exact ⟨bb, ret_bool (by simp), HY.out, HF.out⟩
  · have HU := hid (fun wx (h : Below w.heap.size w wx) => Pk.unpackU16_left ac cc (wd k) n (ofL CB) wx hn (by omega) (by omega) hc2 hby (Pk.Nums.later hA' h) hz)
    have HNO : Hid (¬ MayC k n CB) := fun h => hz h.1
    rw [← hlen] at HU
    clear hby hA hA' hc hc2 hb hlen hz hw16
    generalize wd k = wk at *
    go_enter Tryz.func38, Tryz.ntmps38
    go_wp2_with fail
    have H1 := hid (HU.out _ b1)
    generalize w.alloc (.cells #[.int .i64 (k : Int), .int .i64 (wk : Int), vk, .slice ac CB.length cc] 69) = w1 at *
    have B1 := hid b1
    clear b1 HU
    refine H1.out.mono ?_
    rintro e w2 ⟨rfl, j, hw2⟩
    have HB2 : Hid (Below w.heap.size w w2) := by show Below _ _ _; rw [hw2]; exact below_drewN B1.out j
    clear hw2 B1
    go_wp2_with fail
    go_ret
    exact ⟨false, rfl, ⟨fun h => (by cases h), fun h => absurd h HNO.out⟩, HB2.out⟩
end Go.Proofs.YtenkdhphgfhkbaaGreat

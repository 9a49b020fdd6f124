/-
  The walk of BloomHas.
-/
import Derived.Test.YthgbneadmnhhlaaMKept
import Derived.Test.YthgbneadmnhhlaaRProg
import Derived.Test.YthgbneadmnhhlaaMArgs
import Derived.Test.YthgbneadmnhhlaaMLent
import Derived.Test.YthgbneadmnhhlaaRBArg
namespace Go.Proofs.Ythgbneadmnhhlaa
open Go.ChangeShapes Go.WideShapes Go.ChangeAt Go.RowKit Crc Cu Vl
attribute [local go_sem] run_store_float

section
variable {α : Type}
def midG (f : α → α) (l : List α) (i : Nat) : List α := (l.take i).map f ++ l.drop i
theorem midG_len (f : α → α) (l : List α) (i : Nat) : (midG f l i).length = l.length := by simp [midG]; omega
theorem midG_zero (f : α → α) (l : List α) : midG f l 0 = l := by simp [midG]
theorem midG_all (f : α → α) (l : List α) : midG f l l.length = l.map f := by simp [midG]
theorem midG_at (f : α → α) {l : List α} {i : Nat} (hi : i < l.length) : (midG f l i)[i]? = some l[i] := by
  unfold midG
  rw [List.getElem?_append_right (by simp; omega)]
  simp only [List.length_map, List.length_take, Nat.min_eq_left (Nat.le_of_lt hi), Nat.sub_self]
  rw [List.getElem?_drop, Nat.add_zero, List.getElem?_eq_getElem hi]
theorem midG_step (f : α → α) {l : List α} {i : Nat} (hi : i < l.length) : (midG f l i).set i (f l[i]) = midG f l (i + 1) := by
  unfold midG
  have hlt : ((l.take i).map f).length = i := by simp; omega
  rw [List.set_append_right _ _ (by omega), hlt, Nat.sub_self, List.drop_eq_getElem_cons hi, List.set_cons_zero, List.take_add_one, List.getElem?_eq_getElem hi, List.map_append, List.append_assoc]
  rfl
theorem midG_same (f : α → α) {l : List α} {i : Nat} (hi : i < l.length) (h : f l[i] = l[i]) : midG f l (i + 1) = midG f l i := by
  rw [← midG_step f hi, h]
  apply List.ext_getElem?
  intro j
  by_cases e : i = j
  · subst e; rw [List.getElem?_set_self (by rw [midG_len]; exact hi), midG_at f hi]
  · rw [List.getElem?_set_ne e]
end
def nxB (t x : Nat) : Nat := (x * 2 + t) % 256
def nxH (v : V) : V := if v.K = 1 then ⟨v.K, IntKind.i64.wrap (v.I - 1), v.b, v.s⟩ else v
theorem in64_wrapH (x : Int) : In64 (IntKind.i64.wrap x) := by
  rw [IntKind.wrap_i64]
  constructor <;> omega
theorem nxH_ok {v : V} (h : VOk v) : VOk (nxH v) := by
  unfold nxH
  split
  · exact ⟨h.k, in64_wrapH _, h.b, h.s⟩
  · exact h
set_option maxRecDepth 8000 in
set_option maxHeartbeats 8000000 in
theorem walk_bloomHas (w : World) (a0 : Option Addr) (n0 c0 : Nat) (L0 : Nat → Nat) (a1 : Option Addr) (n1 c1 : Nat) (l1 : List V) (h0 : NumArg w .u8 a0 n0 c0 L0 256 (140737488351232 / 1)) (h1 : VArgL w a1 n1 c1 l1) :
    Calls Try.prog 4 #[.slice a0 n0 c0, .slice a1 n1 c1] w fun e w' => e = .returned (.bool true) ∧ Below w.heap.size w w' := by
  obtain ⟨B0, hB0⟩ := bArgF_of h0
  obtain ⟨rfl, hb0, hlt0, hz0, hle0, hsm0⟩ := hB0
  obtain ⟨rfl, hl1, ho1, hz1, hle1, hsm1⟩ := h1
  clear h0
  have hn40 : l1.length * 40 ≤ 140737488351232 := Nat.le_trans (Nat.mul_le_mul_right 40 hle1) hsm1
  have HLb := hid (lent_any a0 B0 c0 w hb0 hz0 (by omega))
  have HLv := hid fun wx hL => lentV_any a1 l1 c1 wx hL hz1 hn40
  have HL1 := hid hl1
  have HOk := hid ho1
  have HLt := hid hlt0
  obtain ⟨n, hn⟩ : ∃ n, l1.length = n := ⟨_, rfl⟩
  obtain ⟨m, hm⟩ : ∃ m, B0.length = m := ⟨_, rfl⟩
  have HN0 := hid hn
  have HM0 := hid hm
  have hm47 : m ≤ 140737488351232 := by omega
  rw [hn] at HLv hn40
  rw [hm] at HLb
  rw [hn, hm]
  clear ho1 hz1 hle1 hsm1 hl1 hn hm hb0 hlt0 hz0 hle0 hsm0
  go_enter Try.func4, Try.ntmps4
  go_wp2_with fail
  refine HLb.out.mono ?_
  rintro e w1 ⟨b, c, rfl, hblo, hLB, hb1⟩
  have Y1 := hid hLB
  have B1 := hid hb1
  have HBb := hid hblo
  have Hlt1 := hid hLB.blk.lt
  clear hLB hb1 hblo HLb
  go_wp2_with fail
  refine (HLv.out _ (HL1.out.later B1.out)).mono ?_
  rintro e w2 ⟨b2, c2, rfl, hLV, hb2⟩
  have X2 : Hid (LV w2 w.heap.size b2 c2 l1) := OwnL.low hLV B1.out.size
  have Y2 := hid (Y1.out.later hb2)
  have B2 := hid (below_up B1.out hb2)
  have Hne : Hid (b < b2) := by show b < b2; have := hLV.le.1; have := Hlt1.out; omega
  clear hLV hb2 HLv HL1 Y1 B1 Hlt1
  go_wp2_with fail
  go_loopw [7] (fun tx ws => ∃ (t : Nat) (BB : List Nat) (l : List V), t ≤ 3 ∧ tx = .int .i64 t ∧ Hid (LB ws b c (BB ++ marks)) ∧ Hid (LV ws w.heap.size b2 c2 l) ∧ Hid (BB.length = m) ∧ Hid (l.length = n) ∧ Hid (∀ x ∈ BB, x < 256) ∧ Hid (∀ v ∈ l, VOk v) ∧ Hid (Below w.heap.size w ws)) (fun tx _ => 3 - (intOf tx).toNat)
  case atStart => exact ⟨0, B0, l1, by omega, rfl, Y2, X2, HM0, HN0, HLt, HOk, B2⟩
  case round =>
    clear Y2 X2 HM0 HN0 HLt HOk B2
    obtain ⟨t, BB, l, ht, rfl, Y, X, HM, HN, HT, HV, B⟩ := hrel
    rename World => ws
    by_cases htl : t < 3
    · have hti : (t : Int) < 3 := by omega
      obtain ⟨v3, w3, hr3, ho3, hb3⟩ := run_appL (l := []) (c := c) (Own.nil ws ws.heap.size _ _ _) (bytes_begin Y.out.bytes) (fun e => by cases e) (by simp; rw [HM.out]; omega) (Nat.le_refl _)
      rw [List.nil_append] at ho3
      have hB3 := hb3 ws (Below.refl _ _)
      obtain ⟨a3, c3, rfl, -, -, -⟩ := ho3.form
      obtain ⟨v4, w4, hr4, ho4, hb4⟩ := lst_many vc_len (by decide) vc_one (t := 22) (ty := 22) (c := c2) (by0 := 40) Try.underlying22 infoV rfl (OwnL.nil vc 4 w3 w3.heap.size 33) (X.out.later hB3).lst (fun e => by cases e) (by simp only [List.length_nil, Nat.zero_add]; rw [HN.out]; omega) (by decide) (Nat.le_refl _)
      rw [List.nil_append] at ho4
      have hB4 := hb4 w3 (Below.refl _ _)
      obtain ⟨a4, c4, rfl, -, -, -, hl4, -⟩ := ho4.form vc_len
      have hD4 : Bytes w4 a3 BB := (show Bytes w3 a3 BB from ho3.nums).later hB4
      have hbl : BB.length ≤ 140737488355328 := by rw [HM.out]; omega
      have hvl : l.length ≤ 140737488355328 := by rw [HN.out]; omega
      have hPA := fun wx h1 h2 => all_any (some ⟨b, 0, none⟩) BB c (some ⟨b2, 0, none⟩) l c2 wx h1 HT.out hbl HV.out h2 hvl
      have hRA := fun wx h1 h2 => refAll_any a3 BB c3 a4 l c4 wx h1 HT.out HV.out h2 hvl
      have hKB := fun wx h1 h2 => kept_any b c BB a3 c3 wx h1 h2 (by rw [HM.out]; exact hm47)
      have hKV := fun wx h1 h2 => keptV_any w.heap.size b2 c2 l a4 c4 wx h1 h2 hvl
      have hPH := fun wx v h1 hv => has_any (some ⟨b, 0, none⟩) BB c v wx h1 HT.out hbl hv
      have hRH := fun wx v h1 hv => refHas_any a3 BB c3 v wx h1 HT.out hv
      rw [HM.out] at hKB hPH hRH
      rw [HM.out, HN.out] at hPA hRA
      rw [HN.out] at hKV
      rw [HM.out] at hr3
      rw [HN.out] at hr4
      have HPA := hid hPA
      have HRA := hid hRA
      have HKB := hid hKB
      have HKV := hid hKV
      have HPH := hid hPH
      have HRH := hid hRH
      have R3 := hid hr3
      have R4 := hid hr4
      have hb34 := below_up hB3 hB4
      have Y4 := hid (Y.out.later hb34)
      have X4 := hid (X.out.later hb34)
      have B4 := hid (below_up B.out hb34)
      have D4 := hid hD4
      have L4 := hid hl4
      clear hPA hRA hKB hKV hPH hRH hr3 hr4 ho3 ho4 hb3 hb4 hB3 hB4 hl4 hD4 hb34 hbl hvl Y X B
      have hqq : ∀ q : Bool, (q == q) = true := fun q => by simp
      have hq1 := hqq (allB BB l)
      generalize allB BB l = qa at *
      go_wp2_with (at_builtin; first | (refine wpList_app (by rfl) (by rfl) R3.out ?_; clear R3) | (refine wpList_app (by rfl) (by rfl) R4.out ?_; clear R4))
      refine (HPA.out _ (bytes_begin Y4.out.bytes) X4.out.lst).mono ?_
      rintro e w5 ⟨rfl, hb5⟩
      have Y5 := hid (Y4.out.later hb5)
      have X5 := hid (X4.out.later hb5)
      have B5 := hid (below_up B4.out hb5)
      have D5 := hid (D4.out.later hb5)
      have L5 := hid (L4.out.later hb5)
      clear hb5 Y4 X4 B4 D4 L4 HPA
      go_wp2_with fail
      refine (HRA.out _ D5.out L5.out).mono ?_
      rintro e w6 ⟨rfl, hb6⟩
      have Y6 := hid (Y5.out.later hb6)
      have X6 := hid (X5.out.later hb6)
      have B6 := hid (below_up B5.out hb6)
      have D6 := hid (D5.out.later hb6)
      have L6 := hid (L5.out.later hb6)
      clear hb6 Y5 X5 B5 D5 L5 HRA
      go_wp2_with fail
      refine (HKB.out _ Y6.out D6.out).mono ?_
      rintro e w7 ⟨rfl, hw7⟩
      subst w7
      go_wp2_with fail
      refine (HKV.out _ X6.out L6.out).mono ?_
      rintro e w8 ⟨rfl, hb8⟩
      have Y8 := hid (Y6.out.later hb8)
      have X8 := hid (X6.out.later hb8)
      have B8 := hid (below_up B6.out hb8)
      have D8 := hid (D6.out.later hb8)
      have L8 := hid (L6.out.later hb8)
      clear hb8 Y6 X6 B6 D6 L6 HKV
      go_wp2_with fail
      go_loopw [10] (fun ix wx => ∃ i : Nat, i ≤ n ∧ ix = .int .i64 i ∧ Hid (Below w8.heap.size w8 wx)) (fun ix _ => n - (intOf ix).toNat)
      case atStart => exact ⟨0, Nat.zero_le _, rfl, Below.refl _ _⟩
      case round =>
        obtain ⟨i, hi, rfl, HB⟩ := hrel
        rename World => wx
        by_cases hlt : i < n
        · have hii : (i : Int) < (n : Int) := by omega
          have hil : i < l.length := by rw [HN.out]; exact hlt
          obtain ⟨g1, o1, ea, _, hcx⟩ := (X8.out.later HB.out).lst _ _ (List.getElem?_eq_getElem hil)
          cases ea
          obtain ⟨g2, o2, rfl, hg2, hcy⟩ := (L8.out.later HB.out) _ _ (List.getElem?_eq_getElem hil)
          have hg1 := (X8.out.later HB.out).le.2.1
          have hv := HV.out l[i] (List.getElem_mem hil)
          have HP := hid fun W (hW : Below wx.heap.size wx W) => HPH.out W l[i] (bytes_begin ((Y8.out.later HB.out).later hW).bytes) hv
          have HR := hid fun W (hW : Below wx.heap.size wx W) => HRH.out W l[i] ((D8.out.later HB.out).later hW) hv
          have HK := hid fun W (hW : Below wx.heap.size wx W) => HKB.out W ((Y8.out.later HB.out).later hW) ((D8.out.later HB.out).later hW)
          generalize l[i] = v at *
          have x0 : ∀ W, Below wx.heap.size wx W → W.cell? ⟨b2, i * 4, none⟩ = some (.int .i64 v.K) := fun W hW => (hW.cell (p := ⟨b2, i * 4, none⟩) hg1).trans (by have := hcx 0 _ rfl; rwa [Nat.zero_add, Nat.add_zero] at this)
          have x1 : ∀ W, Below wx.heap.size wx W → W.cell? ⟨b2, i * 4 + 1, none⟩ = some (.int .i64 v.I) := fun W hW => (hW.cell (p := ⟨b2, i * 4 + 1, none⟩) hg1).trans (by have := hcx 1 _ rfl; rwa [Nat.zero_add] at this)
          have x2 : ∀ W, Below wx.heap.size wx W → W.cell? ⟨b2, i * 4 + 2, none⟩ = some (.float .f64 v.b) := fun W hW => (hW.cell (p := ⟨b2, i * 4 + 2, none⟩) hg1).trans (by have := hcx 2 _ rfl; rwa [Nat.zero_add] at this)
          have x3 : ∀ W, Below wx.heap.size wx W → W.cell? ⟨b2, i * 4 + 3, none⟩ = some (.string v.s) := fun W hW => (hW.cell (p := ⟨b2, i * 4 + 3, none⟩) hg1).trans (by have := hcx 3 _ rfl; rwa [Nat.zero_add] at this)
          have y0 : ∀ W, Below wx.heap.size wx W → W.cell? ⟨g2, o2 + i * 4, none⟩ = some (.int .i64 v.K) := fun W hW => (hW.cell (p := ⟨g2, o2 + i * 4, none⟩) hg2).trans (by have := hcy 0 _ rfl; rwa [Nat.add_zero] at this)
          have y1 : ∀ W, Below wx.heap.size wx W → W.cell? ⟨g2, o2 + i * 4 + 1, none⟩ = some (.int .i64 v.I) := fun W hW => (hW.cell (p := ⟨g2, o2 + i * 4 + 1, none⟩) hg2).trans (hcy 1 _ rfl)
          have y2 : ∀ W, Below wx.heap.size wx W → W.cell? ⟨g2, o2 + i * 4 + 2, none⟩ = some (.float .f64 v.b) := fun W hW => (hW.cell (p := ⟨g2, o2 + i * 4 + 2, none⟩) hg2).trans (hcy 2 _ rfl)
          have y3 : ∀ W, Below wx.heap.size wx W → W.cell? ⟨g2, o2 + i * 4 + 3, none⟩ = some (.string v.s) := fun W hW => (hW.cell (p := ⟨g2, o2 + i * 4 + 3, none⟩) hg2).trans (hcy 3 _ rfl)
          clear hcx hcy hg1 hg2 hv
          have hS0 := Below.refl wx.heap.size wx
          have HB2 := HB
          cases hq : hasB BB v
          all_goals
            rw [hq] at HP HR
            clear hq
            obtain ⟨K, I, bb, s⟩ := v
            unfold vv at HP HR
            dsimp only at *
            go_wp2_with fail
            go_region_held3 (fun W => Below wx.heap.size wx W) (first | assumption | exact (Below.refl _ _).drew | exact Below.drew (by assumption) | exact below_drewN (Below.refl _ _) _) (first
              | (go_at_call 17; refine (HP.out _ (by assumption)).mono ?_; rintro e z1 ⟨rfl, hz1⟩; have hS1 : Below wx.heap.size wx z1 := below_up (by assumption) hz1)
              | (go_at_call 18; refine (HR.out _ (by assumption)).mono ?_; rintro e z2 ⟨rfl, hz2⟩; have hS2 : Below wx.heap.size wx z2 := below_up (by assumption) hz2)
              | (go_at_call 16; refine (HK.out _ (by assumption)).mono ?_; rintro e z3 ⟨rfl, rfl⟩))
          all_goals go_wp2_with fail
          all_goals exact ⟨⟨i + 1, by omega, by go_num, below_up HB2.out (by assumption)⟩, by simp [intOf]; omega⟩
        · obtain rfl : i = n := by omega
          have Y := hid (Y8.out.later HB.out)
          have X := hid (X8.out.later HB.out)
          have B := hid (below_up B8.out HB.out)
          clear Y8 X8 B8 D8 L8 HB HKB HPH HRH
          go_wp2_with fail
          go_loopw [11] (fun kx wk => ∃ k : Nat, k ≤ m ∧ kx = .int .i64 k ∧ Hid (LB wk b c (midG (nxB t) BB k ++ marks)) ∧ Hid (LV wk w.heap.size b2 c2 l) ∧ Hid (Below w.heap.size w wk)) (fun kx _ => m - (intOf kx).toNat)
          case atStart => exact ⟨0, Nat.zero_le _, rfl, by rw [midG_zero]; exact Y, X, B⟩
          case round =>
            clear Y X B
            obtain ⟨k, hk, rfl, Y, X, B⟩ := hrel
            rename World => wk
            by_cases hkl : k < m
            · have hki : (k : Int) < (m : Int) := by omega
              have hkb : k < BB.length := by rw [HM.out]; exact hkl
              have hat := midG_at (nxB t) hkb
              have hst := midG_step (nxB t) hkb
              have hx8 := HT.out BB[k] (List.getElem_mem hkb)
              have hcb := Y.out.blk.cell (j := k) (by rw [List.length_append, midG_len]; omega)
              have hof : ofL (midG (nxB t) BB k ++ marks) k = BB[k] := by
                rw [ofL_append, cat_in (by rw [midG_len]; exact hkb)]
                have := ofL_in (l := midG (nxB t) BB k) (j := k) (by rw [midG_len]; exact hkb)
                rw [hat] at this
                exact (Option.some.inj this).symm
              rw [hof] at hcb
              have hfb := Y.out.blk.frozen k
              have hYs := Y.out.store (nxB t BB[k]) (i := k) (by rw [List.length_append, midG_len]; omega)
              rw [List.set_append_left _ _ (by rw [midG_len]; exact hkb), hst] at hYs
              have Y2 := hid hYs
              have HNx : Hid (nxB t BB[k] < 256) := Nat.mod_lt _ (by omega)
              clear hat hst hof hYs Y
              generalize BB[k] = x at *
              have hzv : ((x : Int) * 2 % 256 + (t : Int)) % 256 = ((nxB t x : Nat) : Int) := by unfold nxB; omega
              have hzl := HNx.out
              generalize nxB t x = z at *
              have ht8 : (t : Int) < 256 := by omega
              go_wp2_with fail
              exact ⟨⟨k + 1, by omega, by go_num, Y2, X.out.kept (Below.heap_setCell _ _ _ _ (by have := Hne.out; simp; omega)), B.out.setCell (p := ⟨b, k, none⟩) HBb.out _⟩, by simp [intOf]; omega⟩
            · obtain rfl : k = m := by omega
              have Y9 : Hid (LB wk b c (BB.map (nxB t) ++ marks)) := by rw [← midG_all, HM.out]; exact Y
              clear Y
              go_wp2_with fail
              go_loopw [12] (fun ix wx => ∃ q : Nat, q ≤ i ∧ ix = .int .i64 q ∧ Hid (LB wx b c (BB.map (nxB t) ++ marks)) ∧ Hid (LV wx w.heap.size b2 c2 (midG nxH l q)) ∧ Hid (Below w.heap.size w wx)) (fun ix _ => i - (intOf ix).toNat)
              case atStart => exact ⟨0, Nat.zero_le _, rfl, Y9, by rw [midG_zero]; exact X, B⟩
              case round =>
                clear Y9 X B
                obtain ⟨q, hq, rfl, Y, X, B⟩ := hrel
                rename World => wy
                by_cases hql : q < i
                · have hqi : (q : Int) < (i : Int) := by omega
                  have hil : q < l.length := by rw [HN.out]; exact hql
                  have hat := midG_at nxH hil
                  have hst := midG_step nxH hil
                  have hsm := midG_same nxH hil
                  obtain ⟨g, o, ea, _, hc⟩ := X.out.lst _ _ hat
                  cases ea
                  have k0 := hc 0 _ rfl
                  have k1 := hc 1 _ rfl
                  rw [Nat.zero_add] at k0 k1
                  rw [Nat.add_zero] at k0
                  clear hc
                  generalize l[q] = v at *
                  obtain ⟨K, I, bb, s⟩ := v
                  dsimp only at *
                  by_cases hk1 : K = 1
                  · subst hk1
                    obtain ⟨hfz, hX2⟩ := X.out.set hat (i := 1) (by omega) (.int .i64 (IntKind.i64.wrap (I - 1))) (nxH ⟨1, I, bb, s⟩) rfl
                    rw [hst, Go.IntWalk.i64_left] at hX2
                    have X2 := hid hX2
                    clear hX2 hat hst hsm X
                    go_wp2_with fail
                    exact ⟨⟨q + 1, by omega, by go_num, Y.out.kept (Below.heap_setCell _ _ _ _ (by have := Hne.out; simp; omega)), X2, B.out.setCell (p := ⟨b2, q * 4 + 1, none⟩) (by have := Hne.out; have := HBb.out; simp; omega) _⟩, by simp [intOf]; omega⟩
                  · have hd1 : (K == 1) = false := by simpa using hk1
                    have X2 : Hid (LV wy w.heap.size b2 c2 (midG nxH l (q + 1))) := by
                      rw [hsm (by unfold nxH; simp [hk1])]
                      exact X
                    clear hat hst hsm X hk1
                    go_wp2_with fail
                    exact ⟨⟨q + 1, by omega, by go_num, Y, X2, B⟩, by simp [intOf]; omega⟩
                · obtain rfl : q = i := by omega
                  have X9 : Hid (LV wy w.heap.size b2 c2 (l.map nxH)) := by rw [← midG_all, HN.out]; exact X
                  have V9 : Hid (∀ v ∈ l.map nxH, VOk v) := fun v hv => by
                    obtain ⟨u, hu, rfl⟩ := List.mem_map.1 hv
                    exact nxH_ok (HV.out u hu)
                  have T9 : Hid (∀ x ∈ BB.map (nxB t), x < 256) := fun x hx => by
                    obtain ⟨u, hu, rfl⟩ := List.mem_map.1 hx
                    exact Nat.mod_lt _ (by omega)
                  have N9 : Hid ((l.map nxH).length = q) := by show _ = _; rw [List.length_map]; exact HN.out
                  have M9 : Hid ((BB.map (nxB t)).length = k) := by show _ = _; rw [List.length_map]; exact HM.out
                  clear X
                  go_wp2_with fail
                  exact ⟨⟨t + 1, _, _, by omega, by go_num, Y, X9, M9, N9, T9, V9, B⟩, by simp [intOf]; omega⟩
    · obtain rfl : t = 3 := by omega
      go_wp2_with fail
      go_ret
      exact ⟨rfl, B.out⟩
end Go.Proofs.Ythgbneadmnhhlaa

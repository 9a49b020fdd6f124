/-
  RunsMemory, walked.
-/
import Derived.Test.YtokcmioipdennaaRFam
import Derived.Test.YtokcmioipdennaaRAwake
import Derived.Test.YtokcmioipdennaaRBackM
import Derived.Test.YtokcmioipdennaaRArgs2
import Derived.Deep.RegionHeld3
namespace Go.Proofs.Ytokcmioipdennaa
open Go.ChangeShapes Go.WideShapes Go.ChangeAt Go.RowKit Rn Cu

/-- A list that lies below the family, or behind it, or is of another kind, stays. -/
theorem OwnL.touched {β γ : Type} {f : β → List Value} {f' : γ → List Value} {s s' : Nat} {w w' : World} {e e' : TypeId} {lo hi B : Nat} {E : List (Value × List β)} {v : Value} {l : List γ} (ho : OwnL f' s' w B e' v l) (h : Fam f s w e lo hi E) (ht : Touch (memF E) w w')
    (hd : e ≠ e' ∨ hi ≤ B ∨ ∀ g, v.ownBlock = some g → g < lo) : OwnL f' s' w' B e' v l :=
  ho.kept fun g hg => ht.block g (ho.lt g hg).2 fun ⟨x, hx, hxg⟩ => by
    rcases hd with hd | hd | hd
    · rcases ho.2 with ⟨h0, _⟩ | ⟨g', cap, cur, hv, _, hg', _⟩
      · rw [h0] at hg; simp [Value.ownBlock] at hg
      · rw [hv] at hg
        simp [Value.ownBlock] at hg
        subst hg
        exact h.off hg' hd x hx _ hxg rfl
    · have h1 := h.lt x hx g hxg
      have h2 := (ho.lt g hg).1
      omega
    · have h1 := ((h.each x hx).lt g hxg).1
      have h2 := hd g hg
      omega
/-- What was handed in stays. -/
theorem Lst.touched {β γ : Type} {f : β → List Value} {f' : γ → List Value} {s s' : Nat} {w w' : World} {e : TypeId} {lo hi : Nat} {E : List (Value × List β)} {a : Option Addr} {l : List γ} (ha : Lst f' s' w a l) (h : Fam f s w e lo hi E) (ht : Touch (memF E) w w') (hd : ∀ x, a = some x → x.block < lo) : Lst f' s' w' a l := fun j x hj => by
  obtain ⟨g, o, ea, hg, hc⟩ := ha j x hj
  have hlo := hd _ ea
  refine ⟨g, o, ea, Nat.lt_of_lt_of_le hg ht.size, fun i u hu => ?_⟩
  rw [World.cell?_of_block (w := w) (a := ⟨g, o + j * s' + i, none⟩) (ht.block g hg fun ⟨y, hy, hyg⟩ => ?_)]
  · exact hc i u hu
  · have := ((h.each y hy).lt g hyg).1
    simp only at hlo
    omega
theorem vals_flat (l : List Nat) : vals .u8 l.length (ofL l) = l.flatMap (one encB8) := by
  apply List.ext_getElem?
  intro j
  by_cases hj : j < l.length
  · rw [vals_get hj]
    have e1 := flat_get (f := one encB8) (k := 1) (one_len encB8) (List.getElem?_eq_getElem hj) (i := 0) (u := encB8 l[j]) rfl
    rw [Nat.mul_one, Nat.add_zero] at e1
    rw [e1]
    simp [encB8, ofL, hj]
  · rw [List.getElem?_eq_none (by simp; omega), List.getElem?_eq_none (by rw [flat_len (k := 1) (one_len encB8)]; omega)]
theorem NewL.ownL {w w' : World} {v : Value} {l : List Nat} (h : NewL w w' v l) : OwnL (one encB8) 1 w' w.heap.size 5 v l := by
  unfold OwnL
  rw [← vals_flat]
  exact h.1
theorem OwnL.lst {β : Type} {f : β → List Value} {k : Nat} (hf : ∀ x, (f x).length = k) {w : World} {B : Nat} {e : TypeId} {a : Option Addr} {n c : Nat} {l : List β} (h : OwnL f k w B e (.slice a n c) l) : Lst f k w a l ∧ (a = none → l.length = 0 ∧ c = 0) := by
  obtain ⟨a', c', hv, _, _, hz, hl, _⟩ := h.form hf
  simp only [Value.slice.injEq] at hv
  obtain ⟨rfl, _, rfl⟩ := hv
  exact ⟨hl, hz⟩
/-- append(nil, l...). -/
theorem cloneL {β : Type} {f : β → List Value} {k : Nat} (hf : ∀ x, (f x).length = k) (hk : 0 < k) (h1 : ∀ x, ∀ u ∈ f x, u.oneCell' = true) {t e : TypeId} {z : Value} {by0 : Nat} (ht : Try.prog.underlying t = some (.slice e)) (hi : (Try.prog.info? e).map (fun i => (i.zero, i.size, i.bytes)) = some (some z, k, by0)) (hzs : z.cells.size = k) (hp : 0 < by0) (hp2 : by0 ≤ 24)
    {w : World} {a : Option Addr} {l : List β} {c : Nat} (hA : Lst f k w a l) (ha : a = none → l.length = 0 ∧ c = 0) (hn : l.length ≤ 1099511627776) :
    ∃ v w', (Builtin.append_ #[t, t] t #[.slice none 0 0, .slice a l.length c]).run Try.prog w = .ok v w' ∧ OwnL f k w' w.heap.size e v l ∧ Below w.heap.size w w' := by
  obtain ⟨v1, w1, hr1, h1, b1⟩ := lst_many hf hk h1 (t := t) (ty := t) (c := c) ht hi hzs (OwnL.nil f k w w.heap.size e) hA ha (by rw [List.length_nil, Nat.zero_add]; exact Nat.le_trans (Nat.mul_le_mul hn hp2) (by decide)) hp (Nat.le_refl _)
  rw [List.nil_append] at h1
  exact ⟨v1, w1, hr1, h1, b1 w (Below.refl _ w)⟩
theorem below_same {B : Nat} {w w1 w2 : World} (h1 : Below B w w1) (h2 : Below B w1 w2) : Below B w w2 :=
  ⟨h2.os.trans h1.os, h2.tape.trans h1.tape, h2.output.trans h1.output, Nat.le_trans h1.size h2.size, fun j hj => (h2.block j hj).trans (h1.block j hj)⟩
theorem fam_below {β : Type} {f : β → List Value} {s : Nat} {w w' : World} {e : TypeId} {lo hi B : Nat} {E : List (Value × List β)} (h : Fam f s w e lo hi E) (ht : Touch (memF E) w w') (hB : B ≤ lo) (hl : lo ≤ w.heap.size) : Below B w w' :=
  ht.below (by omega) fun j ⟨x, hx, hxj⟩ => by have := ((h.each x hx).lt j hxj).1; omega
theorem bytes_lst {w : World} {a : Option Addr} {l : List Nat} (h : Lst (one encB8) 1 w a l) : Bytes w a l := fun j hj => by
  obtain ⟨g, o, e, hg, hc⟩ := h.cell1 hj
  refine ⟨g, o, e, hg, ?_⟩
  rw [hc]
  simp [encB8, ofL, hj]
set_option maxRecDepth 20000 in
set_option maxHeartbeats 8000000 in
theorem walk_runsMemory (w : World) (a0 : Option Addr) (n0 c0 : Nat) (l : List Int) (a1 : Option Addr) (n1 c1 : Nat) (T : List ByteArray) (hl : IArgL w a0 n0 c0 l) (ht : SArgL w a1 n1 c1 T) :
    Calls Try.prog 6 #[.slice a0 n0 c0, .slice a1 n1 c1] w fun e w' => e = .returned (.bool true) ∧ Below w.heap.size w w' := by
  obtain ⟨rfl, hl1, hl2, hl3, hl4, hl5⟩ := hl
  obtain ⟨rfl, ht1, ht2, ht3, ht4, ht5⟩ := ht
  have hln : l.length ≤ 17592186043904 := by omega
  have htn : T.length ≤ 8796093021952 := by omega
  have hlc : l.length ≤ c0 := by omega
  have htc : T.length ≤ c1 := by omega
  have HL := hid hl1
  have HLI := hid hl2
  have HT := hid ht1
  have HX0 : Hid (Lst (one (Value.int .i64)) 1 w a0 (l.take 400)) := Lst.begin (r := l.drop 400) (by rw [List.take_append_drop]; exact hl1)
  have HT0 : Hid (Lst (one Value.string) 1 w a1 (T.take 400)) := Lst.begin (r := T.drop 400) (by rw [List.take_append_drop]; exact ht1)
  have HZL : Hid (a0 = none → (l.take 400).length = 0 ∧ c0 = 0) := fun e => by have := hl3 e; rw [List.length_take]; omega
  clear hl1 hl2 ht1
  go_enter Try.func6, Try.ntmps6
  go_wp2_with fail
  refine (awake_any w).mono ?_
  rintro e w1 ⟨rfl, B1⟩
  have HB := hid B1
  have HL := hid (HL.out.later B1)
  have HT := hid (HT.out.later B1)
  clear B1
  go_wp2_with fail
  rw [show (min (l.length : Int) 400).toNat = (l.take 400).length by rw [List.length_take]; omega, show (min (T.length : Int) 400).toNat = (T.take 400).length by rw [List.length_take]; omega]
  have hX4 : (l.take 400).length ≤ 400 := by rw [List.length_take]; omega
  have hT4 : (T.take 400).length ≤ 400 := by rw [List.length_take]; omega
  have HX : Hid (Lst (one (Value.int .i64)) 1 w1 a0 (l.take 400)) := Lst.begin (r := l.drop 400) (by rw [List.take_append_drop]; exact HL.out)
  have HT : Hid (Lst (one Value.string) 1 w1 a1 (T.take 400)) := Lst.begin (r := T.drop 400) (by rw [List.take_append_drop]; exact HT.out)
  have HXI : Hid (∀ x ∈ l.take 400, In64 x) := fun x hx => HLI.out x (List.mem_of_mem_take hx)
  have hTz : ∀ x ∈ T.take 400, x.size ≤ 140737488351232 := fun x hx => ht5 x (List.mem_of_mem_take hx)
  clear HL HLI hl3 hl4 hl5 ht2 ht3 ht4 ht5
  generalize l.take 400 = X at *
  generalize T.take 400 = U at *
  have HTz := hid hTz
  clear hTz
  go_loopw [5] (fun y wr => ∃ i : Nat, i ≤ U.length ∧ y = .int .i64 (i : Int) ∧ wr = w1 ∧ ∀ j (hj : j < U.length), j < i → U[j].size ≤ 65535) (fun y _ => U.length - (intOf y).toNat)
  case atStart => exact ⟨0, Nat.zero_le _, rfl, rfl, fun j hj h => by omega⟩
  case round =>
    obtain ⟨i, hi, rfl, rfl, HI⟩ := hrel
    by_cases hlt : i < U.length
    · obtain ⟨g, o, eg, _, k1⟩ := HT.out.cell1 hlt
      have hsz := HTz.out _ (List.getElem_mem hlt)
      have HI := hid HI
      have HV : Hid (U[i].size ≤ 65535 → ∀ j (hj : j < U.length), j < i + 1 → U[j].size ≤ 65535) := fun h j hj hji => by
        by_cases e : j = i
        · subst e; exact h
        · exact HI.out j hj (by omega)
      subst eg
      generalize U[i] = s at *
      by_cases hs : s.size ≤ 65535
      · have hs2 : ¬ (65535 : Int) < (s.size : Int) := by omega
        go_wp2_with fail
        exact ⟨⟨i + 1, by omega, by go_num, by first | rfl | trivial, HV.out hs⟩, by simp [intOf]; omega⟩
      · have hs2 : (65535 : Int) < (s.size : Int) := by omega
        go_wp2_with fail
        go_ret
        exact ⟨rfl, HB.out⟩
    · obtain rfl : i = U.length := by omega
      have HU : Hid (∀ s ∈ U, s.size ≤ 65535) := fun s hs => by
        obtain ⟨j, hj, rfl⟩ := List.getElem_of_mem hs
        exact HI j hj hj
      clear HI HTz
      have hfx := fold_len X
      have hfu := fold_len U
      have hEl := encI_len_le (foldR X)
      have hSl := encS_len_le (foldR U) (fun p hp => HU.out _ (fold_mem hp))
      have hlI : ∀ c ∈ encR evI (foldR X), c < 256 := encR_lt (by omega) (fun p hp => ⟨by have := (fold_le hp).2; omega, evI_lt (HXI.out _ (fold_mem hp))⟩)
      have hlS : ∀ c ∈ encR evS (foldR U), c < 256 := encR_lt (by omega) (fun p hp => ⟨by have := (fold_le hp).2; omega, evS_lt (HU.out _ (fold_mem hp))⟩)
      have HFo := hid (fun W a c (h : VlsInt W a X) => foldInt a X c W h (by omega))
      have HFt := hid (fun W a c (h : VlsStr W a U) => foldStr a U c W h (by omega))
      have HPI := hid (fun W a c (h : VlsInt W a X) => putInts a X c W h (by omega) (by omega) HXI.out)
      have HPS := hid (fun W a c (h : VlsStr W a U) => putStrs a U c W h (by omega) (by omega))
      have HRI := hid (fun W a c (hz : a = none → (encR evI (foldR X)).length = 0 ∧ c = 0) (h : Bytes W a (encR evI (foldR X))) => readInts a (encR evI (foldR X)) c (X.length : Int) W h hz hlI (by omega) (by omega) (by omega))
      have HRS := hid (fun W a c (hz : a = none → (encR evS (foldR U)).length = 0 ∧ c = 0) (h : Bytes W a (encR evS (foldR U))) => readStrs a (encR evS (foldR U)) c (U.length : Int) W h hz hlS (by omega) (by omega) (by omega))
      have eI := readT_enc codecI (foldR X) [] X.length (by omega) (fun p hp => ⟨HXI.out _ (fold_mem hp), by have := (fold_le hp).2; omega⟩) (foldR_norm X) (by omega)
      have eS := readT_enc codecS (foldR U) [] U.length (by omega) (fun p hp => ⟨HU.out _ (fold_mem hp), by have := (fold_le hp).2; omega⟩) (foldR_norm U) (by omega)
      rw [List.append_nil, if_pos (total_fold X), if_pos rfl] at eI
      rw [List.append_nil, if_pos (total_fold U), if_pos rfl] at eS
      rw [eI] at HRI
      rw [eS] at HRS
      have hE0 : unfE (foldR X) = 0 := by rw [unfE_good (foldR_norm X).1, if_neg (by rw [total_fold]; omega)]
      have hL0 : unfL (foldR X) = X := by unfold unfL; rw [if_pos hE0, expand_fold]
      have HUN := hid (fun W a c (h : RnsInt W a (foldR X)) => unfoldInt a (foldR X) c W h (fun p hp => by have := (fold_le hp).2; omega) (by omega))
      rw [hE0, hL0, show ((0 : Nat) : Int) = 0 from rfl] at HUN
      dsimp only at HRI HRS
      rw [show ((0 : Nat) : Int) = 0 from rfl] at HRI HRS
      clear eI eS hE0 hL0 HXI HU hlI hlS
      generalize foldR X = F at *
      generalize foldR U = G at *
      generalize encR evI F = EI at *
      generalize encR evS G = ES at *
      obtain ⟨v2, w2, R2, O2, B2⟩ := cloneL lenInt (by decide) cellLInt Try.underlying33 infoLInt rfl (by decide) (by decide) (c := c0) HX.out HZL.out (by omega)
      obtain ⟨a2, c2, rfl, -, -, -, hL2, -⟩ := O2.form lenInt
      have R2' := hid R2
      have HO := hid O2
      have hHO : ∀ g, (Value.slice a2 X.length c2).ownBlock = some g → g < w2.heap.size := fun g hg => (O2.lt g hg).2
      have HHO := hid hHO
      clear hHO
      have HB := hid (below_up HB.out B2)
      have HX := hid (HX.out.later B2)
      have HT := hid (HT.out.later B2)
      clear R2 O2 B2 hL2
      go_wp2_with (at_builtin; refine wpList_app (by rfl) (by rfl) R2'.out ?_)
      refine (HFo.out w2 a2 c2 (HO.out.lst lenInt).1).mono ?_
      rintro e w3 ⟨v3, rfl, O3, B3⟩
      obtain ⟨a3, c3, rfl, -, -, -, hL3, -⟩ := O3.form lenRunI
      have hblFF : w.heap.size ≤ w2.heap.size := HB.out.size
      have FF := hid (Fam.snoc (Fam.nil (two (Value.int .i64)) 2 w2 44 w2.heap.size) B3 O3 (Nat.le_refl _))
      have hloFF : w2.heap.size ≤ w3.heap.size := B3.size
      have HB := hid (below_up HB.out B3)
      have HX := hid (HX.out.later B3)
      have HT := hid (HT.out.later B3)
      have HO := hid (HO.out.later B3)
      have P3 := hid O3
      clear O3 B3 hL3
      go_wp2_with fail
      refine (HFo.out w3 a2 c2 (HO.out.lst lenInt).1).mono ?_
      rintro e w4 ⟨v4, rfl, O4, B4⟩
      obtain ⟨a4, c4, rfl, -, -, -, hL4, -⟩ := O4.form lenRunI
      have FF := hid (Fam.snoc FF.out B4 O4 (by omega))
      have HB := hid (below_up HB.out B4)
      have hloFF := Nat.le_trans hloFF B4.size
      have HX := hid (HX.out.later B4)
      have HT := hid (HT.out.later B4)
      have HO := hid (HO.out.later B4)
      have P3 := hid (P3.out.later B4)
      have P4 := hid O4
      clear O4 B4 hL4
      go_wp2_with fail
      refine (HPI.out w4 a2 c2 (HO.out.lst lenInt).1).mono ?_
      rintro e w5 ⟨v5, rfl, h5⟩
      have O5 := h5.ownL
      have B5 := h5.2
      obtain ⟨a5, c5, rfl, -, -, -, hL5, -⟩ := O5.form lenByte
      have hblFB : w.heap.size ≤ w4.heap.size := HB.out.size
      have FB := hid (Fam.snoc (Fam.nil (one encB8) 1 w4 5 w4.heap.size) B5 O5 (Nat.le_refl _))
      have hloFB : w4.heap.size ≤ w5.heap.size := B5.size
      have HB := hid (below_up HB.out B5)
      have hloFF := Nat.le_trans hloFF B5.size
      have HX := hid (HX.out.later B5)
      have HT := hid (HT.out.later B5)
      have HO := hid (HO.out.later B5)
      have P3 := hid (P3.out.later B5)
      have FF := hid (FF.out.later B5)
      have P4 := hid (P4.out.later B5)
      have P5 := hid O5
      clear O5 B5 hL5 h5
      go_wp2_with fail
      refine (HPI.out w5 a2 c2 (HO.out.lst lenInt).1).mono ?_
      rintro e w6 ⟨v6, rfl, h6⟩
      have O6 := h6.ownL
      have B6 := h6.2
      obtain ⟨a6, c6, rfl, -, -, -, hL6, -⟩ := O6.form lenByte
      have FB := hid (Fam.snoc FB.out B6 O6 (by omega))
      have HB := hid (below_up HB.out B6)
      have hloFF := Nat.le_trans hloFF B6.size
      have hloFB := Nat.le_trans hloFB B6.size
      have HX := hid (HX.out.later B6)
      have HT := hid (HT.out.later B6)
      have HO := hid (HO.out.later B6)
      have P3 := hid (P3.out.later B6)
      have FF := hid (FF.out.later B6)
      have P4 := hid (P4.out.later B6)
      have P5 := hid (P5.out.later B6)
      have P6 := hid O6
      clear O6 B6 hL6 h6
      go_wp2_with fail
      refine (HPS.out w6 a1 c1 HT.out).mono ?_
      rintro e w7 ⟨v7, rfl, h7⟩
      have O7 := h7.ownL
      have B7 := h7.2
      obtain ⟨a7, c7, rfl, -, -, -, hL7, -⟩ := O7.form lenByte
      have FB := hid (Fam.snoc FB.out B7 O7 (by omega))
      have HB := hid (below_up HB.out B7)
      have hloFF := Nat.le_trans hloFF B7.size
      have hloFB := Nat.le_trans hloFB B7.size
      have HX := hid (HX.out.later B7)
      have HT := hid (HT.out.later B7)
      have HO := hid (HO.out.later B7)
      have P3 := hid (P3.out.later B7)
      have FF := hid (FF.out.later B7)
      have P4 := hid (P4.out.later B7)
      have P5 := hid (P5.out.later B7)
      have P6 := hid (P6.out.later B7)
      have P7 := hid O7
      clear O7 B7 hL7 h7
      go_wp2_with fail
      refine (HPS.out w7 a1 c1 HT.out).mono ?_
      rintro e w8 ⟨v8, rfl, h8⟩
      have O8 := h8.ownL
      have B8 := h8.2
      obtain ⟨a8, c8, rfl, -, -, -, hL8, -⟩ := O8.form lenByte
      have FB := hid (Fam.snoc FB.out B8 O8 (by omega))
      have HB := hid (below_up HB.out B8)
      have hloFF := Nat.le_trans hloFF B8.size
      have hloFB := Nat.le_trans hloFB B8.size
      have HX := hid (HX.out.later B8)
      have HT := hid (HT.out.later B8)
      have HO := hid (HO.out.later B8)
      have P3 := hid (P3.out.later B8)
      have FF := hid (FF.out.later B8)
      have P4 := hid (P4.out.later B8)
      have P5 := hid (P5.out.later B8)
      have P6 := hid (P6.out.later B8)
      have P7 := hid (P7.out.later B8)
      have P8 := hid O8
      clear O8 B8 hL8 h8
      obtain ⟨v9, w9, R9, O9, B9⟩ := cloneL lenByte (by decide) cellLByte Try.underlying34 infoLByte rfl (by decide) (by decide) (P5.out.lst lenByte).1 (P5.out.lst lenByte).2 (by omega)
      obtain ⟨a9, c9, rfl, -, -, -, hL9, -⟩ := O9.form lenByte
      have R9' := hid R9
      clear R9
      have HB := hid (below_up HB.out B9)
      have hloFF := Nat.le_trans hloFF B9.size
      have hloFB := Nat.le_trans hloFB B9.size
      have HX := hid (HX.out.later B9)
      have HT := hid (HT.out.later B9)
      have HO := hid (HO.out.later B9)
      have P3 := hid (P3.out.later B9)
      have FF := hid (FF.out.later B9)
      have P4 := hid (P4.out.later B9)
      have P5 := hid (P5.out.later B9)
      have FB := hid (FB.out.later B9)
      have P6 := hid (P6.out.later B9)
      have P7 := hid (P7.out.later B9)
      have P8 := hid (P8.out.later B9)
      have P9 := hid O9
      clear O9 B9 hL9
      go_wp2_with (at_builtin; refine wpList_app (by rfl) (by rfl) R9'.out ?_)
      refine (HRI.out w9 a9 c9 (P9.out.lst lenByte).2 (bytes_lst (P9.out.lst lenByte).1)).mono ?_
      rintro e w10 ⟨v10, rfl, O10, B10⟩
      obtain ⟨a10, c10, rfl, -, -, -, hL10, -⟩ := O10.form lenRunI
      have FF := hid (Fam.snoc FF.out B10 O10 (by omega))
      have HB := hid (below_up HB.out B10)
      have hloFF := Nat.le_trans hloFF B10.size
      have hloFB := Nat.le_trans hloFB B10.size
      have HX := hid (HX.out.later B10)
      have HT := hid (HT.out.later B10)
      have HO := hid (HO.out.later B10)
      have P3 := hid (P3.out.later B10)
      have P4 := hid (P4.out.later B10)
      have P5 := hid (P5.out.later B10)
      have FB := hid (FB.out.later B10)
      have P6 := hid (P6.out.later B10)
      have P7 := hid (P7.out.later B10)
      have P8 := hid (P8.out.later B10)
      have P9 := hid (P9.out.later B10)
      have P10 := hid O10
      clear O10 B10 hL10
      go_wp2_with fail
      refine (HRI.out w10 a9 c9 (P9.out.lst lenByte).2 (bytes_lst (P9.out.lst lenByte).1)).mono ?_
      rintro e w11 ⟨v11, rfl, O11, B11⟩
      obtain ⟨a11, c11, rfl, -, -, -, hL11, -⟩ := O11.form lenRunI
      have FF := hid (Fam.snoc FF.out B11 O11 (by omega))
      have HB := hid (below_up HB.out B11)
      have hloFF := Nat.le_trans hloFF B11.size
      have hloFB := Nat.le_trans hloFB B11.size
      have HX := hid (HX.out.later B11)
      have HT := hid (HT.out.later B11)
      have HO := hid (HO.out.later B11)
      have P3 := hid (P3.out.later B11)
      have P4 := hid (P4.out.later B11)
      have P5 := hid (P5.out.later B11)
      have FB := hid (FB.out.later B11)
      have P6 := hid (P6.out.later B11)
      have P7 := hid (P7.out.later B11)
      have P8 := hid (P8.out.later B11)
      have P9 := hid (P9.out.later B11)
      have P10 := hid (P10.out.later B11)
      have P11 := hid O11
      clear O11 B11 hL11
      obtain ⟨v12, w12, R12, O12, B12⟩ := cloneL lenRunI (by decide) cellLRunI Try.underlying37 infoLRunI rfl (by decide) (by decide) (P3.out.lst lenRunI).1 (P3.out.lst lenRunI).2 (by omega)
      obtain ⟨a12, c12, rfl, -, -, -, hL12, -⟩ := O12.form lenRunI
      have R12' := hid R12
      clear R12
      have HB := hid (below_up HB.out B12)
      have hloFF := Nat.le_trans hloFF B12.size
      have hloFB := Nat.le_trans hloFB B12.size
      have HX := hid (HX.out.later B12)
      have HT := hid (HT.out.later B12)
      have HO := hid (HO.out.later B12)
      have P3 := hid (P3.out.later B12)
      have FF := hid (FF.out.later B12)
      have P4 := hid (P4.out.later B12)
      have P5 := hid (P5.out.later B12)
      have FB := hid (FB.out.later B12)
      have P6 := hid (P6.out.later B12)
      have P7 := hid (P7.out.later B12)
      have P8 := hid (P8.out.later B12)
      have P9 := hid (P9.out.later B12)
      have P10 := hid (P10.out.later B12)
      have P11 := hid (P11.out.later B12)
      have P12 := hid O12
      clear O12 B12 hL12
      go_wp2_with (at_builtin; refine wpList_app (by rfl) (by rfl) R12'.out ?_)
      refine (HUN.out w12 a12 c12 (P12.out.lst lenRunI).1).mono ?_
      rintro e w13 ⟨v13, rfl, O13, B13⟩
      obtain ⟨a13, c13, rfl, -, -, -, hL13, -⟩ := O13.form lenInt
      have hFU2 := hloFF
      have hblFU : w.heap.size ≤ w12.heap.size := HB.out.size
      have FU := hid (Fam.snoc (Fam.nil (one (Value.int .i64)) 1 w12 2 w12.heap.size) B13 O13 (Nat.le_refl _))
      have hloFU : w12.heap.size ≤ w13.heap.size := B13.size
      have HB := hid (below_up HB.out B13)
      have hloFF := Nat.le_trans hloFF B13.size
      have hloFB := Nat.le_trans hloFB B13.size
      have HX := hid (HX.out.later B13)
      have HT := hid (HT.out.later B13)
      have HO := hid (HO.out.later B13)
      have P3 := hid (P3.out.later B13)
      have FF := hid (FF.out.later B13)
      have P4 := hid (P4.out.later B13)
      have P5 := hid (P5.out.later B13)
      have FB := hid (FB.out.later B13)
      have P6 := hid (P6.out.later B13)
      have P7 := hid (P7.out.later B13)
      have P8 := hid (P8.out.later B13)
      have P9 := hid (P9.out.later B13)
      have P10 := hid (P10.out.later B13)
      have P11 := hid (P11.out.later B13)
      have P12 := hid (P12.out.later B13)
      have P13 := hid O13
      clear O13 B13 hL13
      go_wp2_with fail
      refine (HUN.out w13 a12 c12 (P12.out.lst lenRunI).1).mono ?_
      rintro e w14 ⟨v14, rfl, O14, B14⟩
      obtain ⟨a14, c14, rfl, -, -, -, hL14, -⟩ := O14.form lenInt
      have FU := hid (Fam.snoc FU.out B14 O14 (by omega))
      have HB := hid (below_up HB.out B14)
      have hloFF := Nat.le_trans hloFF B14.size
      have hloFB := Nat.le_trans hloFB B14.size
      have hloFU := Nat.le_trans hloFU B14.size
      have HX := hid (HX.out.later B14)
      have HT := hid (HT.out.later B14)
      have HO := hid (HO.out.later B14)
      have P3 := hid (P3.out.later B14)
      have FF := hid (FF.out.later B14)
      have P4 := hid (P4.out.later B14)
      have P5 := hid (P5.out.later B14)
      have FB := hid (FB.out.later B14)
      have P6 := hid (P6.out.later B14)
      have P7 := hid (P7.out.later B14)
      have P8 := hid (P8.out.later B14)
      have P9 := hid (P9.out.later B14)
      have P10 := hid (P10.out.later B14)
      have P11 := hid (P11.out.later B14)
      have P12 := hid (P12.out.later B14)
      have P13 := hid (P13.out.later B14)
      have P14 := hid O14
      clear O14 B14 hL14
      have hs7 := run_strL c7 (bytes_lst (P7.out.lst lenByte).1)
      have hs7 := hid hs7
      obtain ⟨v15, w15, R15, O15, B15⟩ := cloneL lenByte (by decide) cellLByte Try.underlying34 infoLByte rfl (by decide) (by decide) (P7.out.lst lenByte).1 (P7.out.lst lenByte).2 (by omega)
      obtain ⟨a15, c15, rfl, -, -, -, hL15, -⟩ := O15.form lenByte
      have R15' := hid R15
      clear R15
      have HB := hid (below_up HB.out B15)
      have hloFF := Nat.le_trans hloFF B15.size
      have hloFB := Nat.le_trans hloFB B15.size
      have hloFU := Nat.le_trans hloFU B15.size
      have HX := hid (HX.out.later B15)
      have HT := hid (HT.out.later B15)
      have HO := hid (HO.out.later B15)
      have P3 := hid (P3.out.later B15)
      have FF := hid (FF.out.later B15)
      have P4 := hid (P4.out.later B15)
      have P5 := hid (P5.out.later B15)
      have FB := hid (FB.out.later B15)
      have P6 := hid (P6.out.later B15)
      have P7 := hid (P7.out.later B15)
      have P8 := hid (P8.out.later B15)
      have P9 := hid (P9.out.later B15)
      have P10 := hid (P10.out.later B15)
      have P11 := hid (P11.out.later B15)
      have P12 := hid (P12.out.later B15)
      have P13 := hid (P13.out.later B15)
      have FU := hid (FU.out.later B15)
      have P14 := hid (P14.out.later B15)
      have P15 := hid O15
      clear O15 B15 hL15
      go_wp2_with (at_builtin; refine wpList_app (by rfl) (by rfl) R15'.out ?_)
      refine (HRS.out w15 a15 c15 (P15.out.lst lenByte).2 (bytes_lst (P15.out.lst lenByte).1)).mono ?_
      rintro e w16 ⟨v16, rfl, O16, B16⟩
      obtain ⟨a16, c16, rfl, -, -, -, hL16, -⟩ := O16.form lenRunS
      have hblFS : w.heap.size ≤ w15.heap.size := HB.out.size
      have FS := hid (Fam.snoc (Fam.nil (two Value.string) 2 w15 48 w15.heap.size) B16 O16 (Nat.le_refl _))
      have hloFS : w15.heap.size ≤ w16.heap.size := B16.size
      have HB := hid (below_up HB.out B16)
      have hloFF := Nat.le_trans hloFF B16.size
      have hloFB := Nat.le_trans hloFB B16.size
      have hloFU := Nat.le_trans hloFU B16.size
      have HX := hid (HX.out.later B16)
      have HT := hid (HT.out.later B16)
      have HO := hid (HO.out.later B16)
      have P3 := hid (P3.out.later B16)
      have FF := hid (FF.out.later B16)
      have P4 := hid (P4.out.later B16)
      have P5 := hid (P5.out.later B16)
      have FB := hid (FB.out.later B16)
      have P6 := hid (P6.out.later B16)
      have P7 := hid (P7.out.later B16)
      have P8 := hid (P8.out.later B16)
      have P9 := hid (P9.out.later B16)
      have P10 := hid (P10.out.later B16)
      have P11 := hid (P11.out.later B16)
      have P12 := hid (P12.out.later B16)
      have P13 := hid (P13.out.later B16)
      have FU := hid (FU.out.later B16)
      have P14 := hid (P14.out.later B16)
      have P15 := hid (P15.out.later B16)
      have P16 := hid O16
      clear O16 B16 hL16
      go_wp2_with fail
      refine (HRS.out w16 a15 c15 (P15.out.lst lenByte).2 (bytes_lst (P15.out.lst lenByte).1)).mono ?_
      rintro e w17 ⟨v17, rfl, O17, B17⟩
      obtain ⟨a17, c17, rfl, -, -, -, hL17, -⟩ := O17.form lenRunS
      have FS := hid (Fam.snoc FS.out B17 O17 (by omega))
      have HB := hid (below_up HB.out B17)
      have hloFF := Nat.le_trans hloFF B17.size
      have hloFB := Nat.le_trans hloFB B17.size
      have hloFU := Nat.le_trans hloFU B17.size
      have hloFS := Nat.le_trans hloFS B17.size
      have HX := hid (HX.out.later B17)
      have HT := hid (HT.out.later B17)
      have HO := hid (HO.out.later B17)
      have P3 := hid (P3.out.later B17)
      have FF := hid (FF.out.later B17)
      have P4 := hid (P4.out.later B17)
      have P5 := hid (P5.out.later B17)
      have FB := hid (FB.out.later B17)
      have P6 := hid (P6.out.later B17)
      have P7 := hid (P7.out.later B17)
      have P8 := hid (P8.out.later B17)
      have P9 := hid (P9.out.later B17)
      have P10 := hid (P10.out.later B17)
      have P11 := hid (P11.out.later B17)
      have P12 := hid (P12.out.later B17)
      have P13 := hid (P13.out.later B17)
      have FU := hid (FU.out.later B17)
      have P14 := hid (P14.out.later B17)
      have P15 := hid (P15.out.later B17)
      have P16 := hid (P16.out.later B17)
      have P17 := hid O17
      clear O17 B17 hL17
      obtain ⟨v18, w18, R18, O18, B18⟩ := cloneL lenRunS (by decide) cellLRunS Try.underlying23 infoLRunS rfl (by decide) (by decide) (P16.out.lst lenRunS).1 (P16.out.lst lenRunS).2 (by omega)
      obtain ⟨a18, c18, rfl, -, -, -, hL18, -⟩ := O18.form lenRunS
      have R18' := hid R18
      clear R18
      have HB := hid (below_up HB.out B18)
      have hloFF := Nat.le_trans hloFF B18.size
      have hloFB := Nat.le_trans hloFB B18.size
      have hloFU := Nat.le_trans hloFU B18.size
      have hloFS := Nat.le_trans hloFS B18.size
      have HX := hid (HX.out.later B18)
      have HT := hid (HT.out.later B18)
      have HO := hid (HO.out.later B18)
      have P3 := hid (P3.out.later B18)
      have FF := hid (FF.out.later B18)
      have P4 := hid (P4.out.later B18)
      have P5 := hid (P5.out.later B18)
      have FB := hid (FB.out.later B18)
      have P6 := hid (P6.out.later B18)
      have P7 := hid (P7.out.later B18)
      have P8 := hid (P8.out.later B18)
      have P9 := hid (P9.out.later B18)
      have P10 := hid (P10.out.later B18)
      have P11 := hid (P11.out.later B18)
      have P12 := hid (P12.out.later B18)
      have P13 := hid (P13.out.later B18)
      have FU := hid (FU.out.later B18)
      have P14 := hid (P14.out.later B18)
      have P15 := hid (P15.out.later B18)
      have P16 := hid (P16.out.later B18)
      have FS := hid (FS.out.later B18)
      have P17 := hid (P17.out.later B18)
      have P18 := hid O18
      clear O18 B18 hL18
      go_wp2_with (at_builtin; refine wpList_app (by rfl) (by rfl) R18'.out ?_)
      have hC := sameRunS a16 a17 G G c16 c17 w18 (P16.out.lst lenRunS).1 (P17.out.lst lenRunS).1 (by omega) (by omega)
      rw [decide_eq_true rfl] at hC
      refine hC.mono ?_
      rintro e w19 ⟨rfl, j19, hw19⟩
      have B19 : Below w18.heap.size w18 w19 := by rw [hw19]; exact below_drewN (Below.refl _ w18) j19
      have HB := hid (below_up HB.out B19)
      have hloFF := Nat.le_trans hloFF B19.size
      have hloFB := Nat.le_trans hloFB B19.size
      have hloFU := Nat.le_trans hloFU B19.size
      have hloFS := Nat.le_trans hloFS B19.size
      have HX := hid (HX.out.later B19)
      have HT := hid (HT.out.later B19)
      have HO := hid (HO.out.later B19)
      have P3 := hid (P3.out.later B19)
      have FF := hid (FF.out.later B19)
      have P4 := hid (P4.out.later B19)
      have P5 := hid (P5.out.later B19)
      have FB := hid (FB.out.later B19)
      have P6 := hid (P6.out.later B19)
      have P7 := hid (P7.out.later B19)
      have P8 := hid (P8.out.later B19)
      have P9 := hid (P9.out.later B19)
      have P10 := hid (P10.out.later B19)
      have P11 := hid (P11.out.later B19)
      have P12 := hid (P12.out.later B19)
      have P13 := hid (P13.out.later B19)
      have FU := hid (FU.out.later B19)
      have P14 := hid (P14.out.later B19)
      have P15 := hid (P15.out.later B19)
      have P16 := hid (P16.out.later B19)
      have FS := hid (FS.out.later B19)
      have P17 := hid (P17.out.later B19)
      have P18 := hid (P18.out.later B19)
      clear hC hw19 B19
      go_wp2_with fail
      refine (HFt.out w19 a1 c1 HT.out).mono ?_
      rintro e w20 ⟨v20, rfl, O20, B20⟩
      obtain ⟨a20, c20, rfl, -, -, -, hL20, -⟩ := O20.form lenRunS
      have HB := hid (below_up HB.out B20)
      have hloFF := Nat.le_trans hloFF B20.size
      have hloFB := Nat.le_trans hloFB B20.size
      have hloFU := Nat.le_trans hloFU B20.size
      have hloFS := Nat.le_trans hloFS B20.size
      have HX := hid (HX.out.later B20)
      have HT := hid (HT.out.later B20)
      have HO := hid (HO.out.later B20)
      have P3 := hid (P3.out.later B20)
      have FF := hid (FF.out.later B20)
      have P4 := hid (P4.out.later B20)
      have P5 := hid (P5.out.later B20)
      have FB := hid (FB.out.later B20)
      have P6 := hid (P6.out.later B20)
      have P7 := hid (P7.out.later B20)
      have P8 := hid (P8.out.later B20)
      have P9 := hid (P9.out.later B20)
      have P10 := hid (P10.out.later B20)
      have P11 := hid (P11.out.later B20)
      have P12 := hid (P12.out.later B20)
      have P13 := hid (P13.out.later B20)
      have FU := hid (FU.out.later B20)
      have P14 := hid (P14.out.later B20)
      have P15 := hid (P15.out.later B20)
      have P16 := hid (P16.out.later B20)
      have FS := hid (FS.out.later B20)
      have P17 := hid (P17.out.later B20)
      have P18 := hid (P18.out.later B20)
      have P20 := hid O20
      clear O20 B20 hL20
      go_wp2_with fail
      have hC := sameRunS a16 a20 G G c16 c20 w20 (P16.out.lst lenRunS).1 (P20.out.lst lenRunS).1 (by omega) (by omega)
      rw [decide_eq_true rfl] at hC
      refine hC.mono ?_
      rintro e w21 ⟨rfl, j21, hw21⟩
      have B21 : Below w20.heap.size w20 w21 := by rw [hw21]; exact below_drewN (Below.refl _ w20) j21
      have HB := hid (below_up HB.out B21)
      have hloFF := Nat.le_trans hloFF B21.size
      have hloFB := Nat.le_trans hloFB B21.size
      have hloFU := Nat.le_trans hloFU B21.size
      have hloFS := Nat.le_trans hloFS B21.size
      have HX := hid (HX.out.later B21)
      have HT := hid (HT.out.later B21)
      have HO := hid (HO.out.later B21)
      have P3 := hid (P3.out.later B21)
      have FF := hid (FF.out.later B21)
      have P4 := hid (P4.out.later B21)
      have P5 := hid (P5.out.later B21)
      have FB := hid (FB.out.later B21)
      have P6 := hid (P6.out.later B21)
      have P7 := hid (P7.out.later B21)
      have P8 := hid (P8.out.later B21)
      have P9 := hid (P9.out.later B21)
      have P10 := hid (P10.out.later B21)
      have P11 := hid (P11.out.later B21)
      have P12 := hid (P12.out.later B21)
      have P13 := hid (P13.out.later B21)
      have FU := hid (FU.out.later B21)
      have P14 := hid (P14.out.later B21)
      have P15 := hid (P15.out.later B21)
      have P16 := hid (P16.out.later B21)
      have FS := hid (FS.out.later B21)
      have P17 := hid (P17.out.later B21)
      have P18 := hid (P18.out.later B21)
      have P20 := hid (P20.out.later B21)
      clear hC hw21 B21
      go_wp2_with fail
      have P20 := P20
      clear P20
      have hA := apartRunS_fam FS.out (by simp) (fun x hx => by simp at hx; rcases hx with rfl | rfl <;> (dsimp only; omega))
      refine hA.mono ?_
      rintro e w22 ⟨rfl, ht⟩
      have HB := hid (below_same HB.out (fam_below FS.out ht hblFS hloFS))
      have HX := hid (HX0.out.later HB.out)
      have HT := hid (HT0.out.later HB.out)
      have hloFF := Nat.le_trans hloFF ht.size
      have hloFB := Nat.le_trans hloFB ht.size
      have hloFU := Nat.le_trans hloFU ht.size
      have hloFS := Nat.le_trans hloFS ht.size
      have HO := hid (HO.out.touched FS.out ht (.inl (by decide)))
      have P3 := hid (P3.out.touched FS.out ht (.inl (by decide)))
      have FF := hid (FF.out.touch ht (FF.out.offF FS.out (by decide)))
      have P4 := hid (P4.out.touched FS.out ht (.inl (by decide)))
      have P5 := hid (P5.out.touched FS.out ht (.inl (by decide)))
      have FB := hid (FB.out.touch ht (FB.out.offF FS.out (by decide)))
      have P6 := hid (P6.out.touched FS.out ht (.inl (by decide)))
      have P7 := hid (P7.out.touched FS.out ht (.inl (by decide)))
      have P8 := hid (P8.out.touched FS.out ht (.inl (by decide)))
      have P9 := hid (P9.out.touched FS.out ht (.inl (by decide)))
      have P10 := hid (P10.out.touched FS.out ht (.inl (by decide)))
      have P11 := hid (P11.out.touched FS.out ht (.inl (by decide)))
      have P12 := hid (P12.out.touched FS.out ht (.inl (by decide)))
      have P13 := hid (P13.out.touched FS.out ht (.inl (by decide)))
      have FU := hid (FU.out.touch ht (FU.out.offF FS.out (by decide)))
      have P14 := hid (P14.out.touched FS.out ht (.inl (by decide)))
      have P15 := hid (P15.out.touched FS.out ht (.inl (by decide)))
      have P18 := hid (P18.out.touched FS.out ht (.inr (.inl (by omega))))
      clear hA ht FS P16 P17
      go_wp2_with fail
      refine (HRS.out w22 a15 c15 (P15.out.lst lenByte).2 (bytes_lst (P15.out.lst lenByte).1)).mono ?_
      rintro e w23 ⟨v23, rfl, O23, B23⟩
      obtain ⟨a23, c23, rfl, -, -, -, hL23, -⟩ := O23.form lenRunS
      have HB := hid (below_up HB.out B23)
      have hloFF := Nat.le_trans hloFF B23.size
      have hloFB := Nat.le_trans hloFB B23.size
      have hloFU := Nat.le_trans hloFU B23.size
      have HX := hid (HX.out.later B23)
      have HT := hid (HT.out.later B23)
      have HO := hid (HO.out.later B23)
      have P3 := hid (P3.out.later B23)
      have FF := hid (FF.out.later B23)
      have P4 := hid (P4.out.later B23)
      have P5 := hid (P5.out.later B23)
      have FB := hid (FB.out.later B23)
      have P6 := hid (P6.out.later B23)
      have P7 := hid (P7.out.later B23)
      have P8 := hid (P8.out.later B23)
      have P9 := hid (P9.out.later B23)
      have P10 := hid (P10.out.later B23)
      have P11 := hid (P11.out.later B23)
      have P12 := hid (P12.out.later B23)
      have P13 := hid (P13.out.later B23)
      have FU := hid (FU.out.later B23)
      have P14 := hid (P14.out.later B23)
      have P15 := hid (P15.out.later B23)
      have P18 := hid (P18.out.later B23)
      have P23 := hid O23
      clear O23 B23 hL23
      go_wp2_with fail
      have hC := sameRunS a23 a18 G G c23 c18 w23 (P23.out.lst lenRunS).1 (P18.out.lst lenRunS).1 (by omega) (by omega)
      rw [decide_eq_true rfl] at hC
      refine hC.mono ?_
      rintro e w24 ⟨rfl, j24, hw24⟩
      have B24 : Below w23.heap.size w23 w24 := by rw [hw24]; exact below_drewN (Below.refl _ w23) j24
      have HB := hid (below_up HB.out B24)
      have hloFF := Nat.le_trans hloFF B24.size
      have hloFB := Nat.le_trans hloFB B24.size
      have hloFU := Nat.le_trans hloFU B24.size
      have HX := hid (HX.out.later B24)
      have HT := hid (HT.out.later B24)
      have HO := hid (HO.out.later B24)
      have P3 := hid (P3.out.later B24)
      have FF := hid (FF.out.later B24)
      have P4 := hid (P4.out.later B24)
      have P5 := hid (P5.out.later B24)
      have FB := hid (FB.out.later B24)
      have P6 := hid (P6.out.later B24)
      have P7 := hid (P7.out.later B24)
      have P8 := hid (P8.out.later B24)
      have P9 := hid (P9.out.later B24)
      have P10 := hid (P10.out.later B24)
      have P11 := hid (P11.out.later B24)
      have P12 := hid (P12.out.later B24)
      have P13 := hid (P13.out.later B24)
      have FU := hid (FU.out.later B24)
      have P14 := hid (P14.out.later B24)
      have P15 := hid (P15.out.later B24)
      have P18 := hid (P18.out.later B24)
      have P23 := hid (P23.out.later B24)
      clear hC hw24 B24
      clear P23 P18
      have hs15 := run_strL c15 (bytes_lst (P15.out.lst lenByte).1)
      go_wp2_with fail
      have hC := sameRunI a3 a4 F F c3 c4 w24 (P3.out.lst lenRunI).1 (P4.out.lst lenRunI).1 (by omega) (by omega)
      rw [decide_eq_true rfl] at hC
      refine hC.mono ?_
      rintro e w25 ⟨rfl, j25, hw25⟩
      have B25 : Below w24.heap.size w24 w25 := by rw [hw25]; exact below_drewN (Below.refl _ w24) j25
      have HB := hid (below_up HB.out B25)
      have hloFF := Nat.le_trans hloFF B25.size
      have hloFB := Nat.le_trans hloFB B25.size
      have hloFU := Nat.le_trans hloFU B25.size
      have HX := hid (HX.out.later B25)
      have HT := hid (HT.out.later B25)
      have HO := hid (HO.out.later B25)
      have P3 := hid (P3.out.later B25)
      have FF := hid (FF.out.later B25)
      have P4 := hid (P4.out.later B25)
      have P5 := hid (P5.out.later B25)
      have FB := hid (FB.out.later B25)
      have P6 := hid (P6.out.later B25)
      have P7 := hid (P7.out.later B25)
      have P8 := hid (P8.out.later B25)
      have P9 := hid (P9.out.later B25)
      have P10 := hid (P10.out.later B25)
      have P11 := hid (P11.out.later B25)
      have P12 := hid (P12.out.later B25)
      have P13 := hid (P13.out.later B25)
      have FU := hid (FU.out.later B25)
      have P14 := hid (P14.out.later B25)
      have P15 := hid (P15.out.later B25)
      clear hC hw25 B25
      go_wp2_with fail
      have hC := sameRunI a10 a12 F F c10 c12 w25 (P10.out.lst lenRunI).1 (P12.out.lst lenRunI).1 (by omega) (by omega)
      rw [decide_eq_true rfl] at hC
      refine hC.mono ?_
      rintro e w26 ⟨rfl, j26, hw26⟩
      have B26 : Below w25.heap.size w25 w26 := by rw [hw26]; exact below_drewN (Below.refl _ w25) j26
      have HB := hid (below_up HB.out B26)
      have hloFF := Nat.le_trans hloFF B26.size
      have hloFB := Nat.le_trans hloFB B26.size
      have hloFU := Nat.le_trans hloFU B26.size
      have HX := hid (HX.out.later B26)
      have HT := hid (HT.out.later B26)
      have HO := hid (HO.out.later B26)
      have P3 := hid (P3.out.later B26)
      have FF := hid (FF.out.later B26)
      have P4 := hid (P4.out.later B26)
      have P5 := hid (P5.out.later B26)
      have FB := hid (FB.out.later B26)
      have P6 := hid (P6.out.later B26)
      have P7 := hid (P7.out.later B26)
      have P8 := hid (P8.out.later B26)
      have P9 := hid (P9.out.later B26)
      have P10 := hid (P10.out.later B26)
      have P11 := hid (P11.out.later B26)
      have P12 := hid (P12.out.later B26)
      have P13 := hid (P13.out.later B26)
      have FU := hid (FU.out.later B26)
      have P14 := hid (P14.out.later B26)
      have P15 := hid (P15.out.later B26)
      clear hC hw26 B26
      go_wp2_with fail
      have hC := sameRunI a11 a12 F F c11 c12 w26 (P11.out.lst lenRunI).1 (P12.out.lst lenRunI).1 (by omega) (by omega)
      rw [decide_eq_true rfl] at hC
      refine hC.mono ?_
      rintro e w27 ⟨rfl, j27, hw27⟩
      have B27 : Below w26.heap.size w26 w27 := by rw [hw27]; exact below_drewN (Below.refl _ w26) j27
      have HB := hid (below_up HB.out B27)
      have hloFF := Nat.le_trans hloFF B27.size
      have hloFB := Nat.le_trans hloFB B27.size
      have hloFU := Nat.le_trans hloFU B27.size
      have HX := hid (HX.out.later B27)
      have HT := hid (HT.out.later B27)
      have HO := hid (HO.out.later B27)
      have P3 := hid (P3.out.later B27)
      have FF := hid (FF.out.later B27)
      have P4 := hid (P4.out.later B27)
      have P5 := hid (P5.out.later B27)
      have FB := hid (FB.out.later B27)
      have P6 := hid (P6.out.later B27)
      have P7 := hid (P7.out.later B27)
      have P8 := hid (P8.out.later B27)
      have P9 := hid (P9.out.later B27)
      have P10 := hid (P10.out.later B27)
      have P11 := hid (P11.out.later B27)
      have P12 := hid (P12.out.later B27)
      have P13 := hid (P13.out.later B27)
      have FU := hid (FU.out.later B27)
      have P14 := hid (P14.out.later B27)
      have P15 := hid (P15.out.later B27)
      clear hC hw27 B27
      have hs5 := run_strL c5 (bytes_lst (P5.out.lst lenByte).1)
      have hs6 := run_strL c6 (bytes_lst (P6.out.lst lenByte).1)
      have hs8 := run_strL c8 (bytes_lst (P8.out.lst lenByte).1)
      go_wp2_with fail
      have hC := sameInt a13 a0 X X c13 c0 w27 (P13.out.lst lenInt).1 HX.out (by omega) (by omega)
      rw [decide_eq_true rfl] at hC
      refine hC.mono ?_
      rintro e w28 ⟨rfl, j28, hw28⟩
      have B28 : Below w27.heap.size w27 w28 := by rw [hw28]; exact below_drewN (Below.refl _ w27) j28
      have HB := hid (below_up HB.out B28)
      have hloFF := Nat.le_trans hloFF B28.size
      have hloFB := Nat.le_trans hloFB B28.size
      have hloFU := Nat.le_trans hloFU B28.size
      have HX := hid (HX.out.later B28)
      have HT := hid (HT.out.later B28)
      have HO := hid (HO.out.later B28)
      have P3 := hid (P3.out.later B28)
      have FF := hid (FF.out.later B28)
      have P4 := hid (P4.out.later B28)
      have P5 := hid (P5.out.later B28)
      have FB := hid (FB.out.later B28)
      have P6 := hid (P6.out.later B28)
      have P7 := hid (P7.out.later B28)
      have P8 := hid (P8.out.later B28)
      have P9 := hid (P9.out.later B28)
      have P10 := hid (P10.out.later B28)
      have P11 := hid (P11.out.later B28)
      have P12 := hid (P12.out.later B28)
      have P13 := hid (P13.out.later B28)
      have FU := hid (FU.out.later B28)
      have P14 := hid (P14.out.later B28)
      have P15 := hid (P15.out.later B28)
      clear hC hw28 B28
      go_wp2_with fail
      have hC := sameInt a14 a0 X X c14 c0 w28 (P14.out.lst lenInt).1 HX.out (by omega) (by omega)
      rw [decide_eq_true rfl] at hC
      refine hC.mono ?_
      rintro e w29 ⟨rfl, j29, hw29⟩
      have B29 : Below w28.heap.size w28 w29 := by rw [hw29]; exact below_drewN (Below.refl _ w28) j29
      have HB := hid (below_up HB.out B29)
      have hloFF := Nat.le_trans hloFF B29.size
      have hloFB := Nat.le_trans hloFB B29.size
      have hloFU := Nat.le_trans hloFU B29.size
      have HX := hid (HX.out.later B29)
      have HT := hid (HT.out.later B29)
      have HO := hid (HO.out.later B29)
      have P3 := hid (P3.out.later B29)
      have FF := hid (FF.out.later B29)
      have P4 := hid (P4.out.later B29)
      have P5 := hid (P5.out.later B29)
      have FB := hid (FB.out.later B29)
      have P6 := hid (P6.out.later B29)
      have P7 := hid (P7.out.later B29)
      have P8 := hid (P8.out.later B29)
      have P9 := hid (P9.out.later B29)
      have P10 := hid (P10.out.later B29)
      have P11 := hid (P11.out.later B29)
      have P12 := hid (P12.out.later B29)
      have P13 := hid (P13.out.later B29)
      have FU := hid (FU.out.later B29)
      have P14 := hid (P14.out.later B29)
      have P15 := hid (P15.out.later B29)
      clear hC hw29 B29
      go_wp2_with fail
      have hC := sameInt a2 a0 X X c2 c0 w29 (HO.out.lst lenInt).1 HX.out (by omega) (by omega)
      rw [decide_eq_true rfl] at hC
      refine hC.mono ?_
      rintro e w30 ⟨rfl, j30, hw30⟩
      have B30 : Below w29.heap.size w29 w30 := by rw [hw30]; exact below_drewN (Below.refl _ w29) j30
      have HB := hid (below_up HB.out B30)
      have hloFF := Nat.le_trans hloFF B30.size
      have hloFB := Nat.le_trans hloFB B30.size
      have hloFU := Nat.le_trans hloFU B30.size
      have HX := hid (HX.out.later B30)
      have HT := hid (HT.out.later B30)
      have HO := hid (HO.out.later B30)
      have P3 := hid (P3.out.later B30)
      have FF := hid (FF.out.later B30)
      have P4 := hid (P4.out.later B30)
      have P5 := hid (P5.out.later B30)
      have FB := hid (FB.out.later B30)
      have P6 := hid (P6.out.later B30)
      have P7 := hid (P7.out.later B30)
      have P8 := hid (P8.out.later B30)
      have P9 := hid (P9.out.later B30)
      have P10 := hid (P10.out.later B30)
      have P11 := hid (P11.out.later B30)
      have P12 := hid (P12.out.later B30)
      have P13 := hid (P13.out.later B30)
      have FU := hid (FU.out.later B30)
      have P14 := hid (P14.out.later B30)
      have P15 := hid (P15.out.later B30)
      clear hC hw30 B30
      go_wp2_with fail
      clear P15
      have hA := apartByte_fam FB.out (by simp) (fun x hx => by simp at hx; rcases hx with rfl | rfl | rfl | rfl <;> (dsimp only; omega))
      refine hA.mono ?_
      rintro e w31 ⟨rfl, ht⟩
      have HB := hid (below_same HB.out (fam_below FB.out ht hblFB hloFB))
      have HX := hid (HX0.out.later HB.out)
      have HT := hid (HT0.out.later HB.out)
      have hloFF := Nat.le_trans hloFF ht.size
      have hloFB := Nat.le_trans hloFB ht.size
      have hloFU := Nat.le_trans hloFU ht.size
      have HO := hid (HO.out.touched FB.out ht (.inl (by decide)))
      have P3 := hid (P3.out.touched FB.out ht (.inl (by decide)))
      have FF := hid (FF.out.touch ht (FF.out.offF FB.out (by decide)))
      have P4 := hid (P4.out.touched FB.out ht (.inl (by decide)))
      have P9 := hid (P9.out.touched FB.out ht (.inr (.inl (by omega))))
      have P10 := hid (P10.out.touched FB.out ht (.inl (by decide)))
      have P11 := hid (P11.out.touched FB.out ht (.inl (by decide)))
      have P12 := hid (P12.out.touched FB.out ht (.inl (by decide)))
      have P13 := hid (P13.out.touched FB.out ht (.inl (by decide)))
      have FU := hid (FU.out.touch ht (FU.out.offF FB.out (by decide)))
      have P14 := hid (P14.out.touched FB.out ht (.inl (by decide)))
      clear hA ht FB P5 P6 P7 P8
      go_wp2_with fail
      have hA := apartInt_fam FU.out (by simp) (fun x hx => by simp at hx; rcases hx with rfl | rfl <;> (dsimp only; omega))
      refine hA.mono ?_
      rintro e w32 ⟨rfl, ht⟩
      have HB := hid (below_same HB.out (fam_below FU.out ht hblFU hloFU))
      have HX := hid (HX0.out.later HB.out)
      have HT := hid (HT0.out.later HB.out)
      have hloFF := Nat.le_trans hloFF ht.size
      have hloFU := Nat.le_trans hloFU ht.size
      have HO := hid (HO.out.touched FU.out ht (.inr (.inr (fun g hg => by have := HHO.out g hg; omega))))
      have P3 := hid (P3.out.touched FU.out ht (.inl (by decide)))
      have FF := hid (FF.out.touch ht (FF.out.offF FU.out (by decide)))
      have P4 := hid (P4.out.touched FU.out ht (.inl (by decide)))
      have P9 := hid (P9.out.touched FU.out ht (.inl (by decide)))
      have P10 := hid (P10.out.touched FU.out ht (.inl (by decide)))
      have P11 := hid (P11.out.touched FU.out ht (.inl (by decide)))
      have P12 := hid (P12.out.touched FU.out ht (.inl (by decide)))
      clear hA ht FU P13 P14
      go_wp2_with fail
      have hA := apartRunI_fam FF.out (by simp) (fun x hx => by simp at hx; rcases hx with rfl | rfl | rfl | rfl <;> (dsimp only; omega))
      refine hA.mono ?_
      rintro e w33 ⟨rfl, ht⟩
      have HB := hid (below_same HB.out (fam_below FF.out ht hblFF hloFF))
      have HX := hid (HX0.out.later HB.out)
      have HT := hid (HT0.out.later HB.out)
      have hloFF := Nat.le_trans hloFF ht.size
      have HO := hid (HO.out.touched FF.out ht (.inl (by decide)))
      have P9 := hid (P9.out.touched FF.out ht (.inl (by decide)))
      have P12 := hid (P12.out.touched FF.out ht (.inr (.inl (by omega))))
      clear hA ht FF P3 P4 P10 P11
      go_wp2_with fail
      have HCV : Hid (∀ V, Below w33.heap.size w33 V → (convert 34 9 (.slice a9 EI.length c9)).run Try.prog V = .ok (.string (strL EI)) V) := fun V hV => run_strL c9 (bytes_lst ((P9.out.later hV).lst lenByte).1)
      have v1 : Below w33.heap.size w33 w33.drew := below_drewN (Below.refl _ w33) 1
      refine wp_region_noPanic ?_
      refine wp_region_held_drew (S := fun V => (convert 34 9 (.slice a9 EI.length c9)).run Try.prog V = .ok (.string (strL EI)) V) (by kernel_rfl) (HCV.out _ v1) (fun hHeld0 => ?_)
      refine wpAnyH_take (i := 0) (oi := { dst := some 229, op := Op.move (Operand.tmp 6), type := 33, pos := "outright.go:202", after := #[], guard := none }) (v := ?_) rfl (by kernel_rfl) (by kernel_rfl) (by kernel_rfl) (fun _ _ _ h => h) (Or.inl ⟨by rfl, ?_⟩) (by assumption) ?_
      rotate_left
      · intro W hSw
        try dsimp only at hSw
        go_simp
        try with_reducible rfl
      try simp only [Act.put, List.setIfInBounds_toArray, List.set_cons_zero, List.set_cons_succ]
      refine wpAnyH_take (i := 1) (oi := { dst := some 230, op := Op.move (Operand.tmp 0), type := 33, pos := "outright.go:202", after := #[], guard := none }) (v := ?_) rfl (by kernel_rfl) (by kernel_rfl) (by kernel_rfl) (fun _ _ _ h => h) (Or.inl ⟨by rfl, ?_⟩) (by assumption) ?_
      rotate_left
      · intro W hSw
        try dsimp only at hSw
        go_simp
        try with_reducible rfl
      try simp only [Act.put, List.setIfInBounds_toArray, List.set_cons_zero, List.set_cons_succ]
      refine wpAnyH_ready (rs := [2]) (by kernel_rfl) (by simp) ?_
      refine AllReadyH.cons (o := { dst := some 231, op := Op.call { callee := Callee.value (Operand.func 24), args := #[Operand.tmp 229, Operand.tmp 230], argTypes := #[33, 33] }, type := 4, pos := "outright.go:202", after := #[{ on := 0, ground := Ground.data }, { on := 1, ground := Ground.data }], guard := none }) rfl (fun K hK => ?_) AllReadyH.nil
      rw [if_pos (by rfl)]
      go_simp
      have hC := sameInt a2 a0 X X c2 c0 _ ((HO.out.later v1).lst lenInt).1 (HX.out.later v1) (by omega) (by omega)
      rw [decide_eq_true rfl] at hC
      refine hC.mono ?_
      rintro e w34 ⟨rfl, j34, hw34⟩
      have B34 : Below w33.heap.size w33 w34 := below_up v1 (below_of_drewN hw34)
      clear hC hw34
      refine hK.out _ _ (HCV.out _ B34) (fun hHeld1 => ?_)
      clear hK K hHeld0
      try simp only [Act.put, List.setIfInBounds_toArray, List.set_cons_zero, List.set_cons_succ]
      refine wpAnyH_take (i := 3) (oi := { dst := some 232, op := Op.unOp UnOp.not 4 (Operand.tmp 231), type := 4, pos := "outright.go:202", after := #[{ on := 2, ground := Ground.data }], guard := none }) (v := ?_) rfl (by kernel_rfl) (by kernel_rfl) (by kernel_rfl) (fun _ _ _ h => h) (Or.inl ⟨by rfl, ?_⟩) (by assumption) ?_
      rotate_left
      · intro W hSw
        try dsimp only at hSw
        go_simp
        try with_reducible rfl
      try simp only [Act.put, List.setIfInBounds_toArray, List.set_cons_zero, List.set_cons_succ]
      refine wpAnyH_take (i := 4) (oi := { dst := some 233, op := Op.move (Operand.tmp 232), type := 4, pos := "outright.go:202", after := #[{ on := 3, ground := Ground.data }, { on := 2, ground := Ground.chain }], guard := none }) (v := ?_) rfl (by kernel_rfl) (by kernel_rfl) (by kernel_rfl) (fun _ _ _ h => h) (Or.inl ⟨by rfl, ?_⟩) (by assumption) ?_
      rotate_left
      · intro W hSw
        try dsimp only at hSw
        go_simp
        try with_reducible rfl
      try simp only [Act.put, List.setIfInBounds_toArray, List.set_cons_zero, List.set_cons_succ]
      refine wpAnyH_take (i := 5) (oi := { dst := some 234, op := Op.move (Operand.tmp 6), type := 33, pos := "outright.go:202", after := #[{ on := 4, ground := Ground.guard }], guard := some (4, false) }) (v := ?_) rfl (by kernel_rfl) (by kernel_rfl) (by kernel_rfl) (fun _ _ _ h => h) (Or.inl ⟨by rfl, ?_⟩) (by assumption) ?_
      rotate_left
      · intro W hSw
        try dsimp only at hSw
        go_simp
        try with_reducible rfl
      try simp only [Act.put, List.setIfInBounds_toArray, List.set_cons_zero, List.set_cons_succ]
      refine wpAnyH_take (i := 7) (oi := { dst := some 236, op := Op.move (Operand.tmp 18), type := 37, pos := "outright.go:202", after := #[{ on := 4, ground := Ground.guard }], guard := some (4, false) }) (v := ?_) rfl (by kernel_rfl) (by kernel_rfl) (by kernel_rfl) (fun _ _ _ h => h) (Or.inl ⟨by rfl, ?_⟩) (by assumption) ?_
      rotate_left
      · intro W hSw
        try dsimp only at hSw
        go_simp
        try with_reducible rfl
      try simp only [Act.put, List.setIfInBounds_toArray, List.set_cons_zero, List.set_cons_succ]
      refine wpAnyH_ready (rs := [6]) (by kernel_rfl) (by simp) ?_
      refine AllReadyH.cons (o := { dst := some 235, op := Op.call { callee := Callee.value (Operand.func 17), args := #[Operand.tmp 234], argTypes := #[33] }, type := 37, pos := "outright.go:202", after := #[{ on := 5, ground := Ground.data }, { on := 4, ground := Ground.chain }, { on := 4, ground := Ground.guard }], guard := some (4, false) }) rfl (fun K hK => ?_) AllReadyH.nil
      rw [if_pos (by rfl)]
      go_simp
      refine (HFo.out _ a2 c2 ((HO.out.later B34).lst lenInt).1).mono ?_
      rintro e w35 ⟨v35, rfl, O35, b35⟩
      obtain ⟨a35, c35, rfl, -, -, -, hL35, -⟩ := O35.form lenRunI
      have B35 : Below w33.heap.size w33 w35 := below_up B34 b35
      refine hK.out _ _ (HCV.out _ B35) (fun hHeld2 => ?_)
      clear hK K hHeld1
      try simp only [Act.put, List.setIfInBounds_toArray, List.set_cons_zero, List.set_cons_succ]
      refine wpAnyH_ready (rs := [8]) (by kernel_rfl) (by simp) ?_
      refine AllReadyH.cons (o := { dst := some 237, op := Op.call { callee := Callee.value (Operand.func 16), args := #[Operand.tmp 235, Operand.tmp 236], argTypes := #[37, 37] }, type := 4, pos := "outright.go:202", after := #[{ on := 6, ground := Ground.data }, { on := 7, ground := Ground.data }, { on := 6, ground := Ground.chain }, { on := 4, ground := Ground.guard }], guard := some (4, false) }) rfl (fun K hK => ?_) AllReadyH.nil
      rw [if_pos (by rfl)]
      go_simp
      have hC := sameRunI a35 a12 F F c35 c12 w35 hL35 ((P12.out.later B35).lst lenRunI).1 (by omega) (by omega)
      rw [decide_eq_true rfl] at hC
      refine hC.mono ?_
      rintro e w36 ⟨rfl, j36, hw36⟩
      have B36 : Below w33.heap.size w33 w36 := below_up B35 (below_of_drewN hw36)
      clear hC hw36
      refine hK.out _ _ (HCV.out _ B36) (fun hHeld3 => ?_)
      clear hK K hHeld2
      try simp only [Act.put, List.setIfInBounds_toArray, List.set_cons_zero, List.set_cons_succ]
      refine wpAnyH_take (i := 9) (oi := { dst := some 238, op := Op.unOp UnOp.not 4 (Operand.tmp 237), type := 4, pos := "outright.go:202", after := #[{ on := 8, ground := Ground.data }, { on := 4, ground := Ground.guard }], guard := some (4, false) }) (v := ?_) rfl (by kernel_rfl) (by kernel_rfl) (by kernel_rfl) (fun _ _ _ h => h) (Or.inl ⟨by rfl, ?_⟩) (by assumption) ?_
      rotate_left
      · intro W hSw
        try dsimp only at hSw
        go_simp
        try with_reducible rfl
      try simp only [Act.put, List.setIfInBounds_toArray, List.set_cons_zero, List.set_cons_succ]
      refine wpAnyH_take (i := 10) (oi := { dst := some 239, op := Op.pick (Operand.tmp 233) (Operand.const (Value.bool true)) (Operand.tmp 238), type := 4, pos := "outright.go:202", after := #[{ on := 4, ground := Ground.data }, { on := 9, ground := Ground.data }], guard := none }) (v := ?_) rfl (by kernel_rfl) (by kernel_rfl) (by kernel_rfl) (fun _ _ _ h => h) (Or.inl ⟨by rfl, ?_⟩) (by assumption) ?_
      rotate_left
      · intro W hSw
        try dsimp only at hSw
        go_simp
        try with_reducible rfl
      try simp only [Act.put, List.setIfInBounds_toArray, List.set_cons_zero, List.set_cons_succ]
      refine wpAnyH_take (i := 11) (oi := { dst := some 240, op := Op.move (Operand.tmp 239), type := 4, pos := "outright.go:202", after := #[{ on := 10, ground := Ground.data }, { on := 8, ground := Ground.chain }], guard := none }) (v := ?_) rfl (by kernel_rfl) (by kernel_rfl) (by kernel_rfl) (fun _ _ _ h => h) (Or.inl ⟨by rfl, ?_⟩) (by assumption) ?_
      rotate_left
      · intro W hSw
        try dsimp only at hSw
        go_simp
        try with_reducible rfl
      try simp only [Act.put, List.setIfInBounds_toArray, List.set_cons_zero, List.set_cons_succ]
      refine wpAnyH_take (i := 12) (oi := { dst := some 241, op := Op.move (Operand.tmp 6), type := 33, pos := "outright.go:202", after := #[{ on := 11, ground := Ground.guard }], guard := some (11, false) }) (v := ?_) rfl (by kernel_rfl) (by kernel_rfl) (by kernel_rfl) (fun _ _ _ h => h) (Or.inl ⟨by rfl, ?_⟩) (by assumption) ?_
      rotate_left
      · intro W hSw
        try dsimp only at hSw
        go_simp
        try with_reducible rfl
      try simp only [Act.put, List.setIfInBounds_toArray, List.set_cons_zero, List.set_cons_succ]
      refine wpAnyH_take (i := 15) (oi := { dst := some 244, op := Op.move (Operand.tmp 13), type := 34, pos := "outright.go:202", after := #[{ on := 11, ground := Ground.guard }], guard := some (11, false) }) (v := ?_) rfl (by kernel_rfl) (by kernel_rfl) (by kernel_rfl) (fun _ _ _ h => h) (Or.inl ⟨by rfl, ?_⟩) (by assumption) ?_
      rotate_left
      · intro W hSw
        try dsimp only at hSw
        go_simp
        try with_reducible rfl
      try simp only [Act.put, List.setIfInBounds_toArray, List.set_cons_zero, List.set_cons_succ]
      refine wpAnyH_take (i := 16) (oi := { dst := some 245, op := Op.convert 34 9 (Operand.tmp 244), type := 9, pos := "outright.go:202", after := #[{ on := 15, ground := Ground.data }, { on := 11, ground := Ground.guard }], guard := some (11, false) }) (v := ?_) rfl (by kernel_rfl) (by kernel_rfl) (by kernel_rfl) (fun _ _ _ h => h) (Or.inl ⟨by rfl, ?_⟩) (by assumption) ?_
      rotate_left
      · intro W hSw
        try dsimp only at hSw
        go_simp
        try with_reducible rfl
      try simp only [Act.put, List.setIfInBounds_toArray, List.set_cons_zero, List.set_cons_succ]
      refine wpAnyH_ready (rs := [13]) (by kernel_rfl) (by simp) ?_
      refine AllReadyH.cons (o := { dst := some 242, op := Op.call { callee := Callee.value (Operand.func 12), args := #[Operand.tmp 241], argTypes := #[33] }, type := 34, pos := "outright.go:202", after := #[{ on := 12, ground := Ground.data }, { on := 11, ground := Ground.chain }, { on := 11, ground := Ground.guard }], guard := some (11, false) }) rfl (fun K hK => ?_) AllReadyH.nil
      rw [if_pos (by rfl)]
      go_simp
      refine (HPI.out _ a2 c2 ((HO.out.later B36).lst lenInt).1).mono ?_
      rintro e w37 ⟨v37, rfl, h37⟩
      obtain ⟨a37, c37, rfl, -, hB37⟩ := h37.form
      have B37 : Below w33.heap.size w33 w37 := below_up B36 h37.2
      have hs37 := run_strL c37 hB37
      refine hK.out _ _ (HCV.out _ B37) (fun hHeld4 => ?_)
      clear hK K hHeld3
      try simp only [Act.put, List.setIfInBounds_toArray, List.set_cons_zero, List.set_cons_succ]
      refine wpAnyH_ready (rs := [14]) (by kernel_rfl) (by simp) ?_
      refine AllReadyH.cons (o := { dst := some 243, op := Op.convert 34 9 (Operand.tmp 242), type := 9, pos := "outright.go:202", after := #[{ on := 13, ground := Ground.data }, { on := 11, ground := Ground.guard }], guard := some (11, false) }) rfl (fun K hK => ?_) AllReadyH.nil
      rw [if_pos (by rfl)]
      go_simp
      refine hK.out _ _ (HCV.out _ B37) (fun hHeld5 => ?_)
      clear hK K hHeld4
      try simp only [Act.put, List.setIfInBounds_toArray, List.set_cons_zero, List.set_cons_succ]
      refine wpAnyH_take (i := 17) (oi := { dst := some 246, op := Op.binOp BinOp.neq 9 (Operand.tmp 243) (Operand.tmp 245) 9, type := 4, pos := "outright.go:202", after := #[{ on := 14, ground := Ground.data }, { on := 16, ground := Ground.data }, { on := 11, ground := Ground.guard }], guard := some (11, false) }) (v := ?_) rfl (by kernel_rfl) (by kernel_rfl) (by kernel_rfl) (fun _ _ _ h => h) (Or.inl ⟨by rfl, ?_⟩) (by assumption) ?_
      rotate_left
      · intro W hSw
        try dsimp only at hSw
        go_simp
        try with_reducible rfl
      try simp only [Act.put, List.setIfInBounds_toArray, List.set_cons_zero, List.set_cons_succ]
      refine wpAnyH_take (i := 18) (oi := { dst := some 247, op := Op.pick (Operand.tmp 240) (Operand.const (Value.bool true)) (Operand.tmp 246), type := 4, pos := "outright.go:202", after := #[{ on := 11, ground := Ground.data }, { on := 17, ground := Ground.data }], guard := none }) (v := ?_) rfl (by kernel_rfl) (by kernel_rfl) (by kernel_rfl) (fun _ _ _ h => h) (Or.inl ⟨by rfl, ?_⟩) (by assumption) ?_
      rotate_left
      · intro W hSw
        try dsimp only at hSw
        go_simp
        try with_reducible rfl
      try simp only [Act.put, List.setIfInBounds_toArray, List.set_cons_zero, List.set_cons_succ]
      refine wpAnyH_take (i := 19) (oi := { dst := some 248, op := Op.move (Operand.tmp 247), type := 4, pos := "outright.go:202", after := #[{ on := 18, ground := Ground.data }, { on := 13, ground := Ground.chain }], guard := none }) (v := ?_) rfl (by kernel_rfl) (by kernel_rfl) (by kernel_rfl) (fun _ _ _ h => h) (Or.inl ⟨by rfl, ?_⟩) (by assumption) ?_
      rotate_left
      · intro W hSw
        try dsimp only at hSw
        go_simp
        try with_reducible rfl
      try simp only [Act.put, List.setIfInBounds_toArray, List.set_cons_zero, List.set_cons_succ]
      refine wpAnyH_take (i := 20) (oi := { dst := some 249, op := Op.move (Operand.tmp 1), type := 22, pos := "outright.go:202", after := #[{ on := 19, ground := Ground.guard }], guard := some (19, false) }) (v := ?_) rfl (by kernel_rfl) (by kernel_rfl) (by kernel_rfl) (fun _ _ _ h => h) (Or.inl ⟨by rfl, ?_⟩) (by assumption) ?_
      rotate_left
      · intro W hSw
        try dsimp only at hSw
        go_simp
        try with_reducible rfl
      try simp only [Act.put, List.setIfInBounds_toArray, List.set_cons_zero, List.set_cons_succ]
      refine wpAnyH_take (i := 23) (oi := { dst := some 252, op := Op.move (Operand.tmp 23), type := 9, pos := "outright.go:202", after := #[{ on := 19, ground := Ground.guard }], guard := some (19, false) }) (v := ?_) rfl (by kernel_rfl) (by kernel_rfl) (by kernel_rfl) (fun _ _ _ h => h) (Or.inl ⟨by rfl, ?_⟩) (by assumption) ?_
      rotate_left
      · intro W hSw
        try dsimp only at hSw
        go_simp
        try with_reducible rfl
      try simp only [Act.put, List.setIfInBounds_toArray, List.set_cons_zero, List.set_cons_succ]
      refine wpAnyH_ready (rs := [21]) (by kernel_rfl) (by simp) ?_
      refine AllReadyH.cons (o := { dst := some 250, op := Op.call { callee := Callee.value (Operand.func 13), args := #[Operand.tmp 249], argTypes := #[22] }, type := 34, pos := "outright.go:202", after := #[{ on := 20, ground := Ground.data }, { on := 19, ground := Ground.chain }, { on := 19, ground := Ground.guard }], guard := some (19, false) }) rfl (fun K hK => ?_) AllReadyH.nil
      rw [if_pos (by rfl)]
      go_simp
      refine (HPS.out _ a1 c1 (HT.out.later B37)).mono ?_
      rintro e w38 ⟨v38, rfl, h38⟩
      obtain ⟨a38, c38, rfl, -, hB38⟩ := h38.form
      have B38 : Below w33.heap.size w33 w38 := below_up B37 h38.2
      have hs38 := run_strL c38 hB38
      refine hK.out _ _ (HCV.out _ B38) (fun hHeld6 => ?_)
      clear hK K hHeld5
      try simp only [Act.put, List.setIfInBounds_toArray, List.set_cons_zero, List.set_cons_succ]
      refine wpAnyH_ready (rs := [22]) (by kernel_rfl) (by simp) ?_
      refine AllReadyH.cons (o := { dst := some 251, op := Op.convert 34 9 (Operand.tmp 250), type := 9, pos := "outright.go:202", after := #[{ on := 21, ground := Ground.data }, { on := 19, ground := Ground.guard }], guard := some (19, false) }) rfl (fun K hK => ?_) AllReadyH.nil
      rw [if_pos (by rfl)]
      go_simp
      refine hK.out _ _ (HCV.out _ B38) (fun hHeld7 => ?_)
      clear hK K hHeld6
      try simp only [Act.put, List.setIfInBounds_toArray, List.set_cons_zero, List.set_cons_succ]
      refine wpAnyH_take (i := 24) (oi := { dst := some 253, op := Op.binOp BinOp.neq 9 (Operand.tmp 251) (Operand.tmp 252) 9, type := 4, pos := "outright.go:202", after := #[{ on := 22, ground := Ground.data }, { on := 23, ground := Ground.data }, { on := 19, ground := Ground.guard }], guard := some (19, false) }) (v := ?_) rfl (by kernel_rfl) (by kernel_rfl) (by kernel_rfl) (fun _ _ _ h => h) (Or.inl ⟨by rfl, ?_⟩) (by assumption) ?_
      rotate_left
      · intro W hSw
        try dsimp only at hSw
        go_simp
        try with_reducible rfl
      try simp only [Act.put, List.setIfInBounds_toArray, List.set_cons_zero, List.set_cons_succ]
      refine wpAnyH_take (i := 25) (oi := { dst := some 254, op := Op.pick (Operand.tmp 248) (Operand.const (Value.bool true)) (Operand.tmp 253), type := 4, pos := "outright.go:202", after := #[{ on := 19, ground := Ground.data }, { on := 24, ground := Ground.data }], guard := none }) (v := ?_) rfl (by kernel_rfl) (by kernel_rfl) (by kernel_rfl) (fun _ _ _ h => h) (Or.inl ⟨by rfl, ?_⟩) (by assumption) ?_
      rotate_left
      · intro W hSw
        try dsimp only at hSw
        go_simp
        try with_reducible rfl
      try simp only [Act.put, List.setIfInBounds_toArray, List.set_cons_zero, List.set_cons_succ]
      refine wpAnyH_done (by kernel_rfl) ?_ _
      refine NoPanic.normal ?_
      clear hHeld7
      have HB := hid (below_up HB.out B38)
      have P12 := hid (P12.out.later B38)
      have P9 := hid (P9.out.later B38)
      clear HCV v1 B34 O35 b35 hL35 B35 B36 h37 hB37 B37 hs37 h38 hB38 B38 hs38 HO HX HT
      go_wp2_with fail
      refine (HRI.out w38 a9 c9 (P9.out.lst lenByte).2 (bytes_lst (P9.out.lst lenByte).1)).mono ?_
      rintro e w39 ⟨v39, rfl, O39, B39⟩
      obtain ⟨a39, c39, rfl, -, -, -, hL39, -⟩ := O39.form lenRunI
      have HB := hid (below_up HB.out B39)
      have P12 := hid (P12.out.later B39)
      have P9 := hid (P9.out.later B39)
      have P39 := hid O39
      clear O39 B39 hL39
      go_wp2_with fail
      have hC := sameRunI a39 a12 F F c39 c12 w39 (P39.out.lst lenRunI).1 (P12.out.lst lenRunI).1 (by omega) (by omega)
      rw [decide_eq_true rfl] at hC
      refine hC.mono ?_
      rintro e w40 ⟨rfl, j40, hw40⟩
      have B40 : Below w39.heap.size w39 w40 := by rw [hw40]; exact below_drewN (Below.refl _ w39) j40
      have HB := hid (below_up HB.out B40)
      have P12 := hid (P12.out.later B40)
      have P9 := hid (P9.out.later B40)
      have P39 := hid (P39.out.later B40)
      clear hC hw40 B40
      go_wp2_with fail
      go_ret
      exact ⟨rfl, HB.out⟩
end Go.Proofs.Ytokcmioipdennaa

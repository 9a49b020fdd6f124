/-
  The walk of BloomBuilds.
-/
import Derived.Test.YthgbneadmnhhlaaMKept
import Derived.Test.YthgbneadmnhhlaaRBuild
import Derived.Test.YthgbneadmnhhlaaMArgs
namespace Go.Proofs.Ythgbneadmnhhlaa
open Go.ChangeShapes Go.WideShapes Go.ChangeAt Go.RowKit Crc Cu Vl
attribute [local go_sem] run_store_float

/-- What a turn makes of a value. -/
def nxV (v : V) : V := if v.K = 1 then ⟨v.K, IntKind.i64.wrap (v.I + 1), v.b, v.s⟩ else if v.K = 2 then ⟨v.K, v.I, v.b, v.s ++ ⟨#[46]⟩⟩ else v
def midV (l : List V) (i : Nat) : List V := (l.take i).map nxV ++ l.drop i
theorem midV_len (l : List V) (i : Nat) : (midV l i).length = l.length := by simp [midV]; omega
theorem midV_zero (l : List V) : midV l 0 = l := by simp [midV]
theorem midV_all (l : List V) : midV l l.length = l.map nxV := by simp [midV]
theorem midV_at {l : List V} {i : Nat} (hi : i < l.length) : (midV l i)[i]? = some l[i] := by
  unfold midV
  rw [List.getElem?_append_right (by simp; omega)]
  simp only [List.length_map, List.length_take, Nat.min_eq_left (Nat.le_of_lt hi), Nat.sub_self]
  rw [List.getElem?_drop, Nat.add_zero, List.getElem?_eq_getElem hi]
theorem midV_step {l : List V} {i : Nat} (hi : i < l.length) : (midV l i).set i (nxV l[i]) = midV l (i + 1) := by
  unfold midV
  have hlt : ((l.take i).map nxV).length = i := by simp; omega
  rw [List.set_append_right _ _ (by omega), hlt, Nat.sub_self, List.drop_eq_getElem_cons hi, List.set_cons_zero, List.take_add_one, List.getElem?_eq_getElem hi, List.map_append, List.append_assoc]
  rfl
theorem midV_same {l : List V} {i : Nat} (hi : i < l.length) (h : nxV l[i] = l[i]) : midV l (i + 1) = midV l i := by
  rw [← midV_step hi, h]
  apply List.ext_getElem?
  intro j
  by_cases e : i = j
  · subst e; rw [List.getElem?_set_self (by rw [midV_len]; exact hi), midV_at hi]
  · rw [List.getElem?_set_ne e]
/-- Values as they are in turn t. -/
structure VT (t : Nat) (v : V) : Prop where
  k : In64 v.K
  i : In64 v.I
  b : v.b < 18446744073709551616
  s : v.s.size ≤ 140737488351232 + t
theorem VT.ok {t : Nat} {v : V} (h : VT t v) (ht : t ≤ 1000) : VOk v := ⟨h.k, h.i, h.b, by have := h.s; omega⟩
theorem in64_wrap (x : Int) : In64 (IntKind.i64.wrap x) := by
  rw [IntKind.wrap_i64]
  constructor <;> omega
theorem VT.next {t : Nat} {v : V} (h : VT t v) : VT (t + 1) (nxV v) := by
  unfold nxV
  split
  · exact ⟨h.k, in64_wrap _, h.b, by have := h.s; show v.s.size ≤ _; omega⟩
  · split
    · refine ⟨h.k, h.i, h.b, ?_⟩
      have := h.s
      show (v.s ++ (⟨#[46]⟩ : ByteArray)).size ≤ _
      rw [ByteArray.size_append]
      show v.s.size + 1 ≤ _
      omega
    · exact ⟨h.k, h.i, h.b, by have := h.s; omega⟩
set_option maxRecDepth 4000 in
set_option maxHeartbeats 8000000 in
theorem walk_bloomBuilds (w : World) (z : Int) (a1 : Option Addr) (n1 c1 : Nat) (l1 : List V) (hz : -9223372036854775808 ≤ z ∧ z ≤ 9223372036854775807) (h1 : VArgL w a1 n1 c1 l1) (hs1 : ∀ v ∈ l1, v.s.size ≤ 140737488351232) :
    Calls Try.prog 3 #[.int .i64 z, .slice a1 n1 c1] w fun e w' => e = .returned (.bool true) ∧ Below w.heap.size w w' := by
  obtain ⟨rfl, hl1, ho1, hz1, hle1, hsm1⟩ := h1
  have hn40 : l1.length * 40 ≤ 140737488351232 := Nat.le_trans (Nat.mul_le_mul_right 40 hle1) hsm1
  have HLe := hid (lentV_any a1 l1 c1 w hl1 hz1 hn40)
  have HT0 : Hid (∀ v ∈ l1, VT 0 v) := fun v hv => ⟨(ho1 v hv).k, (ho1 v hv).i, (ho1 v hv).b, by have := hs1 v hv; omega⟩
  obtain ⟨n, hn⟩ : ∃ n, l1.length = n := ⟨_, rfl⟩
  have HN0 := hid hn
  rw [hn] at HLe hn40
  rw [hn]
  clear ho1 hz1 hle1 hsm1 hl1 hs1 hn
  go_enter Try.func3, Try.ntmps3
  go_wp2_with fail
  refine HLe.out.mono ?_
  rintro e w1 ⟨b, c, rfl, hLV, hb1⟩
  have X1 := hid hLV
  have B1 := hid hb1
  have HBb := hid hLV.le.1
  clear hLV hb1 HLe
  go_wp2_with fail
  go_loopw [6] (fun tx ws => ∃ (t : Nat) (l : List V), t ≤ 3 ∧ tx = .int .i64 t ∧ Hid (LV ws w.heap.size b c l) ∧ Hid (l.length = n) ∧ Hid (∀ v ∈ l, VT t v) ∧ Hid (Below w.heap.size w ws)) (fun tx _ => 3 - (intOf tx).toNat)
  case atStart => exact ⟨0, l1, by omega, rfl, X1, HN0, HT0, B1⟩
  case round =>
    clear X1 HN0 HT0 B1
    obtain ⟨t, l, ht, rfl, X, HN, HT, B⟩ := hrel
    rename World => ws
    by_cases htl : t < 3
    · have hti : (t : Int) < 3 := by omega
      have hok : ∀ v ∈ l, VOk v := fun v hv => (HT.out v hv).ok (by omega)
      obtain ⟨v2, w2, hr2, ho2, hb2⟩ := lst_many vc_len (by decide) vc_one (t := 22) (ty := 22) (c := c) (by0 := 40) Try.underlying22 infoV rfl (OwnL.nil vc 4 ws ws.heap.size 33) X.out.lst (fun e => by cases e) (by simp only [List.length_nil, Nat.zero_add]; rw [HN.out]; omega) (by decide) (Nat.le_refl _)
      rw [List.nil_append] at ho2
      have hB2 := hb2 ws (Below.refl _ _)
      obtain ⟨a3, c3, rfl, -, -, -, hl3, -⟩ := ho2.form vc_len
      have hRB := fun wx hL => refBuild_any z a3 l c3 wx hz hok hL (by have := HN.out; omega)
      have hPB := fun wx hL => build_any z (some ⟨b, 0, none⟩) l c wx hz hok hL (by have := HN.out; omega)
      have hKV := fun wx hL h2 => keptV_any w.heap.size b c l a3 c3 wx hL h2 (by have := HN.out; omega)
      rw [HN.out] at hRB hPB hKV hr2
      have HRB := hid hRB
      have HPB := hid hPB
      have HKV := hid hKV
      have R2 := hid hr2
      have X2 := hid (X.out.later hB2)
      have B2 := hid (below_up B.out hB2)
      have L2 := hid hl3
      have HJl := hid (buildR_len z l)
      generalize buildE z l = E at *
      generalize buildR z l = J at *
      clear hRB hPB hKV hr2 ho2 hb2 hB2 hl3 hok
      go_wp2_with (at_builtin; refine wpList_app (by rfl) (by rfl) R2.out ?_; clear R2)
      refine (HRB.out _ L2.out).mono ?_
      rintro e w3 ⟨v3, rfl, hN3⟩
      obtain ⟨p3, e3, rfl, -⟩ := hN3.1.form
      have X3 := hid (X2.out.later hN3.2)
      have B3 := hid (below_up B2.out hN3.2)
      have L3 := hid (L2.out.later hN3.2)
      have D3 := hid (show Bytes w3 p3 J from hN3.1.nums)
      clear hN3 X2 B2 L2 HRB
      go_wp2_with fail
      refine (HPB.out _ X3.out.lst).mono ?_
      rintro e w4 ⟨v4, rfl, hN4⟩
      obtain ⟨p4, e4, rfl, -⟩ := hN4.1.form
      have X4 := hid (X3.out.later hN4.2)
      have B4 := hid (below_up B3.out hN4.2)
      have L4 := hid (L3.out.later hN4.2)
      have r1 := run_strL e3 (D3.out.later hN4.2)
      have r2 := run_strL e4 (show Bytes w4 p4 J from hN4.1.nums)
      have hee : (E == E) = true := by simp
      have hss : ((strL J).toList == (strL J).toList) = true := by simp
      generalize strL J = S at *
      clear hN4 X3 B3 L3 D3 HPB
      go_wp2_with fail
      refine (HKV.out _ X4.out L4.out).mono ?_
      rintro e w5 ⟨rfl, hb5⟩
      have X5 := hid (X4.out.later hb5)
      have B5 := hid (below_up B4.out hb5)
      clear hb5 X4 B4 L4 HKV r1 r2 X B
      go_wp2_with fail
      go_loopw [12] (fun ix wx => ∃ i : Nat, i ≤ n ∧ ix = .int .i64 i ∧ Hid (LV wx w.heap.size b c (midV l i)) ∧ Hid (Below w.heap.size w wx)) (fun ix _ => n - (intOf ix).toNat)
      case atStart => exact ⟨0, Nat.zero_le _, rfl, by rw [midV_zero]; exact X5, B5⟩
      case round =>
        clear X5 B5
        obtain ⟨i, hi, rfl, X, B⟩ := hrel
        rename World => wx
        by_cases hlt : i < n
        · have hii : (i : Int) < (n : Int) := by omega
          have hil : i < l.length := by rw [HN.out]; exact hlt
          have hat := midV_at hil
          have hst := midV_step hil
          have hsm := midV_same hil
          have hVT := HT.out l[i] (List.getElem_mem hil)
          obtain ⟨g, o, ea, _, hc⟩ := X.out.lst _ _ hat
          cases ea
          have k0 := hc 0 _ rfl
          have k1 := hc 1 _ rfl
          have k3 := hc 3 _ rfl
          rw [Nat.zero_add] at k0 k1 k3
          rw [Nat.add_zero] at k0
          have hsz := hVT.s
          clear hc hVT
          generalize l[i] = v at *
          obtain ⟨K, I, bb, s⟩ := v
          dsimp only at *
          by_cases hk1 : K = 1
          · subst hk1
            obtain ⟨hfz, hX2⟩ := X.out.set hat (i := 1) (by omega) (.int .i64 (IntKind.i64.wrap (I + 1))) (nxV ⟨1, I, bb, s⟩) rfl
            rw [hst] at hX2
            have X2 := hid hX2
            clear hX2 hat hst hsm X
            go_wp2_with fail
            exact ⟨⟨i + 1, by omega, by go_num, (by have h := X2.out; rw [Go.IntWalk.i64_left] at h; exact h), B.out.setCell (p := ⟨b, i * 4 + 1, none⟩) HBb.out _⟩, by simp [intOf]; omega⟩
          · by_cases hk2 : K = 2
            · subst hk2
              obtain ⟨hfz, hX2⟩ := X.out.set hat (i := 3) (by omega) (.string (s ++ ⟨#[46]⟩)) (nxV ⟨2, I, bb, s⟩) rfl
              rw [hst] at hX2
              have X2 := hid hX2
              have hcat : ¬ 9223372036854775807 < s.size + 1 := by omega
              clear hX2 hat hst hsm X
              go_wp2_with fail
              exact ⟨⟨i + 1, by omega, by go_num, X2, B.out.setCell (p := ⟨b, i * 4 + 3, none⟩) HBb.out _⟩, by simp [intOf]; omega⟩
            · have hd1 : (K == 1) = false := by simpa using hk1
              have hd2 : (K == 2) = false := by simpa using hk2
              have X2 : Hid (LV wx w.heap.size b c (midV l (i + 1))) := by
                rw [hsm (by unfold nxV; simp [hk1, hk2])]
                exact X
              clear hat hst hsm X hk1 hk2
              go_wp2_with fail
              exact ⟨⟨i + 1, by omega, by go_num, X2, B⟩, by simp [intOf]; omega⟩
        · obtain rfl : i = n := by omega
          have X9 : Hid (LV wx w.heap.size b c (l.map nxV)) := by rw [← midV_all, HN.out]; exact X
          have T9 : Hid (∀ v ∈ l.map nxV, VT (t + 1) v) := fun v hv => by
            obtain ⟨u, hu, rfl⟩ := List.mem_map.1 hv
            exact (HT.out u hu).next
          have N9 : Hid ((l.map nxV).length = i) := by show _ = _; rw [List.length_map]; exact HN.out
          clear X
          go_wp2_with fail
          exact ⟨⟨t + 1, _, by omega, by go_num, X9, N9, T9, B⟩, by simp [intOf]; omega⟩
    · obtain rfl : t = 3 := by omega
      go_wp2_with fail
      go_ret
      exact ⟨rfl, B.out⟩
end Go.Proofs.Ythgbneadmnhhlaa

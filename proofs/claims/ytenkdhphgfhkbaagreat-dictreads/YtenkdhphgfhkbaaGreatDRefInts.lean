/-
  The document's Ints: the reader of a dictionary of numbers, of any bytes.
-/
import Derived.Test.YtenkdhphgfhkbaaGreatDRefRead
import Derived.Deep.RegionHeld3
namespace Go.Proofs.YtenkdhphgfhkbaaGreat
open Go.ChangeShapes Go.WideShapes Go.ChangeAt Go.RowKit Cu

theorem oper_appE {a : Act} {w : World} {K : Act → World → Prop} {Q : Exit → Act → World → Prop} {d : Option Nat} {s x : Operand} {t ty : TypeId} {pos : String} {aft : Array Edge} {gd : Option (Nat × Bool)}
    {v u : Value} {P : Value → World → Prop} (hs : a.eval s = v) (hx : a.eval x = u)
    (hr : ∃ v' w', (Builtin.append_ #[t, t] ty #[v, u]).run Tryz.prog w = .ok v' w' ∧ P v' w') (h : ∀ v' w', P v' w' → K (a.put d v') w') :
    Oper.wp Tryz.prog { dst := d, op := .call { callee := .builtin .append, args := #[s, x], argTypes := #[t, t] }, type := ty, pos := pos, after := aft, guard := gd } a w K Q := by
  obtain ⟨v', w', hr, hp⟩ := hr
  unfold Oper.wp execOp
  simp only [resolve, invoke, builtin, Sem.run_bind, Sem.run_pure, Result.andThen_ok, List.map_toArray, List.map_cons, List.map_nil, hs, hx, hr]
  exact h _ _ hp
theorem key_next {l : List Nat} {k i : Nat} (hi : i < k) : (Cu.decI l k).take i ++ [toi (numAt 8 l i)] = (Cu.decI l k).take (i + 1) := by
  rw [List.take_add_one, decI_get hi]; rfl
/-- A key by its two halves. -/
theorem key_halves {b : List Nat} {p i : Nat} (h : p + 8 * i + 8 ≤ b.length) : four' (b.drop (p + 8 * i)) + 4294967296 * four' (b.drop (p + 8 * i + 4)) = numAt 8 (b.drop p) i := by
  unfold numAt
  rw [List.drop_drop, unfx_eight (by rw [List.length_drop]; omega)]
  unfold four'
  simp only [ofL_drop]
/-- Bytes from a place on. -/
theorem bytes_from {w : World} {g o : Nat} {l : List Nat} (h : Bytes w (some ⟨g, o, none⟩) l) {t : Nat} (ht : t ≤ l.length) : Bytes w (some ⟨g, o + t, none⟩) (l.drop t) := by
  have := bytes_sub h (t := t) (n := l.length - t) (by omega)
  rwa [List.take_of_length_le (by rw [List.length_drop]; omega)] at this
theorem str_beq (s t : ByteArray) : (s.toList == t.toList) = decide (s = t) := by
  rw [Bool.eq_iff_iff]
  simp only [beq_iff_eq, decide_eq_true_eq]
  constructor
  · intro h
    rw [Go.ByteArray.toList_eq, Go.ByteArray.toList_eq] at h
    exact ByteArray.ext (Array.toList_inj.1 h)
  · intro h; rw [h]
theorem back_next {n k : Nat} {KB CB : List Nat} {i : Nat} (hi : i < n) : (backD n k KB CB).take i ++ [(Cu.decI KB k).getD (lnC CB (wd k) i) 0] = (backD n k KB CB).take (i + 1) := by
  rw [List.take_add_one]
  congr 1
  unfold backD
  rw [List.getElem?_map, List.getElem?_range hi]
  rfl
set_option maxRecDepth 8000 in
set_option maxHeartbeats 4000000 in
theorem rInts9_any (a : Option Addr) (b : List Nat) (c n : Nat) (w : World) (hA : Bytes w a b) (ha : a = none → b.length = 0 ∧ c = 0) (hlt : ∀ x ∈ b, x < 256) (hl : b.length ≤ 140737488351232) (hc1 : b.length ≤ c) (hc2 : c ≤ 140737488351232) (hn : n ≤ 65536) :
    Calls Tryz.prog 6 #[.slice a b.length c, .int .i64 (n : Int)] w fun e w' => ReadG b n w e w' := by
  have HCT := hid (count9_any (n : Int) w)
  rw [if_neg (by omega), if_neg (by omega)] at HCT
  have HNM := hid (number9_any a b c w hA hlt (by omega))
  have HA := hid hA
  have HLT := hid hlt
  clear hA hlt
  go_enter Tryz.func6, Tryz.ntmps6
  go_wp2_with fail
  refine HCT.out.mono ?_
  rintro e w1 ⟨rfl, hw1⟩
  subst w1
  go_wp2_with fail
  refine HNM.out.mono ?_
  rintro e w1 ⟨k, p, rfl, hN, hw1⟩
  subst w1
  have HN := hid hN
  have hp3 := hN.1
  have hpl := hN.2.1
  have hkv := hN.2.2.1
  clear HCT HNM hN
  by_cases hbad : p = 0 ∨ 65536 < k ∨ (b.length : Int) - (p : Int) < 8 * (k : Int)
  · have HNG : Hid (∀ k' KB CB, ¬ Good b n k' KB CB) := fun k' KB CB h => by
      have hf := h.few
      obtain ⟨e1, e2, e3, _, _⟩ := good_num h HN.out
      subst e1
      omega
    rcases hbad with rfl | hbad | hbad
    · go_wp2_with fail
      refine bodyPost_ret (v := .tuple #[.slice none 0 0, .int .i64 0, .slice none 0 0, .int .i64 90]) (by simp [results, Tryz.results6, go_sem]) rfl ?_
      exact ⟨Below.refl _ _, .inl ⟨rfl, HNG.out⟩⟩
    · have hki : (65536 : Int) < (k : Int) := by omega
      by_cases hp0 : p = 0
      · subst hp0
        go_wp2_with fail
        refine bodyPost_ret (v := .tuple #[.slice none 0 0, .int .i64 0, .slice none 0 0, .int .i64 90]) (by simp [results, Tryz.results6, go_sem]) rfl ?_
        exact ⟨Below.refl _ _, .inl ⟨rfl, HNG.out⟩⟩
      · have hpi : ((p : Int) = 0) = False := by simp; omega
        have hpb : ((p : Int) == 0) = false := by simp; omega
        clear hp0
        go_wp2_with fail
        refine bodyPost_ret (v := .tuple #[.slice none 0 0, .int .i64 0, .slice none 0 0, .int .i64 90]) (by simp [results, Tryz.results6, go_sem]) rfl ?_
        exact ⟨Below.refl _ _, .inl ⟨rfl, HNG.out⟩⟩
    · by_cases hp0 : p = 0
      · subst hp0
        go_wp2_with fail
        refine bodyPost_ret (v := .tuple #[.slice none 0 0, .int .i64 0, .slice none 0 0, .int .i64 90]) (by simp [results, Tryz.results6, go_sem]) rfl ?_
        exact ⟨Below.refl _ _, .inl ⟨rfl, HNG.out⟩⟩
      · have hpb : ((p : Int) == 0) = false := by simp; omega
        clear hp0
        by_cases hk0 : 65536 < k
        · have hki : (65536 : Int) < (k : Int) := by omega
          go_wp2_with fail
          refine bodyPost_ret (v := .tuple #[.slice none 0 0, .int .i64 0, .slice none 0 0, .int .i64 90]) (by simp [results, Tryz.results6, go_sem]) rfl ?_
          exact ⟨Below.refl _ _, .inl ⟨rfl, HNG.out⟩⟩
        · have hki : ¬ (65536 : Int) < (k : Int) := by omega
          go_wp2_with fail
          refine bodyPost_ret (v := .tuple #[.slice none 0 0, .int .i64 0, .slice none 0 0, .int .i64 90]) (by simp [results, Tryz.results6, go_sem]) rfl ?_
          exact ⟨Below.refl _ _, .inl ⟨rfl, HNG.out⟩⟩
  · have hp0 : 1 ≤ p := by omega
    have hpb : ((p : Int) == 0) = false := by simp; omega
    have hk6 : k ≤ 65536 := by omega
    have hki : ¬ (65536 : Int) < (k : Int) := by omega
    have hbl : p + 8 * k ≤ b.length := by omega
    have hbi : ¬ (b.length : Int) - (p : Int) < 8 * (k : Int) := by omega
    have hkd : decide ((65536 : Int) < (k : Int)) = false := by simpa using hki
    have hbd : decide ((b.length : Int) - (p : Int) < 8 * (k : Int)) = false := by simpa using hbi
    clear hbad
    obtain ⟨g, o, rfl, -, -⟩ := bytes_cell HA.out (show 0 < b.length by omega)
    go_wp2_with fail
    go_loopw [11, 12] (fun x y wr => ∃ i : Nat, i ≤ k ∧ y = .int .i64 (i : Int) ∧ Hid (OwnI wr w.heap.size x ((Cu.decI (b.drop p) k).take i) ∧ Below w.heap.size w wr)) (fun _ y _ => k - (intOf y).toNat)
    case atStart => exact ⟨0, Nat.zero_le _, rfl, OwnI.nil _ _, Below.refl _ _⟩
    case round =>
      obtain ⟨i, hi, rfl, HO⟩ := hrel
      by_cases hlt2 : i < k
      · have hii : (i : Int) < (k : Int) := by omega
        obtain ⟨t, ht⟩ : ∃ t, p + 8 * i = t := ⟨_, rfl⟩
        have ht2 : (p : Int) + 8 * (i : Int) = (t : Int) := by omega
        have htl : t + 8 ≤ b.length := by omega
        have hAr := HA.out.later HO.out.2
        have HF1 : Hid (∀ j, Calls Tryz.prog 17 #[.slice (some ⟨g, o + t, none⟩) (b.length - t) (c - t)] (wr.drewN j) fun e w' => e = .returned (.int .i64 (four' (b.drop t) : Int)) ∧ ∃ j', w' = (wr.drewN j).drewN j') := fun j => by
          have := four9_any (some ⟨g, o + t, none⟩) (b.drop t) (c - t) (wr.drewN j) (bytes_from hAr (by omega)) (fun x hx => HLT.out x (List.mem_of_mem_drop hx)) (by rw [List.length_drop]; omega) (by rw [List.length_drop]; omega)
          rwa [List.length_drop] at this
        have HF2 : Hid (∀ j, Calls Tryz.prog 17 #[.slice (some ⟨g, o + t + 4, none⟩) (b.length - t - 4) (c - t - 4)] (wr.drewN j) fun e w' => e = .returned (.int .i64 (four' (b.drop (t + 4)) : Int)) ∧ ∃ j', w' = (wr.drewN j).drewN j') := fun j => by
          have := four9_any (some ⟨g, o + t + 4, none⟩) (b.drop (t + 4)) (c - t - 4) (wr.drewN j) (by have := bytes_from hAr (show t + 4 ≤ b.length by omega); rwa [← Nat.add_assoc] at this) (fun x hx => HLT.out x (List.mem_of_mem_drop hx)) (by rw [List.length_drop]; omega) (by rw [List.length_drop]; omega)
          rwa [List.length_drop, Nat.sub_add_eq] at this
        have hf1 := four_lt (l := b.drop t) (fun x hx => HLT.out x (List.mem_of_mem_drop hx))
        have hf2 := four_lt (l := b.drop (t + 4)) (fun x hx => HLT.out x (List.mem_of_mem_drop hx))
        have hkh := key_halves (i := i) (show p + 8 * i + 8 ≤ b.length by omega)
        rw [ht] at hkh
        generalize hq1 : four' (b.drop t) = f1 at *
        generalize hq2 : four' (b.drop (t + 4)) = f2 at *
        have hu : numAt 8 (b.drop p) i < 18446744073709551616 := by omega
        have HKN := hid (key_next (l := b.drop p) hlt2)
        have hw1 : IntKind.u64.wrap (f1 : Int) = (f1 : Int) := Pk.u64_left _ (by omega) (by omega)
        have hw2 : IntKind.u64.wrap (f2 : Int) = (f2 : Int) := Pk.u64_left _ (by omega) (by omega)
        have hw3 : IntKind.u64.wrap ((f2 : Int) * 4294967296) = ((f2 * 4294967296 : Nat) : Int) := by rw [Pk.u64_left _ (by omega) (by omega)]; omega
        have hor : bits BinOp.or IntKind.u64 (f1 : Int) ((f2 * 4294967296 : Nat) : Int) = (numAt 8 (b.drop p) i : Int) := by
          rw [u64_or_nat _ _ (by omega) (by omega), or_add _ _ hf1, hkh]
        have hto := toi_wrap hu
        have hto2 : IntKind.i64.wrap (numAt 8 (b.drop p) i : Int) = toi (numAt 8 (b.drop p) i) := by rw [IntKind.wrap_i64]; unfold toi; split <;> omega
        generalize toi (numAt 8 (b.drop p) i) = z at *
        generalize numAt 8 (b.drop p) i = u at *
        obtain ⟨f3, hf3⟩ : ∃ f3, f2 * 4294967296 = f3 := ⟨_, rfl⟩
        rw [hf3] at hw3 hor
        have HAP : Hid (∀ j, ∃ v' w', (Builtin.append_ #[25, 25] 25 #[u11, .slice (some ⟨wr.heap.size, 0, none⟩) 1 1]).run Tryz.prog ((wr.drewN j).alloc (.cells #[.int .i64 z] 2)) = .ok v' w' ∧ OwnI w' w.heap.size v' ((Cu.decI (b.drop p) k).take (i + 1)) ∧ Below w.heap.size w w') := fun j => by
          have hDl : ((Cu.decI (b.drop p) k).take i).length ≤ 65536 := by rw [List.length_take]; omega
          obtain ⟨v2, w2', hr2, o2, b2⟩ := run_oneI (w := wr.drewN j) (show OwnI (wr.drewN j) w.heap.size u11 ((Cu.decI (b.drop p) k).take i) from HO.out.1) (by omega) (show w.heap.size ≤ (wr.drewN j).heap.size from HO.out.2.size) z
          rw [HKN.out] at o2
          exact ⟨v2, w2', hr2, o2, (below_drewN HO.out.2 j).trans b2⟩
        obtain ⟨m, hm⟩ : ∃ m, b.length - t = m := ⟨_, rfl⟩
        obtain ⟨cm, hcm⟩ : ∃ cm, c - t = cm := ⟨_, rfl⟩
        obtain ⟨ot, hot⟩ : ∃ ot, o + t = ot := ⟨_, rfl⟩
        rw [hm, hcm, hot] at HF1 HF2
        have hm8 : 8 ≤ m := by omega
        have hmc : m ≤ cm := by omega
        have hm4 : (4 : Int) ≤ (m : Int) := by omega
        have hcm2 : cm ≤ 140737488351232 := by omega
        have HB0 := hid HO.out.2
        have HSZ := hid HO.out.2.size
        clear HO hAr hkh hq1 hq2 HKN hf3 hu ht
        go_wp2_with fail
        clear hm hcm hot
        go_region_held3 (fun Wx => Below w.heap.size w Wx) (first | exact b6 | exact below_drewN HB0.out _ | exact (below_drewN HB0.out _).alloc HSZ.out _ | exact Below.drew HB0.out) (first
          | (go_at_call_of 17 (Value.slice (some ⟨g, ot, none⟩) m cm); refine (HF1.out _).mono ?_; rintro e w4 ⟨rfl, j4, rfl⟩)
          | (go_at_call 17; refine (HF2.out _).mono ?_; rintro e w5 ⟨rfl, j5, rfl⟩)
          | (rw [if_pos (by rfl)]; refine oper_appE (by rfl) (by rfl) (HAP.out _) ?_; rintro v6 w6 ⟨o6, b6⟩; have HO6 : Hid (OwnI w6 w.heap.size v6 ((Cu.decI (b.drop p) k).take (i + 1)) ∧ Below w.heap.size w w6) := ⟨o6, b6⟩; clear o6))
        go_wp2_with fail
        exact ⟨⟨i + 1, by omega, by go_num, HO6⟩, by simp [intOf]; omega⟩
      · obtain rfl : i = k := by omega
        have hii : ¬ (i : Int) < (i : Int) := by omega
        have hkl : (Cu.decI (b.drop p) i).length = i := decI_len _ _
        have hOw := HO.out.1
        rw [List.take_of_length_le (by omega)] at hOw
        obtain ⟨a1, c1, hv1, -, -, -, i1⟩ := hOw.form
        rw [hkl] at hv1
        subst hv1
        have I1 := hid i1
        have B1 := hid HO.out.2
        have hAr := HA.out.later HO.out.2
        obtain ⟨t, ht⟩ : ∃ t, p + 8 * i = t := ⟨_, rfl⟩
        have ht2 : (p : Int) + 8 * (i : Int) = (t : Int) := by omega
        have htl : t ≤ b.length := by omega
        have hdl : (b.drop t).length = b.length - t := List.length_drop ..
        have hdlt : ∀ x ∈ b.drop t, x < 256 := fun x hx => HLT.out x (List.mem_of_mem_drop hx)
        have HUS : Hid (Calls Tryz.prog 18 #[.slice (some (if t = c then ⟨g, o, none⟩ else ⟨g, o + t, none⟩)) (b.length - t) (c - t), .int .i64 (i : Int), .int .i64 (n : Int)] wr fun e w' => Below wr.heap.size wr w' ∧ ((e = .returned (.tuple #[.slice none 0 0, .bool false]) ∧ ¬ UsedC i n (b.drop t)) ∨ (UsedC i n (b.drop t) ∧ ∃ v, e = .returned (.tuple #[v, .bool true]) ∧ Pk.Own w' wr.heap.size 40 .u64 v n (lnC (b.drop t) (wd i))))) := by
          show Calls _ _ _ _ _
          by_cases htc : t = c
          · rw [if_pos htc]
            have := used9_any (some ⟨g, o, none⟩) (b.drop t) (c - t) i n wr (fun j hj => by omega) hdlt hk6 (by omega) (by omega)
            rwa [hdl] at this
          · rw [if_neg htc]
            have := used9_any (some ⟨g, o + t, none⟩) (b.drop t) (c - t) i n wr (bytes_from hAr htl) hdlt hk6 (by omega) (by omega)
            rwa [hdl] at this
        have HGN : Hid (∀ k' KB CB, Good b n k' KB CB → k' = i ∧ KB = (b.drop p).take (8 * i) ∧ CB = b.drop t) := fun k' KB CB h => by
          obtain ⟨e1, _, _, e2, e3⟩ := good_num h HN.out
          subst e1
          exact ⟨rfl, e2, by rw [← ht]; exact e3⟩
        have HGU : Hid (∀ k' KB CB, Good b n k' KB CB → UsedC i n (b.drop t)) := fun k' KB CB h => by
          obtain ⟨e1, e2, e3⟩ := HGN.out k' KB CB h
          subst e1 e3
          exact ⟨h.len, h.may.1, h.may.2.1⟩
        clear hOw i1 HO hAr hdl
        have HPN : Hid (∀ x ∈ (b.drop p).take (8 * i), x < 256) := fun x hx => HLT.out x (List.mem_of_mem_drop (List.mem_of_mem_take hx))
        have HPT := hid (fun a c w h => rPut9_any a (backD n i ((b.drop p).take (8 * i)) (b.drop t)) c w h)
        have hDl := backD_len n i ((b.drop p).take (8 * i)) (b.drop t)
        rw [hDl] at HPT
        have HYG : Hid (putE (backD n i ((b.drop p).take (8 * i)) (b.drop t)) = 0 → putR (backD n i ((b.drop p).take (8 * i)) (b.drop t)) = b → Good b n i ((b.drop p).take (8 * i)) (b.drop t)) := by
          show _ → _ → _
          rw [← ht]
          exact fun h1 h2 => good_of_put HLT.out (by omega) HN.out h1 h2
        have HNGD : Hid (¬ (putE (backD n i ((b.drop p).take (8 * i)) (b.drop t)) = 0 ∧ putR (backD n i ((b.drop p).take (8 * i)) (b.drop t)) = b) → ∀ k' KB CB, ¬ Good b n k' KB CB) := fun hno k' KB CB h => by
          obtain ⟨e1, e2, e3⟩ := HGN.out k' KB CB h
          subst e1 e2 e3
          exact hno (good_back h HLT.out (by omega))
        have HBN : Hid (∀ x, x < n → (backD n i ((b.drop p).take (8 * i)) (b.drop t)).take x ++ [(Cu.decI (b.drop p) i).getD (lnC (b.drop t) (wd i) x) 0] = (backD n i ((b.drop p).take (8 * i)) (b.drop t)).take (x + 1)) := fun x hx => by
          have := back_next (n := n) (k := i) (KB := (b.drop p).take (8 * i)) (CB := b.drop t) hx
          rwa [decI_take] at this
        have HRL : Hid (∀ x ∈ putR (backD n i ((b.drop p).take (8 * i)) (b.drop t)), x < 256) := fun x hx => by
          unfold putR at hx
          split at hx
          · cases hx
          · split at hx
            · cases hx
            · exact formD_lt _ (by omega) x hx
        have HDT : Hid (Cu.decI ((b.drop p).take (8 * i)) i = Cu.decI (b.drop p) i) := decI_take _ _
        have hw16 := wd_le16 hk6
        have HWD := hid (fun wx => rWidth9 i wx hk6)
        have HPB : Hid (Good b n i ((b.drop p).take (8 * i)) (b.drop t) → packC (wd i) ((List.range n).map (lnC (b.drop t) (wd i))) = b.drop t) := fun h => packC_back h.len hdlt h.may.1
        have HL6 : Hid (∀ x, lnC (b.drop t) (wd i) x < 18446744073709551616) := fun x => Nat.lt_of_lt_of_le (Pk.laneOf_lt _ _ _) (Nat.pow_le_pow_right (n := 2) (by omega) (show wd i ≤ 64 by omega))
        by_cases htc : t = c
        · rw [if_pos htc] at HUS
          subst htc
          rw [Nat.sub_self, show b.length - t = 0 by omega] at HUS
          go_wp2_with fail
          refine HUS.out.mono ?_
          generalize hKB : (b.drop p).take (8 * i) = KB at *
          generalize hCB : b.drop t = CB at *
          generalize hDD : backD n i KB CB = D at *
          obtain ⟨L, hLL⟩ : ∃ L, lnC CB (wd i) = L := ⟨_, rfl⟩
          have HLQ := hid hLL
          rw [hLL] at HUS HBN HPB HL6 ⊢
          generalize hKK : Cu.decI (b.drop p) i = KK at *
          clear hdlt hKB hCB hDD hLL hKK HGN
          rintro e w2 ⟨b2, hor⟩
          have B2 := hid (below_up B1.out b2)
          have I2 := hid (I1.out.later b2)
          have HA2 := hid (HA.out.later B2.out)
          clear B1 I1 HUS
          rcases hor with ⟨rfl, hnu⟩ | ⟨hU, v2, rfl, o2⟩
          · have HNG : Hid (∀ k' KB CB, ¬ Good b n k' KB CB) := fun k' KB CB h => hnu (HGU.out k' KB CB h)
            clear b2 hnu
            go_wp2_with fail
            refine bodyPost_ret (v := .tuple #[.slice none 0 0, .int .i64 0, .slice none 0 0, .int .i64 90]) (by simp [results, Tryz.results6, go_sem]) rfl ?_
            exact ⟨B2.out, .inl ⟨rfl, HNG.out⟩⟩
          · have hU3 : ∀ x, x < n → L x < i := fun x hx => by rw [← HLQ.out]; exact hU.2.2 x hx
            have HLK := hid hU3
            obtain ⟨a2, c2, rfl, -, -, -⟩ := o2.form
            have N2 := hid o2.nums
            clear b2 o2 HGU hU hU3
            go_wp2_with fail
            go_loopw [16, 17] (fun x y wr => ∃ j : Nat, j ≤ n ∧ y = .int .i64 (j : Int) ∧ Hid (OwnI wr w2.heap.size x (D.take j) ∧ Below w2.heap.size w2 wr)) (fun _ y _ => n - (intOf y).toNat)
            case atStart => exact ⟨0, Nat.zero_le _, rfl, OwnI.nil _ _, Below.refl _ _⟩
            case round =>
              obtain ⟨j, hj, rfl, HO⟩ := hrel
              by_cases hjt : j < n
              · have hji : (j : Int) < (n : Int) := by omega
                obtain ⟨g2, o2, rfl, -, hc2⟩ := (N2.out.later HO.out.2) j hjt
                have hLj := HLK.out j hjt
                have hL6 := HL6.out j
                have hkk : KK[L j]? = some (KK.getD (L j) 0) := by rw [List.getD_eq_getElem?_getD, List.getElem?_eq_getElem (by omega)]; rfl
                obtain ⟨g1, o1, rfl, -, hcv⟩ := (I2.out.later HO.out.2) (L j) _ hkk
                have hDj : (D.take j).length ≤ n := by rw [List.length_take]; omega
                obtain ⟨v3, w3, hr3, o3, b3⟩ := run_oneI HO.out.1 (by omega) HO.out.2.size (KK.getD (L j) 0)
                rw [HBN.out j hjt] at o3
                have R3 := hid hr3
                have HO3 : Hid (OwnI w3 w2.heap.size v3 (D.take (j + 1)) ∧ Below w2.heap.size w2 w3) := ⟨o3, HO.out.2.trans b3⟩
                have hlk1 : (L j : Int) < (i : Int) := by omega
                clear HO o3 b3 hr3 hkk
                generalize KK.getD (L j) 0 = z at *
                generalize L j = x at *
                go_wp2_with (at_builtin; refine wpList_app (by rfl) (by rfl) R3.out ?_; clear R3)
                exact ⟨⟨j + 1, by omega, by go_num, HO3⟩, by simp [intOf]; omega⟩
              · have hji : ¬ (j : Int) < (n : Int) := by omega
                obtain rfl : j = n := by omega
                have hOw := HO.out.1
                rw [List.take_of_length_le (by omega)] at hOw
                obtain ⟨a6, c6, hv6, -, -, -, i6⟩ := hOw.form
                rw [hDl] at hv6
                subst hv6
                have B6 := hid (below_up B2.out HO.out.2)
                have HA6 := hid (HA2.out.later HO.out.2)
                have I6 := hid (I2.out.later HO.out.2)
                have N6 := hid (N2.out.later HO.out.2)
                have HQ := hid (HPT.out a6 c6 wr i6)
                clear hOw i6 HO HPT B2 HA2 I2 N2 HBN
                go_wp2_with fail
                refine HQ.out.mono ?_
                rintro e w7 ⟨v7, rfl, h7⟩
                obtain ⟨a7, c7, rfl, n7, s7⟩ := h7.form
                have B7 := hid (below_up B6.out h7.2)
                have I7 := hid (I6.out.later h7.2)
                have N7 := hid (N6.out.later h7.2)
                have HA7 := hid (HA6.out.later h7.2)
                have hr2 := run_strL c7 s7
                have hr1 := fun cc => run_strL cc HA7.out
                clear h7 s7 n7 HQ HA6 B6 I6 N6
                by_cases hE : putE D = 0
                · by_cases hR : putR D = b
                  · have hG := HYG.out hE hR
                    have HG := hid hG
                    rw [hE]
                    rw [hR] at hr2 ⊢
                    have hpl : ∀ x, x < j → ofL ((List.range j).map L) x = L x := fun x hx => by unfold ofL; rw [List.getD_eq_getElem?_getD, List.getElem?_map, List.getElem?_range hx]; rfl
                    have hN8 : Pk.Nums w7 .u64 a2 j (ofL ((List.range j).map L)) := fun x hx => by
                      obtain ⟨g', o', e', h1, h2⟩ := N7.out x hx
                      exact ⟨g', o', e', h1, by rw [h2, hpl x hx]⟩
                    have HPK := hid (Pk.ref3Pack_run a2 j c2 (wd i) (ofL ((List.range j).map L)) w7 (by omega) (by omega) (fun x => by
                      unfold ofL
                      rw [List.getD_eq_getElem?_getD, List.getElem?_map]
                      by_cases hx : x < j
                      · rw [List.getElem?_range hx]; exact HL6.out x
                      · rw [List.getElem?_eq_none (by simp; omega)]; show 0 < _; decide) hN8)
                    have HPB2 := hid (HPB.out hG)
                    clear hE hR hG hpl hN8 HPB HNGD HYG
                    go_wp2_with fail
                    refine (HWD.out _).mono ?_
                    rintro e w8 ⟨rfl, hw8⟩
                    subst w8
                    go_wp2_with fail
                    refine (HWD.out _).mono ?_
                    rintro e w8 ⟨rfl, hw8⟩
                    subst w8
                    go_wp2_with fail
                    refine HPK.out.mono ?_
                    rintro e w9 ⟨v9, rfl, o9, b9⟩
                    have B9 := hid (below_up B7.out b9)
                    have I9 := hid (I7.out.later b9)
                    have o9' := packC_own (c := (List.range j).map L) (k := wd i) (v := v9) (w := w9) (B := w7.heap.size) (by
                      rw [List.length_map, List.length_range]; exact o9)
                    rw [HPB2.out] at o9'
                    obtain ⟨a9, c9, rfl, hc9, hm9, -⟩ := o9'.form
                    have O9 := hid o9'.nums
                    clear o9 o9' b9 HPK HPB2 B7 I7 N7 HA7 hr1 hr2
                    go_wp2_with fail
                    refine bodyPost_ret (v := .tuple #[.slice a1 i c1, .int .i64 (wd i : Int), .slice a9 CB.length c9, .int .i64 0]) (by simp [results, Tryz.results6, go_sem]) rfl ?_
                    exact ⟨B9.out, .inr ⟨i, KB, CB, a1, c1, a9, c9, HG.out, rfl, by rw [HDT.out]; exact I9.out, O9.out, hc9, hm9⟩⟩
                  · have HNG := hid (HNGD.out (fun h => hR h.2))
                    have hne : ((strL (putR D)).toList == (strL b).toList) = false := by rw [str_beq, decide_eq_false_iff_not]; exact fun h => hR (strL_inj HRL.out HLT.out h)
                    rw [hE]
                    clear hE hR HNGD HYG HPB HWD
                    generalize strL (putR D) = s7 at *
                    generalize (putR D).length = m7 at *
                    go_wp2_with fail
                    refine bodyPost_ret (v := .tuple #[.slice none 0 0, .int .i64 0, .slice none 0 0, .int .i64 90]) (by simp [results, Tryz.results6, go_sem]) rfl ?_
                    exact ⟨B7.out, .inl ⟨rfl, HNG.out⟩⟩
                · have HNG := hid (HNGD.out (fun h => hE h.1))
                  have hEb : (putE D != 0) = true := by simpa using hE
                  clear HNGD HYG HPB HWD
                  generalize putE D = E at *
                  generalize (putR D).length = m7 at *
                  go_wp2_with fail
                  refine bodyPost_ret (v := .tuple #[.slice none 0 0, .int .i64 0, .slice none 0 0, .int .i64 90]) (by simp [results, Tryz.results6, go_sem]) rfl ?_
                  exact ⟨B7.out, .inl ⟨rfl, HNG.out⟩⟩
        · rw [if_neg htc] at HUS
          go_wp2_with fail
          refine HUS.out.mono ?_
          generalize hKB : (b.drop p).take (8 * i) = KB at *
          generalize hCB : b.drop t = CB at *
          generalize hDD : backD n i KB CB = D at *
          obtain ⟨L, hLL⟩ : ∃ L, lnC CB (wd i) = L := ⟨_, rfl⟩
          have HLQ := hid hLL
          rw [hLL] at HUS HBN HPB HL6 ⊢
          generalize hKK : Cu.decI (b.drop p) i = KK at *
          clear hdlt hKB hCB hDD hLL hKK HGN
          rintro e w2 ⟨b2, hor⟩
          have B2 := hid (below_up B1.out b2)
          have I2 := hid (I1.out.later b2)
          have HA2 := hid (HA.out.later B2.out)
          clear B1 I1 HUS
          rcases hor with ⟨rfl, hnu⟩ | ⟨hU, v2, rfl, o2⟩
          · have HNG : Hid (∀ k' KB CB, ¬ Good b n k' KB CB) := fun k' KB CB h => hnu (HGU.out k' KB CB h)
            clear b2 hnu
            go_wp2_with fail
            refine bodyPost_ret (v := .tuple #[.slice none 0 0, .int .i64 0, .slice none 0 0, .int .i64 90]) (by simp [results, Tryz.results6, go_sem]) rfl ?_
            exact ⟨B2.out, .inl ⟨rfl, HNG.out⟩⟩
          · have hU3 : ∀ x, x < n → L x < i := fun x hx => by rw [← HLQ.out]; exact hU.2.2 x hx
            have HLK := hid hU3
            obtain ⟨a2, c2, rfl, -, -, -⟩ := o2.form
            have N2 := hid o2.nums
            clear b2 o2 HGU hU hU3
            go_wp2_with fail
            go_loopw [16, 17] (fun x y wr => ∃ j : Nat, j ≤ n ∧ y = .int .i64 (j : Int) ∧ Hid (OwnI wr w2.heap.size x (D.take j) ∧ Below w2.heap.size w2 wr)) (fun _ y _ => n - (intOf y).toNat)
            case atStart => exact ⟨0, Nat.zero_le _, rfl, OwnI.nil _ _, Below.refl _ _⟩
            case round =>
              obtain ⟨j, hj, rfl, HO⟩ := hrel
              by_cases hjt : j < n
              · have hji : (j : Int) < (n : Int) := by omega
                obtain ⟨g2, o2, rfl, -, hc2⟩ := (N2.out.later HO.out.2) j hjt
                have hLj := HLK.out j hjt
                have hL6 := HL6.out j
                have hkk : KK[L j]? = some (KK.getD (L j) 0) := by rw [List.getD_eq_getElem?_getD, List.getElem?_eq_getElem (by omega)]; rfl
                obtain ⟨g1, o1, rfl, -, hcv⟩ := (I2.out.later HO.out.2) (L j) _ hkk
                have hDj : (D.take j).length ≤ n := by rw [List.length_take]; omega
                obtain ⟨v3, w3, hr3, o3, b3⟩ := run_oneI HO.out.1 (by omega) HO.out.2.size (KK.getD (L j) 0)
                rw [HBN.out j hjt] at o3
                have R3 := hid hr3
                have HO3 : Hid (OwnI w3 w2.heap.size v3 (D.take (j + 1)) ∧ Below w2.heap.size w2 w3) := ⟨o3, HO.out.2.trans b3⟩
                have hlk1 : (L j : Int) < (i : Int) := by omega
                clear HO o3 b3 hr3 hkk
                generalize KK.getD (L j) 0 = z at *
                generalize L j = x at *
                go_wp2_with (at_builtin; refine wpList_app (by rfl) (by rfl) R3.out ?_; clear R3)
                exact ⟨⟨j + 1, by omega, by go_num, HO3⟩, by simp [intOf]; omega⟩
              · have hji : ¬ (j : Int) < (n : Int) := by omega
                obtain rfl : j = n := by omega
                have hOw := HO.out.1
                rw [List.take_of_length_le (by omega)] at hOw
                obtain ⟨a6, c6, hv6, -, -, -, i6⟩ := hOw.form
                rw [hDl] at hv6
                subst hv6
                have B6 := hid (below_up B2.out HO.out.2)
                have HA6 := hid (HA2.out.later HO.out.2)
                have I6 := hid (I2.out.later HO.out.2)
                have N6 := hid (N2.out.later HO.out.2)
                have HQ := hid (HPT.out a6 c6 wr i6)
                clear hOw i6 HO HPT B2 HA2 I2 N2 HBN
                go_wp2_with fail
                refine HQ.out.mono ?_
                rintro e w7 ⟨v7, rfl, h7⟩
                obtain ⟨a7, c7, rfl, n7, s7⟩ := h7.form
                have B7 := hid (below_up B6.out h7.2)
                have I7 := hid (I6.out.later h7.2)
                have N7 := hid (N6.out.later h7.2)
                have HA7 := hid (HA6.out.later h7.2)
                have hr2 := run_strL c7 s7
                have hr1 := fun cc => run_strL cc HA7.out
                clear h7 s7 n7 HQ HA6 B6 I6 N6
                by_cases hE : putE D = 0
                · by_cases hR : putR D = b
                  · have hG := HYG.out hE hR
                    have HG := hid hG
                    rw [hE]
                    rw [hR] at hr2 ⊢
                    have hpl : ∀ x, x < j → ofL ((List.range j).map L) x = L x := fun x hx => by unfold ofL; rw [List.getD_eq_getElem?_getD, List.getElem?_map, List.getElem?_range hx]; rfl
                    have hN8 : Pk.Nums w7 .u64 a2 j (ofL ((List.range j).map L)) := fun x hx => by
                      obtain ⟨g', o', e', h1, h2⟩ := N7.out x hx
                      exact ⟨g', o', e', h1, by rw [h2, hpl x hx]⟩
                    have HPK := hid (Pk.ref3Pack_run a2 j c2 (wd i) (ofL ((List.range j).map L)) w7 (by omega) (by omega) (fun x => by
                      unfold ofL
                      rw [List.getD_eq_getElem?_getD, List.getElem?_map]
                      by_cases hx : x < j
                      · rw [List.getElem?_range hx]; exact HL6.out x
                      · rw [List.getElem?_eq_none (by simp; omega)]; show 0 < _; decide) hN8)
                    have HPB2 := hid (HPB.out hG)
                    clear hE hR hG hpl hN8 HPB HNGD HYG
                    go_wp2_with fail
                    refine (HWD.out _).mono ?_
                    rintro e w8 ⟨rfl, hw8⟩
                    subst w8
                    go_wp2_with fail
                    refine (HWD.out _).mono ?_
                    rintro e w8 ⟨rfl, hw8⟩
                    subst w8
                    go_wp2_with fail
                    refine HPK.out.mono ?_
                    rintro e w9 ⟨v9, rfl, o9, b9⟩
                    have B9 := hid (below_up B7.out b9)
                    have I9 := hid (I7.out.later b9)
                    have o9' := packC_own (c := (List.range j).map L) (k := wd i) (v := v9) (w := w9) (B := w7.heap.size) (by
                      rw [List.length_map, List.length_range]; exact o9)
                    rw [HPB2.out] at o9'
                    obtain ⟨a9, c9, rfl, hc9, hm9, -⟩ := o9'.form
                    have O9 := hid o9'.nums
                    clear o9 o9' b9 HPK HPB2 B7 I7 N7 HA7 hr1 hr2
                    go_wp2_with fail
                    refine bodyPost_ret (v := .tuple #[.slice a1 i c1, .int .i64 (wd i : Int), .slice a9 CB.length c9, .int .i64 0]) (by simp [results, Tryz.results6, go_sem]) rfl ?_
                    exact ⟨B9.out, .inr ⟨i, KB, CB, a1, c1, a9, c9, HG.out, rfl, by rw [HDT.out]; exact I9.out, O9.out, hc9, hm9⟩⟩
                  · have HNG := hid (HNGD.out (fun h => hR h.2))
                    have hne : ((strL (putR D)).toList == (strL b).toList) = false := by rw [str_beq, decide_eq_false_iff_not]; exact fun h => hR (strL_inj HRL.out HLT.out h)
                    rw [hE]
                    clear hE hR HNGD HYG HPB HWD
                    generalize strL (putR D) = s7 at *
                    generalize (putR D).length = m7 at *
                    go_wp2_with fail
                    refine bodyPost_ret (v := .tuple #[.slice none 0 0, .int .i64 0, .slice none 0 0, .int .i64 90]) (by simp [results, Tryz.results6, go_sem]) rfl ?_
                    exact ⟨B7.out, .inl ⟨rfl, HNG.out⟩⟩
                · have HNG := hid (HNGD.out (fun h => hE h.1))
                  have hEb : (putE D != 0) = true := by simpa using hE
                  clear HNGD HYG HPB HWD
                  generalize putE D = E at *
                  generalize (putR D).length = m7 at *
                  go_wp2_with fail
                  refine bodyPost_ret (v := .tuple #[.slice none 0 0, .int .i64 0, .slice none 0 0, .int .i64 90]) (by simp [results, Tryz.results6, go_sem]) rfl ?_
                  exact ⟨B7.out, .inl ⟨rfl, HNG.out⟩⟩
end Go.Proofs.YtenkdhphgfhkbaaGreat

/-
  The document's Texts: the reader of a dictionary of texts, of any bytes. (Written by mkreftexts.py.)
-/
import Derived.Test.YtddacphlpjojbaaGreatDTNum
import Derived.Test.YtddacphlpjojbaaGreatDTRefPut2
namespace Go.Proofs.YtddacphlpjojbaaGreat.Tx
open Go.ChangeShapes Go.WideShapes Go.ChangeAt Go.RowKit Cu
open Classical

theorem formT_lt (l : List ByteArray) (hK : (keysI l).length ≤ 65536) : ∀ x ∈ formT l, x < 256 := fun x hx => by
  unfold formT at hx
  rw [List.mem_append, List.mem_append] at hx
  rcases hx with (h | h) | h
  · exact Cr.Cu.uv_lt (by omega) x h
  · unfold encT endsT at h
    rcases List.mem_append.1 h with h | h
    · exact flat_lt _ _ _ x h
    · obtain ⟨p, hp, hx⟩ := List.mem_flatten.1 h
      unfold keyB at hp
      obtain ⟨s, _, rfl⟩ := List.mem_map.1 hp
      exact bs_lt s x hx
  · unfold packC at h
    obtain ⟨j, _, rfl⟩ := List.mem_map.1 h
    exact Pk.byt_lt _ _
theorem backT_next {n k : Nat} {KB CB : List Nat} {i : Nat} (hi : i < n) : (backT n k KB CB).take i ++ [(keyV KB k).getD (lnC CB (wd k) i) e0] = (backT n k KB CB).take (i + 1) := by
  rw [List.take_add_one]
  congr 1
  unfold backT
  rw [List.getElem?_map, List.getElem?_range hi]
  rfl
set_option maxRecDepth 8000 in
set_option maxHeartbeats 4000000 in
theorem rTexts9_any (a : Option Addr) (b : List Nat) (c n : Nat) (w : World) (hA : Bytes w a b) (ha : a = none → b.length = 0 ∧ c = 0) (hlt : ∀ x ∈ b, x < 256) (hl : b.length ≤ 140737488351232) (hc1 : b.length ≤ c) (hc2 : c ≤ 140737488351232) (hn : n ≤ 65536) :
    Calls Tryz.prog 6 #[.slice a b.length c, .int .i64 (n : Int)] w fun e w' => ReadT b n w e w' := by
  have HCT := hid (count9_any (n : Int) w)
  rw [if_neg (by omega), if_neg (by omega)] at HCT
  have HNM := hid (number9_any a b c w hA hlt (by omega))
  have HA := hid hA
  have HLT := hid hlt
  clear hA hlt
  go_enter Tryz.func6, Tryz.ntmps6
  go_wp2_with fail
  refine HCT.out.mono ?_
  rintro e w1 ⟨rfl, hw1⟩
  subst w1
  go_wp2_with fail
  refine HNM.out.mono ?_
  rintro e w1 ⟨k, p, rfl, hN, hw1⟩
  subst w1
  have HN := hid hN
  have hp3 := hN.1
  have hpl := hN.2.1
  have hkv := hN.2.2.1
  clear HCT HNM hN
  by_cases hbad : p = 0 ∨ 65536 < k ∨ (b.length : Int) - (p : Int) < 4 * (k : Int) + 4
  · have HNG : Hid (∀ k' KB CB, ¬ GoodT b n k' KB CB) := fun k' KB CB h => by
      have hf := h.few
      obtain ⟨e1, e2, e3, _⟩ := goodT_num h HN.out
      subst e1
      omega
    by_cases hp0 : p = 0
    · subst hp0
      go_wp2_with fail
      refine bodyPost_ret (v := .tuple #[.slice none 0 0, .int .i64 0, .slice none 0 0, .int .i64 90]) (by simp [results, Tryz.results6, go_sem]) rfl ?_
      exact ⟨Below.refl _ _, .inl ⟨rfl, HNG.out⟩⟩
    · have hpb : ((p : Int) == 0) = false := by simp; omega
      by_cases hk0 : 65536 < k
      · have hki : (65536 : Int) < (k : Int) := by omega
        clear hp0 hbad
        go_wp2_with fail
        refine bodyPost_ret (v := .tuple #[.slice none 0 0, .int .i64 0, .slice none 0 0, .int .i64 90]) (by simp [results, Tryz.results6, go_sem]) rfl ?_
        exact ⟨Below.refl _ _, .inl ⟨rfl, HNG.out⟩⟩
      · have hki : ¬ (65536 : Int) < (k : Int) := by omega
        have hbi : (b.length : Int) - (p : Int) < 4 * (k : Int) + 4 := by omega
        clear hp0 hbad
        go_wp2_with fail
        refine bodyPost_ret (v := .tuple #[.slice none 0 0, .int .i64 0, .slice none 0 0, .int .i64 90]) (by simp [results, Tryz.results6, go_sem]) rfl ?_
        exact ⟨Below.refl _ _, .inl ⟨rfl, HNG.out⟩⟩
  · have hp0 : 1 ≤ p := by omega
    have hpb : ((p : Int) == 0) = false := by simp; omega
    have hk6 : k ≤ 65536 := by omega
    have hki : ¬ (65536 : Int) < (k : Int) := by omega
    have hbi : ¬ (b.length : Int) - (p : Int) < 4 * (k : Int) + 4 := by omega
    have hkd : decide ((65536 : Int) < (k : Int)) = false := by simpa using hki
    have hbd : decide ((b.length : Int) - (p : Int) < 4 * (k : Int) + 4) = false := by simpa using hbi
    have hkn : decide (65536 < k) = false := by simp; omega
    obtain ⟨h, hh⟩ : ∃ h, p + 4 * (k + 1) = h := ⟨_, rfl⟩
    have hhi : (p : Int) + 4 * (k : Int) + 4 = (h : Int) := by omega
    have hhl : h ≤ b.length := by omega
    have HHH := hid hh
    clear hbad hh
    obtain ⟨g, o, rfl, -, -⟩ := bytes_cell HA.out (show 0 < b.length by omega)
    have HGD : Hid (∀ k' KB CB, GoodT b n k' KB CB → k' = k ∧ h + en b p k ≤ b.length ∧ KB = (b.drop p).take (4 * (k + 1) + en b p k) ∧ CB = b.drop (h + en b p k) ∧ en b p 0 = 0 ∧ (∀ i, i < k → en b p i ≤ en b p (i + 1)) ∧ (∀ i, i ≤ k → en b p i ≤ en b p k)) := fun k' KB CB hg => by
      obtain ⟨e1, e2, e3, e4, e5, e6, e7, e8⟩ := goodT_num hg HN.out
      subst e1
      have := HHH.out
      subst this
      exact ⟨rfl, e3, e4, e5, e6, e7, e8⟩
    have HCU : Hid (∀ j, cutK b p k j = strL ((b.drop (h + en b p j)).take (en b p (j + 1) - en b p j))) := fun j => by unfold cutK; rw [HHH.out]
    go_wp2_with fail
    go_loopw [12, 13, 14] (fun z x y wr => ∃ i la : Nat, i ≤ k + 1 ∧ y = .int .i64 (i : Int) ∧ z = .int .i64 (la : Int) ∧ h + la ≤ b.length ∧ Hid ((i = 0 → la = 0) ∧ (1 ≤ i → la = en b p (i - 1) ∧ en b p 0 = 0) ∧ ∀ j, j + 1 < i → en b p j ≤ en b p (j + 1)) ∧ Hid (OwnS wr w.heap.size x ((List.range (i - 1)).map (cutK b p k)) ∧ Below w.heap.size w wr)) (fun _ _ y _ => k + 1 - (intOf y).toNat)
    case atStart => exact ⟨0, 0, Nat.zero_le _, rfl, rfl, by omega, ⟨fun _ => rfl, fun h => absurd h (by omega), fun j hj => absurd hj (by omega)⟩, OwnS.nil _ _, Below.refl _ _⟩
    case round =>
      obtain ⟨i, la, hi, rfl, rfl, hlb, HS, HO⟩ := hrel
      by_cases hlt2 : i ≤ k
      · have hii : (i : Int) ≤ (k : Int) := by omega
        obtain ⟨t, ht⟩ : ∃ t, p + 4 * i = t := ⟨_, rfl⟩
        have ht2 : (p : Int) + 4 * (i : Int) = (t : Int) := by omega
        have htl : t + 4 ≤ b.length := by omega
        have hAr := HA.out.later HO.out.2
        have HF := hid (four9_any (some ⟨g, o + t, none⟩) (b.drop t) (c - t) wr (bytes_from hAr (by omega)) (fun x hx => HLT.out x (List.mem_of_mem_drop hx)) (by rw [List.length_drop]; omega) (by rw [List.length_drop]; omega))
        rw [List.length_drop] at HF
        have hq0 := four_lt (l := b.drop t) (fun x hx => HLT.out x (List.mem_of_mem_drop hx))
        obtain ⟨q, hq⟩ : ∃ q, four' (b.drop t) = q := ⟨_, rfl⟩
        have HEN : Hid (en b p i = q) := by show _ = _; unfold en; rw [ht]; exact hq
        rw [hq] at HF hq0
        clear hAr hq ht
        go_wp2_with fail
        refine HF.out.mono ?_
        rintro e w5 ⟨rfl, j5, hj5⟩
        have b5 : Below wr.heap.size wr w5 := by rw [hj5]; exact below_drewN (Below.refl _ _) _
        have HO5 := hid (And.intro (HO.out.1.later b5) (below_up HO.out.2 b5))
        have HA5 := hid (HA.out.later HO5.out.2)
        clear HF HO b5 hj5
        by_cases hA1 : q < la
        · have HNG : Hid (∀ k' KB CB, ¬ GoodT b n k' KB CB) := fun k' KB CB hg => by
            obtain ⟨-, -, -, -, e6, e7, -⟩ := HGD.out k' KB CB hg
            have hE := HEN.out
            by_cases hi0 : i = 0
            · have := HS.out.1 hi0; omega
            · have h1 := (HS.out.2.1 (by omega)).1
              have h2 := e7 (i - 1) (by omega)
              rw [show i - 1 + 1 = i by omega] at h2
              omega
          have hd1 : (q : Int) < (la : Int) := by omega
          go_wp2_with fail
          refine bodyPost_ret (v := .tuple #[.slice none 0 0, .int .i64 0, .slice none 0 0, .int .i64 90]) (by simp [results, Tryz.results6, go_sem]) rfl ?_
          exact ⟨HO5.out.2, .inl ⟨rfl, HNG.out⟩⟩
        · have hd1 : ¬ (q : Int) < (la : Int) := by omega
          have hd1d : decide ((q : Int) < (la : Int)) = false := by simpa using hd1
          have hd1n : decide (q < la) = false := by simpa using hA1
          by_cases hC1 : b.length < h + q
          · have HNG : Hid (∀ k' KB CB, ¬ GoodT b n k' KB CB) := fun k' KB CB hg => by
              obtain ⟨-, e2, -, -, -, -, e8⟩ := HGD.out k' KB CB hg
              have hE := HEN.out
              have := e8 i hlt2
              omega
            have hd3 : (b.length : Int) - (h : Int) < (q : Int) := by omega
            by_cases hi0 : i = 0
            · subst hi0
              have hq1 : ((q : Int) != 0) = true := by simp; omega
              go_wp2_with fail
              refine bodyPost_ret (v := .tuple #[.slice none 0 0, .int .i64 0, .slice none 0 0, .int .i64 90]) (by simp [results, Tryz.results6, go_sem]) rfl ?_
              exact ⟨HO5.out.2, .inl ⟨rfl, HNG.out⟩⟩
            · have hi1 : ((i : Int) == 0) = false := by simp; omega
              go_wp2_with fail
              refine bodyPost_ret (v := .tuple #[.slice none 0 0, .int .i64 0, .slice none 0 0, .int .i64 90]) (by simp [results, Tryz.results6, go_sem]) rfl ?_
              exact ⟨HO5.out.2, .inl ⟨rfl, HNG.out⟩⟩
          · have hd3 : ¬ (b.length : Int) - (h : Int) < (q : Int) := by omega
            have hd3d : decide ((b.length : Int) - (h : Int) < (q : Int)) = false := by simpa using hd3
            by_cases hi0 : i = 0
            · by_cases hq1 : q = 0
              · have HS2 : Hid ((i + 1 = 0 → q = 0) ∧ (1 ≤ i + 1 → q = en b p (i + 1 - 1) ∧ en b p 0 = 0) ∧ ∀ j, j + 1 < i + 1 → en b p j ≤ en b p (j + 1)) := ⟨fun h => absurd h (by omega), fun _ => ⟨by rw [Nat.add_sub_cancel, HEN.out], by have hE := HEN.out; rw [hi0] at hE; omega⟩, fun j hj => absurd hj (by omega)⟩
                have HO6 : Hid (OwnS w5 w.heap.size u13 ((List.range (i + 1 - 1)).map (cutK b p k)) ∧ Below w.heap.size w w5) := by
                  have := HO5.out
                  rw [hi0] at this ⊢
                  exact this
                have hi1 : ((i : Int) == 0) = true := by simp; omega
                have hi2 : ¬ (0 : Int) < (i : Int) := by omega
                have hqb : ((q : Int) != 0) = false := by simp; omega
                clear hi0 hq1 HO5
                go_wp2_with fail
                exact ⟨⟨i + 1, q, by omega, by go_num, rfl, by omega, HS2, HO6⟩, by simp [intOf]; omega⟩
              · have HNG : Hid (∀ k' KB CB, ¬ GoodT b n k' KB CB) := fun k' KB CB hg => by
                  obtain ⟨-, -, -, -, e6, -, -⟩ := HGD.out k' KB CB hg
                  have hE := HEN.out
                  rw [hi0] at hE
                  omega
                have hi1 : ((i : Int) == 0) = true := by simp; omega
                have hqb : ((q : Int) != 0) = true := by simp; omega
                clear hi0 hq1
                go_wp2_with fail
                refine bodyPost_ret (v := .tuple #[.slice none 0 0, .int .i64 0, .slice none 0 0, .int .i64 90]) (by simp [results, Tryz.results6, go_sem]) rfl ?_
                exact ⟨HO5.out.2, .inl ⟨rfl, HNG.out⟩⟩
            · have hi1 : ((i : Int) == 0) = false := by simp; omega
              have hi2 : (0 : Int) < (i : Int) := by omega
              obtain ⟨A, hA2⟩ : ∃ A, h + la = A := ⟨_, rfl⟩
              obtain ⟨B, hB2⟩ : ∃ B, h + q = B := ⟨_, rfl⟩
              have hAi : (h : Int) + (la : Int) = (A : Int) := by omega
              have hBi : (h : Int) + (q : Int) = (B : Int) := by omega
              have hAB : A ≤ B := by omega
              have hBl : B ≤ b.length := by omega
              have hlen : ((b.drop A).take (B - A)).length = B - A := by rw [List.length_take, List.length_drop]; omega
              obtain ⟨r, rfl⟩ : ∃ r, i = r + 1 := ⟨i - 1, by omega⟩
              have hla := (HS.out.2.1 (by omega)).1
              rw [Nat.add_sub_cancel] at hla
              have HCK : Hid (cutK b p k r = strL ((b.drop A).take (B - A))) := by
                show _ = _
                rw [HCU.out r, ← hla, HEN.out, hA2, show q - la = B - A by omega]
              have HS2 : Hid ((r + 1 + 1 = 0 → q = 0) ∧ (1 ≤ r + 1 + 1 → q = en b p (r + 1 + 1 - 1) ∧ en b p 0 = 0) ∧ ∀ j, j + 1 < r + 1 + 1 → en b p j ≤ en b p (j + 1)) := ⟨fun h => absurd h (by omega), fun _ => ⟨by rw [Nat.add_sub_cancel, HEN.out], (HS.out.2.1 (by omega)).2⟩, fun j hj => by
                by_cases e : j = r
                · subst e; rw [HEN.out, ← hla]; omega
                · exact HS.out.2.2 j (by omega)⟩
              have HST : Hid (∀ ad, (A = c → ad = (⟨g, o, none⟩ : Addr)) → (A ≠ c → ad = ⟨g, o + A, none⟩) → (convert 22 9 (.slice (some ad) (B - A) (c - A))).run Tryz.prog w5 = .ok (.string (cutK b p k r)) w5) := fun ad h1 h2 => by
                rw [HCK.out]
                by_cases hAc : A = c
                · have h0 : B - A = 0 := by omega
                  have := run_strL (w := w5) (a := some ad) (l := (b.drop A).take (B - A)) (c - A) (fun j hj => by omega)
                  rwa [hlen] at this
                · have := run_strL (w := w5) (a := some ad) (l := (b.drop A).take (B - A)) (c - A) (by rw [h2 hAc]; exact bytes_sub HA5.out (by omega))
                  rwa [hlen] at this
              have hrl : ((List.range (r + 1 - 1)).map (cutK b p k)).length ≤ 65536 := by rw [List.length_map, List.length_range]; omega
              obtain ⟨v6, w6, hr6, o6, b6⟩ := run_oneS HO5.out.1 (by omega) HO5.out.2.size (cutK b p k r)
              have HO6 : Hid (OwnS w6 w.heap.size v6 ((List.range (r + 1 + 1 - 1)).map (cutK b p k)) ∧ Below w.heap.size w w6) := by
                refine ⟨?_, HO5.out.2.trans b6⟩
                rw [show r + 1 + 1 - 1 = r + 1 by omega, List.range_succ, List.map_append]
                exact o6
              have R6 := hid hr6
              clear hr6 o6 b6 HO5 HCK hla hi0 HS hA2 hB2 hrl hlen
              generalize cutK b p k r = s6 at HST R6
              by_cases hAc : A = c
              · have hst := HST.out ⟨g, o, none⟩ (fun _ => rfl) (fun h => absurd hAc h)
                have hBA : B = A := by omega
                subst hBA
                rw [hAc] at hst
                subst hAc
                rw [Nat.sub_self] at hst
                go_wp2_with (at_builtin; refine wpList_app (by rfl) (by rfl) R6.out ?_; clear R6)
                exact ⟨⟨r + 1 + 1, q, by omega, by go_num, rfl, by omega, HS2, HO6⟩, by simp [intOf]; omega⟩
              · have hst := HST.out ⟨g, o + A, none⟩ (fun h => absurd h hAc) (fun _ => rfl)
                go_wp2_with (at_builtin; refine wpList_app (by rfl) (by rfl) R6.out ?_; clear R6)
                exact ⟨⟨r + 1 + 1, q, by omega, by go_num, rfl, by omega, HS2, HO6⟩, by simp [intOf]; omega⟩
      · obtain rfl : i = k + 1 := by omega
        have hii : ¬ ((k + 1 : Nat) : Int) ≤ (k : Int) := by omega
        obtain ⟨hla, -⟩ := HS.out.2.1 (by omega)
        rw [Nat.add_sub_cancel] at hla
        have hmono : ∀ d j, j + d = k → en b p j ≤ en b p k := by
          intro d
          induction d with
          | zero => intro j hj; rw [show j = k by omega]; exact Nat.le_refl _
          | succ d ih => intro j hj; exact Nat.le_trans (HS.out.2.2 j (by omega)) (ih (j + 1) (by omega))
        have hkc : (List.range k).map (cutK b p k) = keyV ((b.drop p).take (4 * (k + 1) + la)) k := by
          rw [hla]
          exact keys_cut (by rw [HHH.out, ← hla]; exact hlb) (fun j hj => hmono (k - j) j (by omega))
        have hOw := HO.out.1
        rw [Nat.add_sub_cancel, hkc] at hOw
        obtain ⟨a1, c1, hv1, -, -, -, i1⟩ := hOw.form
        rw [keyV_len] at hv1
        subst hv1
        have I1 := hid i1
        have B1 := hid HO.out.2
        have hAr := HA.out.later HO.out.2
        obtain ⟨t, ht⟩ : ∃ t, h + la = t := ⟨_, rfl⟩
        have ht2 : (h : Int) + (la : Int) = (t : Int) := by omega
        have htl : t ≤ b.length := by omega
        obtain ⟨q1, hq1⟩ : ∃ q1, k + 1 = q1 := ⟨_, rfl⟩
        rw [hq1] at hii ⊢
        have hdl : (b.drop t).length = b.length - t := List.length_drop ..
        have hdlt : ∀ x ∈ b.drop t, x < 256 := fun x hx => HLT.out x (List.mem_of_mem_drop hx)
        have HUS : Hid (Calls Tryz.prog 20 #[.slice (some (if t = c then ⟨g, o, none⟩ else ⟨g, o + t, none⟩)) (b.length - t) (c - t), .int .i64 (k : Int), .int .i64 (n : Int)] wr fun e w' => Below wr.heap.size wr w' ∧ ((e = .returned (.tuple #[.slice none 0 0, .bool false]) ∧ ¬ UsedC k n (b.drop t)) ∨ (UsedC k n (b.drop t) ∧ ∃ v, e = .returned (.tuple #[v, .bool true]) ∧ Pk.Own w' wr.heap.size 44 .u64 v n (lnC (b.drop t) (wd k))))) := by
          show Calls _ _ _ _ _
          by_cases htc : t = c
          · rw [if_pos htc]
            have := used9_any (some ⟨g, o, none⟩) (b.drop t) (c - t) k n wr (fun j hj => by omega) hdlt hk6 (by omega) (by omega)
            rwa [hdl] at this
          · rw [if_neg htc]
            have := used9_any (some ⟨g, o + t, none⟩) (b.drop t) (c - t) k n wr (bytes_from hAr htl) hdlt hk6 (by omega) (by omega)
            rwa [hdl] at this
        have HGN : Hid (∀ k' KB CB, GoodT b n k' KB CB → k' = k ∧ KB = (b.drop p).take (4 * (k + 1) + la) ∧ CB = b.drop t) := fun k' KB CB hg => by
          obtain ⟨e1, -, e3, e4, -⟩ := HGD.out k' KB CB hg
          rw [← hla] at e3 e4
          exact ⟨e1, e3, by rw [← ht]; exact e4⟩
        have HGU : Hid (∀ k' KB CB, GoodT b n k' KB CB → UsedC k n (b.drop t)) := fun k' KB CB hg => by
          obtain ⟨e1, e2, e3⟩ := HGN.out k' KB CB hg
          subst e1 e3
          exact ⟨hg.len, hg.may.1, hg.may.2.1⟩
        have HYG : Hid (putTE (backT n k ((b.drop p).take (4 * (k + 1) + la)) (b.drop t)) = 0 → putTR (backT n k ((b.drop p).take (4 * (k + 1) + la)) (b.drop t)) = b → GoodT b n k ((b.drop p).take (4 * (k + 1) + la)) (b.drop t)) := by
          show _ → _ → _
          rw [← ht, hla, ← HHH.out]
          exact fun h1 h2 => goodT_of_put (by omega) HN.out h1 h2
        clear hOw i1 HO hAr hdl hmono hkc HS HGD HCU hlb
        have hkl : (keyV ((b.drop p).take (4 * (k + 1) + la)) k).length = k := keyV_len _ _
        have HSZ : Hid (∀ x ∈ backT n k ((b.drop p).take (4 * (k + 1) + la)) (b.drop t), x.size ≤ 140737488351232) := backT_size fun x hx => by
          unfold keyV textsV at hx
          obtain ⟨y, hy, rfl⟩ := List.mem_map.1 hx
          obtain ⟨j, _, rfl⟩ := List.mem_map.1 hy
          rw [strL_size]
          unfold textN heapOf
          rw [List.length_take, List.length_drop, List.length_drop, List.length_take, List.length_drop]
          omega
        have HPT := hid (fun a c w h => rPutT_any a (backT n k ((b.drop p).take (4 * (k + 1) + la)) (b.drop t)) c w h HSZ.out)
        have hDl := backT_len n k ((b.drop p).take (4 * (k + 1) + la)) (b.drop t)
        rw [hDl] at HPT
        have HNGD : Hid (¬ (putTE (backT n k ((b.drop p).take (4 * (k + 1) + la)) (b.drop t)) = 0 ∧ putTR (backT n k ((b.drop p).take (4 * (k + 1) + la)) (b.drop t)) = b) → ∀ k' KB CB, ¬ GoodT b n k' KB CB) := fun hno k' KB CB hg => by
          obtain ⟨e1, e2, e3⟩ := HGN.out k' KB CB hg
          subst e1 e2 e3
          exact hno (good_back hg HLT.out (by omega))
        have HBN : Hid (∀ x, x < n → (backT n k ((b.drop p).take (4 * (k + 1) + la)) (b.drop t)).take x ++ [(keyV ((b.drop p).take (4 * (k + 1) + la)) k).getD (lnC (b.drop t) (wd k) x) e0] = (backT n k ((b.drop p).take (4 * (k + 1) + la)) (b.drop t)).take (x + 1)) := fun x hx => backT_next hx
        have HRL : Hid (∀ x ∈ putTR (backT n k ((b.drop p).take (4 * (k + 1) + la)) (b.drop t)), x < 256) := fun x hx => by
          unfold putTR at hx
          split at hx
          · cases hx
          · split at hx
            · cases hx
            · split at hx
              · exact formT_lt _ (by omega) x hx
              · cases hx
        have hw16 := wd_le16 hk6
        have HWD := hid (fun wx => rWidth9 k wx hk6)
        have HPB : Hid (GoodT b n k ((b.drop p).take (4 * (k + 1) + la)) (b.drop t) → packC (wd k) ((List.range n).map (lnC (b.drop t) (wd k))) = b.drop t) := fun h => packC_back h.len hdlt h.may.1
        have HL6 : Hid (∀ x, lnC (b.drop t) (wd k) x < 18446744073709551616) := fun x => Nat.lt_of_lt_of_le (Pk.laneOf_lt _ _ _) (Nat.pow_le_pow_right (n := 2) (by omega) (show wd k ≤ 64 by omega))
        clear hq1 hla HSZ ht
        obtain ⟨i, hik⟩ : ∃ i, i = k := ⟨k, rfl⟩
        subst hik
        by_cases htc : t = c
        · rw [if_pos htc] at HUS
          subst htc
          rw [Nat.sub_self, show b.length - t = 0 by omega] at HUS
          go_wp2_with fail
          refine HUS.out.mono ?_
          generalize hKB : (b.drop p).take (4 * (i + 1) + la) = KB at *
          generalize hCB : b.drop t = CB at *
          generalize hDD : backT n i KB CB = D at *
          obtain ⟨L, hLL⟩ : ∃ L, lnC CB (wd i) = L := ⟨_, rfl⟩
          have HLQ := hid hLL
          rw [hLL] at HUS HBN HPB HL6 ⊢
          generalize hKK : keyV KB i = KK at *
          have HDT := hid hKK
          clear hdlt hKB hCB hDD hLL hKK HGN
          rintro e w2 ⟨b2, hor⟩
          have B2 := hid (below_up B1.out b2)
          have I2 := hid (I1.out.later b2)
          have HA2 := hid (HA.out.later B2.out)
          clear B1 I1 HUS
          rcases hor with ⟨rfl, hnu⟩ | ⟨hU, v2, rfl, o2⟩
          · have HNG : Hid (∀ k' KB CB, ¬ GoodT b n k' KB CB) := fun k' KB CB h => hnu (HGU.out k' KB CB h)
            clear b2 hnu
            go_wp2_with fail
            refine bodyPost_ret (v := .tuple #[.slice none 0 0, .int .i64 0, .slice none 0 0, .int .i64 90]) (by simp [results, Tryz.results6, go_sem]) rfl ?_
            exact ⟨B2.out, .inl ⟨rfl, HNG.out⟩⟩
          · have hU3 : ∀ x, x < n → L x < i := fun x hx => by rw [← HLQ.out]; exact hU.2.2 x hx
            have HLK := hid hU3
            obtain ⟨a2, c2, rfl, -, -, -⟩ := o2.form
            have N2 := hid o2.nums
            clear b2 o2 HGU hU hU3
            go_wp2_with fail
            go_loopw [18, 19] (fun x y wr => ∃ j : Nat, j ≤ n ∧ y = .int .i64 (j : Int) ∧ Hid (OwnS wr w2.heap.size x (D.take j) ∧ Below w2.heap.size w2 wr)) (fun _ y _ => n - (intOf y).toNat)
            case atStart => exact ⟨0, Nat.zero_le _, rfl, OwnS.nil _ _, Below.refl _ _⟩
            case round =>
              obtain ⟨j, hj, rfl, HO⟩ := hrel
              by_cases hjt : j < n
              · have hji : (j : Int) < (n : Int) := by omega
                obtain ⟨g2, o2, rfl, -, hc2⟩ := (N2.out.later HO.out.2) j hjt
                have hLj := HLK.out j hjt
                have hL6 := HL6.out j
                have hkk : KK[L j]? = some (KK.getD (L j) e0) := by rw [List.getD_eq_getElem?_getD, List.getElem?_eq_getElem (by omega)]; rfl
                obtain ⟨g1, o1, rfl, -, hcv⟩ := (I2.out.later HO.out.2) (L j) _ hkk
                have hDj : (D.take j).length ≤ n := by rw [List.length_take]; omega
                obtain ⟨v3, w3, hr3, o3, b3⟩ := run_oneS HO.out.1 (by omega) HO.out.2.size (KK.getD (L j) e0)
                rw [HBN.out j hjt] at o3
                have R3 := hid hr3
                have HO3 : Hid (OwnS w3 w2.heap.size v3 (D.take (j + 1)) ∧ Below w2.heap.size w2 w3) := ⟨o3, HO.out.2.trans b3⟩
                have hlk1 : (L j : Int) < (i : Int) := by omega
                clear HO o3 b3 hr3 hkk
                generalize KK.getD (L j) e0 = z at *
                generalize L j = x at *
                go_wp2_with (at_builtin; refine wpList_app (by rfl) (by rfl) R3.out ?_; clear R3)
                exact ⟨⟨j + 1, by omega, by go_num, HO3⟩, by simp [intOf]; omega⟩
              · have hji : ¬ (j : Int) < (n : Int) := by omega
                obtain rfl : j = n := by omega
                have hOw := HO.out.1
                rw [List.take_of_length_le (by omega)] at hOw
                obtain ⟨a6, c6, hv6, -, -, -, i6⟩ := hOw.form
                rw [hDl] at hv6
                subst hv6
                have B6 := hid (below_up B2.out HO.out.2)
                have HA6 := hid (HA2.out.later HO.out.2)
                have I6 := hid (I2.out.later HO.out.2)
                have N6 := hid (N2.out.later HO.out.2)
                have HQ := hid (HPT.out a6 c6 wr i6)
                clear hOw i6 HO HPT B2 HA2 I2 N2 HBN
                go_wp2_with fail
                refine HQ.out.mono ?_
                rintro e w7 ⟨v7, rfl, h7⟩
                obtain ⟨a7, c7, rfl, n7, s7⟩ := h7.form
                have B7 := hid (below_up B6.out h7.2)
                have I7 := hid (I6.out.later h7.2)
                have N7 := hid (N6.out.later h7.2)
                have HA7 := hid (HA6.out.later h7.2)
                have hr2 := run_strL c7 s7
                have hr1 := fun cc => run_strL cc HA7.out
                clear h7 s7 n7 HQ HA6 B6 I6 N6
                by_cases hE : putTE D = 0
                · by_cases hR : putTR D = b
                  · have hG := HYG.out hE hR
                    have HG := hid hG
                    rw [hE]
                    rw [hR] at hr2 ⊢
                    have hpl : ∀ x, x < j → ofL ((List.range j).map L) x = L x := fun x hx => by unfold ofL; rw [List.getD_eq_getElem?_getD, List.getElem?_map, List.getElem?_range hx]; rfl
                    have hN8 : Pk.Nums w7 .u64 a2 j (ofL ((List.range j).map L)) := fun x hx => by
                      obtain ⟨g', o', e', h1, h2⟩ := N7.out x hx
                      exact ⟨g', o', e', h1, by rw [h2, hpl x hx]⟩
                    have HPK := hid (Pk.ref3Pack_run a2 j c2 (wd i) (ofL ((List.range j).map L)) w7 (by omega) (by omega) (fun x => by
                      unfold ofL
                      rw [List.getD_eq_getElem?_getD, List.getElem?_map]
                      by_cases hx : x < j
                      · rw [List.getElem?_range hx]; exact HL6.out x
                      · rw [List.getElem?_eq_none (by simp; omega)]; show 0 < _; decide) hN8)
                    have HPB2 := hid (HPB.out hG)
                    clear hE hR hG hpl hN8 HPB HNGD HYG
                    go_wp2_with fail
                    refine (HWD.out _).mono ?_
                    rintro e w8 ⟨rfl, hw8⟩
                    subst w8
                    go_wp2_with fail
                    refine (HWD.out _).mono ?_
                    rintro e w8 ⟨rfl, hw8⟩
                    subst w8
                    go_wp2_with fail
                    refine HPK.out.mono ?_
                    rintro e w9 ⟨v9, rfl, o9, b9⟩
                    have B9 := hid (below_up B7.out b9)
                    have I9 := hid (I7.out.later b9)
                    have o9' := packC_own (c := (List.range j).map L) (k := wd i) (v := v9) (w := w9) (B := w7.heap.size) (by
                      rw [List.length_map, List.length_range]; exact o9)
                    rw [HPB2.out] at o9'
                    obtain ⟨a9, c9, rfl, hc9, hm9, -⟩ := o9'.form
                    have O9 := hid o9'.nums
                    clear o9 o9' b9 HPK HPB2 B7 I7 N7 HA7 hr1 hr2
                    go_wp2_with fail
                    refine bodyPost_ret (v := .tuple #[.slice a1 i c1, .int .i64 (wd i : Int), .slice a9 CB.length c9, .int .i64 0]) (by simp [results, Tryz.results6, go_sem]) rfl ?_
                    exact ⟨B9.out, .inr ⟨i, KB, CB, a1, c1, a9, c9, HG.out, rfl, by rw [HDT.out]; exact I9.out, O9.out, hc9, hm9⟩⟩
                  · have HNG := hid (HNGD.out (fun h => hR h.2))
                    have hne : ((strL (putTR D)).toList == (strL b).toList) = false := by rw [str_beq, decide_eq_false_iff_not]; exact fun h => hR (strL_inj HRL.out HLT.out h)
                    rw [hE]
                    clear hE hR HNGD HYG HPB HWD
                    generalize strL (putTR D) = s7 at *
                    generalize (putTR D).length = m7 at *
                    go_wp2_with fail
                    refine bodyPost_ret (v := .tuple #[.slice none 0 0, .int .i64 0, .slice none 0 0, .int .i64 90]) (by simp [results, Tryz.results6, go_sem]) rfl ?_
                    exact ⟨B7.out, .inl ⟨rfl, HNG.out⟩⟩
                · have HNG := hid (HNGD.out (fun h => hE h.1))
                  have hEb : (putTE D != 0) = true := by simpa using hE
                  clear HNGD HYG HPB HWD
                  generalize putTE D = E at *
                  generalize (putTR D).length = m7 at *
                  go_wp2_with fail
                  refine bodyPost_ret (v := .tuple #[.slice none 0 0, .int .i64 0, .slice none 0 0, .int .i64 90]) (by simp [results, Tryz.results6, go_sem]) rfl ?_
                  exact ⟨B7.out, .inl ⟨rfl, HNG.out⟩⟩
        · rw [if_neg htc] at HUS
          go_wp2_with fail
          refine HUS.out.mono ?_
          generalize hKB : (b.drop p).take (4 * (i + 1) + la) = KB at *
          generalize hCB : b.drop t = CB at *
          generalize hDD : backT n i KB CB = D at *
          obtain ⟨L, hLL⟩ : ∃ L, lnC CB (wd i) = L := ⟨_, rfl⟩
          have HLQ := hid hLL
          rw [hLL] at HUS HBN HPB HL6 ⊢
          generalize hKK : keyV KB i = KK at *
          have HDT := hid hKK
          clear hdlt hKB hCB hDD hLL hKK HGN
          rintro e w2 ⟨b2, hor⟩
          have B2 := hid (below_up B1.out b2)
          have I2 := hid (I1.out.later b2)
          have HA2 := hid (HA.out.later B2.out)
          clear B1 I1 HUS
          rcases hor with ⟨rfl, hnu⟩ | ⟨hU, v2, rfl, o2⟩
          · have HNG : Hid (∀ k' KB CB, ¬ GoodT b n k' KB CB) := fun k' KB CB h => hnu (HGU.out k' KB CB h)
            clear b2 hnu
            go_wp2_with fail
            refine bodyPost_ret (v := .tuple #[.slice none 0 0, .int .i64 0, .slice none 0 0, .int .i64 90]) (by simp [results, Tryz.results6, go_sem]) rfl ?_
            exact ⟨B2.out, .inl ⟨rfl, HNG.out⟩⟩
          · have hU3 : ∀ x, x < n → L x < i := fun x hx => by rw [← HLQ.out]; exact hU.2.2 x hx
            have HLK := hid hU3
            obtain ⟨a2, c2, rfl, -, -, -⟩ := o2.form
            have N2 := hid o2.nums
            clear b2 o2 HGU hU hU3
            go_wp2_with fail
            go_loopw [18, 19] (fun x y wr => ∃ j : Nat, j ≤ n ∧ y = .int .i64 (j : Int) ∧ Hid (OwnS wr w2.heap.size x (D.take j) ∧ Below w2.heap.size w2 wr)) (fun _ y _ => n - (intOf y).toNat)
            case atStart => exact ⟨0, Nat.zero_le _, rfl, OwnS.nil _ _, Below.refl _ _⟩
            case round =>
              obtain ⟨j, hj, rfl, HO⟩ := hrel
              by_cases hjt : j < n
              · have hji : (j : Int) < (n : Int) := by omega
                obtain ⟨g2, o2, rfl, -, hc2⟩ := (N2.out.later HO.out.2) j hjt
                have hLj := HLK.out j hjt
                have hL6 := HL6.out j
                have hkk : KK[L j]? = some (KK.getD (L j) e0) := by rw [List.getD_eq_getElem?_getD, List.getElem?_eq_getElem (by omega)]; rfl
                obtain ⟨g1, o1, rfl, -, hcv⟩ := (I2.out.later HO.out.2) (L j) _ hkk
                have hDj : (D.take j).length ≤ n := by rw [List.length_take]; omega
                obtain ⟨v3, w3, hr3, o3, b3⟩ := run_oneS HO.out.1 (by omega) HO.out.2.size (KK.getD (L j) e0)
                rw [HBN.out j hjt] at o3
                have R3 := hid hr3
                have HO3 : Hid (OwnS w3 w2.heap.size v3 (D.take (j + 1)) ∧ Below w2.heap.size w2 w3) := ⟨o3, HO.out.2.trans b3⟩
                have hlk1 : (L j : Int) < (i : Int) := by omega
                clear HO o3 b3 hr3 hkk
                generalize KK.getD (L j) e0 = z at *
                generalize L j = x at *
                go_wp2_with (at_builtin; refine wpList_app (by rfl) (by rfl) R3.out ?_; clear R3)
                exact ⟨⟨j + 1, by omega, by go_num, HO3⟩, by simp [intOf]; omega⟩
              · have hji : ¬ (j : Int) < (n : Int) := by omega
                obtain rfl : j = n := by omega
                have hOw := HO.out.1
                rw [List.take_of_length_le (by omega)] at hOw
                obtain ⟨a6, c6, hv6, -, -, -, i6⟩ := hOw.form
                rw [hDl] at hv6
                subst hv6
                have B6 := hid (below_up B2.out HO.out.2)
                have HA6 := hid (HA2.out.later HO.out.2)
                have I6 := hid (I2.out.later HO.out.2)
                have N6 := hid (N2.out.later HO.out.2)
                have HQ := hid (HPT.out a6 c6 wr i6)
                clear hOw i6 HO HPT B2 HA2 I2 N2 HBN
                go_wp2_with fail
                refine HQ.out.mono ?_
                rintro e w7 ⟨v7, rfl, h7⟩
                obtain ⟨a7, c7, rfl, n7, s7⟩ := h7.form
                have B7 := hid (below_up B6.out h7.2)
                have I7 := hid (I6.out.later h7.2)
                have N7 := hid (N6.out.later h7.2)
                have HA7 := hid (HA6.out.later h7.2)
                have hr2 := run_strL c7 s7
                have hr1 := fun cc => run_strL cc HA7.out
                clear h7 s7 n7 HQ HA6 B6 I6 N6
                by_cases hE : putTE D = 0
                · by_cases hR : putTR D = b
                  · have hG := HYG.out hE hR
                    have HG := hid hG
                    rw [hE]
                    rw [hR] at hr2 ⊢
                    have hpl : ∀ x, x < j → ofL ((List.range j).map L) x = L x := fun x hx => by unfold ofL; rw [List.getD_eq_getElem?_getD, List.getElem?_map, List.getElem?_range hx]; rfl
                    have hN8 : Pk.Nums w7 .u64 a2 j (ofL ((List.range j).map L)) := fun x hx => by
                      obtain ⟨g', o', e', h1, h2⟩ := N7.out x hx
                      exact ⟨g', o', e', h1, by rw [h2, hpl x hx]⟩
                    have HPK := hid (Pk.ref3Pack_run a2 j c2 (wd i) (ofL ((List.range j).map L)) w7 (by omega) (by omega) (fun x => by
                      unfold ofL
                      rw [List.getD_eq_getElem?_getD, List.getElem?_map]
                      by_cases hx : x < j
                      · rw [List.getElem?_range hx]; exact HL6.out x
                      · rw [List.getElem?_eq_none (by simp; omega)]; show 0 < _; decide) hN8)
                    have HPB2 := hid (HPB.out hG)
                    clear hE hR hG hpl hN8 HPB HNGD HYG
                    go_wp2_with fail
                    refine (HWD.out _).mono ?_
                    rintro e w8 ⟨rfl, hw8⟩
                    subst w8
                    go_wp2_with fail
                    refine (HWD.out _).mono ?_
                    rintro e w8 ⟨rfl, hw8⟩
                    subst w8
                    go_wp2_with fail
                    refine HPK.out.mono ?_
                    rintro e w9 ⟨v9, rfl, o9, b9⟩
                    have B9 := hid (below_up B7.out b9)
                    have I9 := hid (I7.out.later b9)
                    have o9' := packC_own (c := (List.range j).map L) (k := wd i) (v := v9) (w := w9) (B := w7.heap.size) (by
                      rw [List.length_map, List.length_range]; exact o9)
                    rw [HPB2.out] at o9'
                    obtain ⟨a9, c9, rfl, hc9, hm9, -⟩ := o9'.form
                    have O9 := hid o9'.nums
                    clear o9 o9' b9 HPK HPB2 B7 I7 N7 HA7 hr1 hr2
                    go_wp2_with fail
                    refine bodyPost_ret (v := .tuple #[.slice a1 i c1, .int .i64 (wd i : Int), .slice a9 CB.length c9, .int .i64 0]) (by simp [results, Tryz.results6, go_sem]) rfl ?_
                    exact ⟨B9.out, .inr ⟨i, KB, CB, a1, c1, a9, c9, HG.out, rfl, by rw [HDT.out]; exact I9.out, O9.out, hc9, hm9⟩⟩
                  · have HNG := hid (HNGD.out (fun h => hR h.2))
                    have hne : ((strL (putTR D)).toList == (strL b).toList) = false := by rw [str_beq, decide_eq_false_iff_not]; exact fun h => hR (strL_inj HRL.out HLT.out h)
                    rw [hE]
                    clear hE hR HNGD HYG HPB HWD
                    generalize strL (putTR D) = s7 at *
                    generalize (putTR D).length = m7 at *
                    go_wp2_with fail
                    refine bodyPost_ret (v := .tuple #[.slice none 0 0, .int .i64 0, .slice none 0 0, .int .i64 90]) (by simp [results, Tryz.results6, go_sem]) rfl ?_
                    exact ⟨B7.out, .inl ⟨rfl, HNG.out⟩⟩
                · have HNG := hid (HNGD.out (fun h => hE h.1))
                  have hEb : (putTE D != 0) = true := by simpa using hE
                  clear HNGD HYG HPB HWD
                  generalize putTE D = E at *
                  generalize (putTR D).length = m7 at *
                  go_wp2_with fail
                  refine bodyPost_ret (v := .tuple #[.slice none 0 0, .int .i64 0, .slice none 0 0, .int .i64 90]) (by simp [results, Tryz.results6, go_sem]) rfl ?_
                  exact ⟨B7.out, .inl ⟨rfl, HNG.out⟩⟩
end Go.Proofs.YtddacphlpjojbaaGreat.Tx

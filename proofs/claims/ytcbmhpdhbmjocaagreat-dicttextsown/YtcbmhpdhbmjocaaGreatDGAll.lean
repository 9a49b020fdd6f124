import Derived.Test.YtcbmhpdhbmjocaaGreatDTRef
import Derived.Test.YtcbmhpdhbmjocaaGreatDRAll
import Derived.Test.YtcbmhpdhbmjocaaGreatDTPut
import Derived.Test.YtcbmhpdhbmjocaaGreatDGood2
import Derived.Test.YtcbmhpdhbmjocaaGreatDReadG
import Derived.Test.YtcbmhpdhbmjocaaGreatQAll
/-
  dict.rise of texts. (Written by mktextsB.py.)
-/
namespace Go.Proofs.YtcbmhpdhbmjocaaGreat.Tx
open Go.ChangeShapes Go.WideShapes Go.ChangeAt Go.RowKit Cu
open Classical

def e0 : ByteArray := ⟨#[]⟩
def riseB (K : List ByteArray) : Bool := decide (∀ t, t < K.length - 1 → ltB (K.getD t e0) (K.getD (t + 1) e0) = true)
set_option maxRecDepth 8000 in
set_option maxHeartbeats 1000000 in
theorem rise_any (a : Option Addr) (K : List ByteArray) (c : Nat) (w : World) (hA : Strs w a K) (hn : K.length ≤ 1099511627775) :
    Calls Tryz.prog 50 #[.slice a K.length c] w fun e w' => e = .returned (.bool (riseB K)) ∧ ∃ j, w' = w.drewN j := by
  have HA := hid hA
  have HL := hid (fun x y wx => lessT x y wx)
  clear hA
  go_enter Tryz.func50, Tryz.ntmps50
  go_wp2_with fail
  go_loopw [3] (fun z wr => ∃ i j : Nat, 1 ≤ i ∧ (i ≤ K.length ∨ i = 1) ∧ z = .int .i64 (i : Int) ∧ Hid (wr = w.drewN j ∧ ∀ t, t + 1 < i → ltB (K.getD t e0) (K.getD (t + 1) e0) = true)) (fun z _ => K.length - (intOf z).toNat)
  case atStart => exact ⟨1, 0, Nat.le_refl _, .inr rfl, rfl, rfl, fun t ht => absurd ht (by omega)⟩
  case round =>
    obtain ⟨i, j, hi, hil, rfl, HS⟩ := hrel
    obtain ⟨p, rfl⟩ : ∃ p, i = p + 1 := ⟨i - 1, by omega⟩
    by_cases hlt : p + 1 < K.length
    · have hs0 : K[p]? = some (K.getD p e0) := by rw [List.getD_eq_getElem?_getD, List.getElem?_eq_getElem (by omega)]; rfl
      have hs1 : K[p + 1]? = some (K.getD (p + 1) e0) := by rw [List.getD_eq_getElem?_getD, List.getElem?_eq_getElem hlt]; rfl
      have hw : wr.heap = w.heap := by rw [HS.out.1]; rfl
      obtain ⟨g, o, rfl, hg, hc0⟩ := HA.out p _ hs0
      obtain ⟨g', o', eq, _, hc1⟩ := HA.out (p + 1) _ hs1
      cases eq
      have d0 : wr.cell? ⟨g, o + p, none⟩ = some (.string (K.getD p e0)) := by rw [World.cell?_of_block (w := w) (by rw [hw])]; exact hc0
      have d1 : wr.cell? ⟨g, o + (p + 1), none⟩ = some (.string (K.getD (p + 1) e0)) := by rw [World.cell?_of_block (w := w) (by rw [hw])]; exact hc1
      obtain ⟨q, hq⟩ : ∃ q, p + 1 = q := ⟨_, rfl⟩
      have HLL := hid (fun wx => HL.out (K.getD p e0) (K.getD (p + 1) e0) wx)
      have e1 : ((q : Nat) : Int) - 1 = (p : Int) := by omega
      have HQ := hid hq
      rw [hq] at d1 hlt HLL ⊢
      have hqi : (q : Int) < (K.length : Int) := by omega
      have hpi : (p : Int) < (K.length : Int) := by omega
      have hpw : IntKind.i64.wrap (p : Int) = (p : Int) := Pk.i64_left _ (by omega) (by omega)
      by_cases hr : ltB (K.getD p e0) (K.getD q e0) = true
      · have hd : ltB (K.getD p e0) (K.getD q e0) = true := hr
        rw [hd] at HLL
        have HS2 : Hid (∀ t, t + 1 < q + 1 → ltB (K.getD t e0) (K.getD (t + 1) e0) = true) := fun t ht => by
          have := HQ.out
          by_cases h : t = p
          · subst h; rw [this]; exact hr
          · exact HS.out.2 t (by omega)
        have HJ := hid HS.out.1
        clear HS hd hr hs0 hs1 hc0 hc1 hw hq
        generalize K.getD p e0 = x0 at d0 HLL
        generalize K.getD q e0 = x1 at d1 HLL
        go_wp2_with fail
        go_quiet ((go_at_call 78; exact Calls.quiet_of_same (HLL.out _)))
        go_wp2_with fail
        exact ⟨⟨q + 1, j + nq, by omega, .inl (by omega), by go_num, by rw [HJ.out, World.drewN_drewN], HS2.out⟩, by simp [intOf]; omega⟩
      · have hd : ltB (K.getD p e0) (K.getD q e0) = false := by simpa using hr
        rw [hd] at HLL
        have HR : Hid (riseB K = false) := by
          show riseB K = false
          unfold riseB
          rw [decide_eq_false_iff_not]
          intro h
          have := HQ.out
          have h2 := h p (by omega)
          rw [this] at h2
          exact hr h2
        have HJ := hid HS.out.1
        clear HS hd hr hs0 hs1 hc0 hc1 hw hq
        generalize K.getD p e0 = x0 at d0 HLL
        generalize K.getD q e0 = x1 at d1 HLL
        go_wp2_with fail
        go_quiet ((go_at_call 78; exact Calls.quiet_of_same (HLL.out _)))
        go_wp2_with fail
        go_ret
        rw [HR.out, HJ.out]
        exact ⟨rfl, j + nq, by rw [World.drewN_drewN]⟩
    · have hqi : ¬ ((p + 1 : Nat) : Int) < (K.length : Int) := by omega
      have HR : Hid (riseB K = true) := by
        show riseB K = true
        unfold riseB
        rw [decide_eq_true_eq]
        intro t ht
        exact HS.out.2 t (by omega)
      have HJ := hid HS.out.1
      obtain ⟨q, hq⟩ : ∃ q, p + 1 = q := ⟨_, rfl⟩
      rw [hq] at hqi ⊢
      clear HS hq
      go_wp2_with fail
      go_ret
      rw [HR.out, HJ.out]
      exact ⟨rfl, _, rfl⟩
end Go.Proofs.YtcbmhpdhbmjocaaGreat.Tx

/-
  Forms of texts. (Written by mktextsB.py.)
-/
namespace Go.Proofs.YtcbmhpdhbmjocaaGreat.Tx
open Go.ChangeShapes Go.WideShapes Go.ChangeAt Go.RowKit Cu
open Classical

/-- The keys that bytes say. -/
def keyV (KB : List Nat) (k : Nat) : List ByteArray := (textsV KB k).map strL
theorem keyV_len (KB : List Nat) (k : Nat) : (keyV KB k).length = k := by unfold keyV; rw [List.length_map, textsV_len]
/-- b is the form of n texts. -/
structure GoodT (b : List Nat) (n k : Nat) (KB CB : List Nat) : Prop where
  few : k ≤ 65536
  all : b = Cr.Cu.uv k ++ KB ++ CB
  keys : textsE KB (k : Int) = 0
  rise : riseB (keyV KB k) = true
  len : CB.length = (n * wd k + 7) / 8
  may : MayC k n CB
theorem rise_pair {K : List ByteArray} (h : riseB K = true) : K.Pairwise tlt := by
  unfold riseB at h
  rw [decide_eq_true_eq] at h
  have hs : ∀ d i, i + d + 1 < K.length → tlt (K.getD i e0) (K.getD (i + d + 1) e0) := by
    intro d
    induction d with
    | zero => intro i hi; exact h i (by omega)
    | succ d ih =>
      intro i hi
      have h1 := ih i (by omega)
      have h2 : tlt _ _ := h (i + d + 1) (by omega)
      rw [show i + (d + 1) + 1 = i + d + 1 + 1 by omega]
      exact tlt_trans h1 h2
  rw [List.pairwise_iff_getElem]
  intro i j hi hj hij
  have := hs (j - i - 1) i (by omega)
  rw [show i + (j - i - 1) + 1 = j by omega, List.getD_eq_getElem?_getD, List.getD_eq_getElem?_getD, List.getElem?_eq_getElem hi, List.getElem?_eq_getElem hj] at this
  exact this
theorem pair_rise {K : List ByteArray} (h : K.Pairwise tlt) : riseB K = true := by
  unfold riseB
  rw [decide_eq_true_eq]
  intro t ht
  rw [List.getD_eq_getElem?_getD, List.getD_eq_getElem?_getD, List.getElem?_eq_getElem (by omega), List.getElem?_eq_getElem (by omega)]
  exact List.pairwise_iff_getElem.1 h t (t + 1) (by omega) (by omega) (by omega)
theorem keys_strict (l : List ByteArray) : (keysI l).Pairwise tlt := by rw [← keys_eq]; exact (refKeys_ok l).1
theorem strL_bs (l : List ByteArray) : (l.map bs).map strL = l := by
  rw [List.map_map]
  conv => rhs; rw [← List.map_id l]
  exact List.map_congr_left fun x _ => str_bs x
/-- The form of a list is a form. -/
theorem form_good (l : List ByteArray) (hP : PutOk (keyB l)) (hK : (keysI l).length ≤ 65536) : GoodT (formT l) l.length (keysI l).length (encT (keyB l)) (packC (wd (keysI l).length) (codesI l)) := by
  have hcl : (codesI l).length = l.length := by unfold codesI; rw [List.length_map]
  have hfit : ∀ x ∈ codesI l, x < 2 ^ wd (keysI l).length := fun x hx => wd_fits hK (codesI_lt l x hx)
  have hkb := keyB_len l
  refine ⟨hK, rfl, ?_, ?_, by rw [packC_len, hcl], ?_, ?_, ?_⟩
  · have := textsE_encT hP
    rwa [hkb] at this
  · have h1 : keyV (encT (keyB l)) (keysI l).length = keysI l := by
      unfold keyV
      rw [← hkb, textsV_encT hP.2.2]
      exact strL_bs _
    rw [h1]
    exact pair_rise (keys_strict l)
  · rw [packC_of, hcl]
    exact packedD_end _ _ _
  · intro i hi
    rw [lnC_pack hfit (by omega)]
    exact codesI_lt l _ (List.getElem_mem _)
  · intro x hx
    have hm : (keysI l)[x] ∈ l := (keysI_mem l _).1 (List.getElem_mem hx)
    obtain ⟨i, hi, he⟩ := List.mem_iff_getElem.1 hm
    refine ⟨i, by omega, ?_⟩
    rw [lnC_pack hfit (by omega)]
    unfold codesI
    rw [List.getElem_map, he]
    exact idxT_get (nodup_tlt (keys_strict l)) hx
/-- The list that a form was read to. -/
def backT (n k : Nat) (KB CB : List Nat) : List ByteArray := (List.range n).map fun i => (keyV KB k).getD (lnC CB (wd k) i) e0
theorem backT_len (n k : Nat) (KB CB : List Nat) : (backT n k KB CB).length = n := by simp [backT]
theorem good_back {b : List Nat} {n k : Nat} {KB CB : List Nat} (h : GoodT b n k KB CB) (hlt : ∀ x ∈ b, x < 256) (hn : n ≤ 16777216) : putTE (backT n k KB CB) = 0 ∧ putTR (backT n k KB CB) = b := by
  have hp := rise_pair h.rise
  have hkl := keyV_len KB k
  obtain ⟨hz, hlk, hall⟩ := h.may
  have hKl : ∀ x ∈ KB, x < 256 := fun x hx => hlt x (by rw [h.all]; simp [hx])
  have hCl : ∀ x ∈ CB, x < 256 := fun x hx => hlt x (by rw [h.all]; simp [hx])
  have hmem : ∀ x, x ∈ keyV KB k ↔ x ∈ backT n k KB CB := fun x => by
    unfold backT
    constructor
    · intro hx
      obtain ⟨j, hj, rfl⟩ := List.mem_iff_getElem.1 hx
      obtain ⟨i, hi, he⟩ := hall j (by omega)
      refine List.mem_map.2 ⟨i, List.mem_range.2 hi, ?_⟩
      rw [he, List.getD_eq_getElem?_getD, List.getElem?_eq_getElem hj]
      rfl
    · intro hx
      obtain ⟨i, hi, rfl⟩ := List.mem_map.1 hx
      have hc := hlk i (List.mem_range.1 hi)
      rw [List.getD_eq_getElem?_getD, List.getElem?_eq_getElem (by omega)]
      exact List.getElem_mem _
  have hkeys : keysI (backT n k KB CB) = keyV KB k := by
    refine (sorted_unique (perm_same (nodup_tlt hp) ((sortI_perm _).nodup_iff.2 (dk_nodup _)) (fun x => ?_)) (hp.imp (fun h => leP_of_tlt h)) (sortI_rise _)).symm
    rw [hmem]
    exact (keysI_mem _ x).symm
  have hcodes : codesI (backT n k KB CB) = (List.range n).map (lnC CB (wd k)) := by
    unfold codesI
    rw [hkeys]
    unfold backT
    rw [List.map_map]
    apply List.map_congr_left
    intro i hi
    have hc : lnC CB (wd k) i < (keyV KB k).length := by rw [hkl]; exact hlk i (List.mem_range.1 hi)
    show idxT (keyV KB k) ((keyV KB k).getD (lnC CB (wd k) i) e0) = _
    rw [List.getD_eq_getElem?_getD, List.getElem?_eq_getElem hc]
    exact idxT_get (nodup_tlt hp) hc
  obtain ⟨m, hm, hm2, h4, hE, hh⟩ := textsE_ok h.keys
  have hmk : m = k := by omega
  subst hmk
  have hbv : keyB (backT n m KB CB) = textsV KB m := by
    unfold keyB
    rw [hkeys]
    unfold keyV
    rw [List.map_map]
    conv => rhs; rw [← List.map_id (textsV KB m)]
    refine List.map_congr_left fun p hp => bs_str fun c hc => ?_
    unfold textsV at hp
    obtain ⟨i, _, rfl⟩ := List.mem_map.1 hp
    unfold textN heapOf at hc
    exact hKl c (List.mem_of_mem_drop (List.mem_of_mem_drop (List.mem_of_mem_take hc)))
  have hP : PutOk (keyB (backT n m KB CB)) := by rw [hbv]; exact putOk_textsV hKl hm2 hE hh
  have hf := h.few
  unfold putTE putTR
  rw [backT_len, hkeys, hkl, if_neg (by omega), if_neg (by omega), if_pos hP, if_neg (by omega), if_neg (by omega), if_pos hP]
  refine ⟨rfl, ?_⟩
  unfold formT
  rw [hkeys, hcodes, hkl, hbv, encT_textsV hKl h4 hE hh, packC_back h.len hCl hz]
  exact h.all.symm
end Go.Proofs.YtcbmhpdhbmjocaaGreat.Tx

/-
  dict.Texts of any bytes. (Written by mktextsB.py.)
-/
namespace Go.Proofs.YtcbmhpdhbmjocaaGreat.Tx
open Go.ChangeShapes Go.WideShapes Go.ChangeAt Go.RowKit Cu
open Classical

/-- What reading answers. -/
def ReadT (b : List Nat) (n : Nat) (w : World) (e : Ending) (w' : World) : Prop :=
  Below w.heap.size w w' ∧ ((e = readNo 90 ∧ ∀ k KB CB, ¬ GoodT b n k KB CB) ∨ ∃ k KB CB a1 c1 ac cc, GoodT b n k KB CB ∧ e = .returned (.tuple #[.slice a1 k c1, .int .i64 (wd k : Int), .slice ac CB.length cc, .int .i64 0]) ∧ Strs w' a1 (keyV KB k) ∧ Bytes w' ac CB ∧ CB.length ≤ cc ∧ cc ≤ maxLen)
set_option maxRecDepth 8000 in
set_option maxHeartbeats 2000000 in
theorem readG_not (a : Option Addr) (b : List Nat) (c n : Nat) (w : World) (hn : n ≤ 16777216) (hng : ∀ k KB CB, ¬ GoodT b n k KB CB)
    (HC : Hid (Calls Tryz.prog 49 #[.slice a b.length c, .int .i64 (n : Int)] w fun e w' => ∃ (v0 v1 : Int) (a2 a3 : Option Addr) (n2 c2 n3 c3 : Nat), e = .returned (.tuple #[.agg #[.int .i64 v0, .int .i64 v1, .slice a2 n2 c2, .slice a3 n3 c3], .bool false]) ∧ Below w.heap.size w w')) :
    Calls Tryz.prog 27 #[.slice a b.length c, .int .i64 (n : Int), .func (.func 28) #[] #[]] w fun e w' => ReadT b n w e w' := by
  have hn1 : ¬ (n : Int) < 0 := by omega
  have hn2 : ¬ (16777216 : Int) < (n : Int) := by omega
  have HNG := hid hng
  clear hng
  go_enter Tryz.func27, Tryz.ntmps27
  go_wp2_with fail
  refine HC.out.mono ?_
  rintro e w1 ⟨v0, v1, a2, a3, n2, c2, n3, c3, rfl, hb1⟩
  have HB1 := hid hb1
  clear hb1 HC
  go_wp2_with fail
  refine bodyPost_ret (v := .tuple #[.slice none 0 0, .int .i64 0, .slice none 0 0, .int .i64 90]) (by simp [results, Tryz.results27, go_sem]) rfl ?_
  exact ⟨below_up HB1.out (below_new _ _), .inl ⟨rfl, HNG.out⟩⟩
set_option maxRecDepth 8000 in
set_option maxHeartbeats 4000000 in
theorem readG_ok (a : Option Addr) (b : List Nat) (c n k : Nat) (KB CB : List Nat) (w : World) (hn : n ≤ 16777216) (hk : k ≤ 65536) (hlt : ∀ x ∈ b, x < 256) (hall : b = Cr.Cu.uv k ++ KB ++ CB) (hlen : CB.length = (n * wd k + 7) / 8)
    (HC : Hid (Calls Tryz.prog 49 #[.slice a b.length c, .int .i64 (n : Int)] w fun e w' => ∃ ak ck ac cc, e = .returned (.tuple #[.agg #[.int .i64 (k : Int), .int .i64 (wd k : Int), .slice ak KB.length ck, .slice ac CB.length cc], .bool true]) ∧ Bytes w' ak KB ∧ NewL w w' (.slice ac CB.length cc) CB ∧ (KB.length ≤ ck ∧ ck ≤ maxLen))) :
    Calls Tryz.prog 27 #[.slice a b.length c, .int .i64 (n : Int), .func (.func 28) #[] #[]] w fun e w' => ReadT b n w e w' := by
  have hn1 : ¬ (n : Int) < 0 := by omega
  have hn2 : ¬ (16777216 : Int) < (n : Int) := by omega
  have hKl : ∀ x ∈ KB, x < 256 := fun x hx => hlt x (by rw [hall]; simp [hx])
  have hCl : ∀ x ∈ CB, x < 256 := fun x hx => hlt x (by rw [hall]; simp [hx])
  have HCD := hid (fun vk ac cc wx hA hc hc2 => codes_any vk k n ac CB cc wx hA hCl hk hn hlen hc hc2)
  have HGD : Hid (textsE KB (k : Int) = 0 → riseB (keyV KB k) = true → MayC k n CB → GoodT b n k KB CB) := fun h1 h2 h3 => ⟨hk, hall, h1, h2, hlen, h3⟩
  have HU1 : Hid (∀ k' KB' CB', GoodT b n k' KB' CB' → GoodT b n k KB CB) := fun k' KB' CB' h => by
    obtain ⟨rfl, rfl, rfl⟩ := good_one (n := n) hk h.few hall h.all hlen h.len
    exact h
  obtain ⟨wk, hwk⟩ : ∃ wk, wd k = wk := ⟨_, rfl⟩
  have HWK := hid hwk
  rw [hwk] at HC HCD
  have HKL := hid hKl
  clear hlt hall hlen hKl hCl hwk
  go_enter Tryz.func27, Tryz.ntmps27
  go_wp2_with fail
  refine HC.out.mono ?_
  rintro e w1 ⟨ak, ck, ac, cc, rfl, hK, hN, hck⟩
  obtain ⟨a', c', hv, hm1, hm2, hm3⟩ := hN.1.form
  simp at hv
  obtain ⟨rfl, rfl⟩ := hv
  have HK := hid hK
  have HN := hid hN
  have hck1 := hck.1
  have hck2 := hck.2
  simp only [maxLen] at hck2 hm2
  clear hK hN hck HC hm3
  go_wp2_with fail
  have b2 := below_new w1 (.cells #[.int .i64 (k : Int), .int .i64 (wk : Int), .slice ak KB.length ck, .slice ac CB.length cc] 89)
  have k2 := heap_new w1 (.cells #[.int .i64 (k : Int), .int .i64 (wk : Int), .slice ak KB.length ck, .slice ac CB.length cc] 89)
  have hpb : w1.heap.size < (w1.alloc (.cells #[.int .i64 (k : Int), .int .i64 (wk : Int), .slice ak KB.length ck, .slice ac CB.length cc] 89)).heap.size := by simp
  have HK2 := hid (HK.out.later b2)
  have HN2 : Hid (Bytes (w1.alloc (.cells #[.int .i64 (k : Int), .int .i64 (wk : Int), .slice ak KB.length ck, .slice ac CB.length cc] 89)) ac CB) := Nums.later (show Bytes w1 ac CB from HN.out.1.nums) b2
  have B2 := hid (below_up HN.out.2 b2)
  generalize w1.alloc (.cells #[.int .i64 (k : Int), .int .i64 (wk : Int), .slice ak KB.length ck, .slice ac CB.length cc] 89) = w2 at *
  generalize w1.heap.size = pb at *
  clear b2 HK HN
  have HI := hid (Pt.pTexts ak KB ck (k : Int) w2 HK2.out HKL.out hck1 (by omega))
  by_cases hE : textsE KB (k : Int) = 0
  · have hkl : textsE KB (k : Int) = 0 := hE
    have hR : (textsR KB (k : Int)).map strL = keyV KB k := by unfold textsR keyV; rw [if_pos hE, Int.toNat_natCast]
    rw [hE, hR] at HI
    have t0 : ((0 : Nat) : Int) = 0 := rfl
    rw [t0] at HI
    clear t0 hE hR
    refine HI.out.mono ?_
    rintro e w3 ⟨v3, rfl, o3, b3⟩
    obtain ⟨a3, c3, rfl, _, _, _, i3⟩ := o3.form
    have k3 := (b3.block pb hpb).trans k2
    have I3 := hid i3
    have N3 := hid (HN2.out.later b3)
    have B3 := hid (below_up B2.out b3)
    have hdl : (keyV KB k).length = k := keyV_len _ _
    have HR := hid (rise_any a3 (keyV KB k) c3 w3 i3 (by omega))
    rw [hdl] at HR ⊢
    have hp3 : pb < w3.heap.size := (Array.getElem?_eq_some_iff.1 k3).1
    have HKK := hid hkl
    clear o3 i3 b3 k2 HI HK2 HN2 B2 hpb hdl hkl
    have HRB : Hid (∀ r, riseB (keyV KB k) = r → riseB (keyV KB k) = r) := fun r h => h
    obtain ⟨rb, hrb⟩ : ∃ rb, riseB (keyV KB k) = rb := ⟨_, rfl⟩
    rw [hrb] at HR
    have HRB2 := hid hrb
    clear HRB hrb
    obtain ⟨KD, hKD⟩ : ∃ KD, keyV KB k = KD := ⟨_, rfl⟩
    have HKD := hid hKD
    rw [hKD] at HRB2 I3
    clear hKD
    go_wp2_with fail
    refine HR.out.mono ?_
    rintro e w4 ⟨rfl, j4, hj4⟩
    have b4 : Below w3.heap.size w3 w4 := by rw [hj4]; exact below_drewN (Below.refl _ _) _
    have k4 := (b4.block pb hp3).trans k3
    have I4 := hid (I3.out.later b4)
    have N4 := hid (N3.out.later b4)
    have B4 := hid (below_up B3.out b4)
    have hp4 : pb < w4.heap.size := Nat.lt_of_lt_of_le hp3 b4.size
    have p0 : w4.cell? ⟨pb, 0, none⟩ = some (.int .i64 (k : Int)) := by rw [cell_of_row _ _ _ _ _ _ k4]; rfl
    have p1 : w4.cell? ⟨pb, 1, none⟩ = some (.int .i64 (wk : Int)) := by rw [cell_of_row _ _ _ _ _ _ k4]; rfl
    have p2 : w4.cell? ⟨pb, 2, none⟩ = some (.slice ak KB.length ck) := by rw [cell_of_row _ _ _ _ _ _ k4]; rfl
    have p3 : w4.cell? ⟨pb, 3, none⟩ = some (.slice ac CB.length cc) := by rw [cell_of_row _ _ _ _ _ _ k4]; rfl
    clear hj4 b4 k3 I3 N3 B3 HR hp3
    cases rb with
    | false =>
      go_wp2_with fail
      refine bodyPost_ret (v := .tuple #[.slice none 0 0, .int .i64 0, .slice none 0 0, .int .i64 90]) (by simp [results, Tryz.results27, go_sem]) rfl ?_
      exact ⟨B4.out, .inl ⟨rfl, fun k' KB' CB' h => by have h2 := (HU1.out k' KB' CB' h).rise; rw [HKD.out, HRB2.out] at h2; cases h2⟩⟩
    | true =>
      have HCX := hid (HCD.out (.slice ak KB.length ck) ac cc w4 N4.out hm1 (by omega))
      go_wp2_with fail
      refine HCX.out.mono ?_
      rintro e w5 ⟨r5, rfl, h5, b5⟩
      have k5 := (b5.block pb hp4).trans k4
      have r1 : w5.cell? ⟨pb, 1, none⟩ = some (.int .i64 (wk : Int)) := by rw [cell_of_row _ _ _ _ _ _ k5]; rfl
      have r3 : w5.cell? ⟨pb, 3, none⟩ = some (.slice ac CB.length cc) := by rw [cell_of_row _ _ _ _ _ _ k5]; rfl
      have HF : Hid (Strs w5 a3 KD ∧ Bytes w5 ac CB ∧ Below w.heap.size w w5) := ⟨I4.out.later b5, N4.out.later b5, below_up B4.out b5⟩
      have H5 := hid h5
      clear b5 k4 k5 p0 p1 p2 p3 I4 N4 B4 HCX HCD h5
      cases r5 with
      | false =>
        go_wp2_with fail
        refine bodyPost_ret (v := .tuple #[.slice none 0 0, .int .i64 0, .slice none 0 0, .int .i64 90]) (by simp [results, Tryz.results27, go_sem]) rfl ?_
        exact ⟨HF.out.2.2, .inl ⟨rfl, fun k' KB' CB' h => by have h2 := H5.out.2 (HU1.out k' KB' CB' h).may; cases h2⟩⟩
      | true =>
        have HGO : Hid (GoodT b n k KB CB) := HGD.out HKK.out (by rw [HKD.out]; exact HRB2.out) (H5.out.1 rfl)
        go_wp2_with fail
        go_quiet (fail)
        go_wp2_with fail
        refine bodyPost_ret (v := .tuple #[.slice a3 k c3, .int .i64 (wk : Int), .slice ac CB.length cc, .int .i64 0]) (by simp [results, Tryz.results27, go_sem]) rfl ?_
        refine ⟨below_up HF.out.2.2 (below_drewN (Below.refl _ _) _), .inr ⟨k, KB, CB, a3, c3, ac, cc, HGO.out, by rw [HWK.out], ?_, HF.out.2.1.later (below_drewN (Below.refl _ _) _), hm1, by simp only [maxLen]; omega⟩⟩
        rw [HKD.out]
        exact HF.out.1.later (below_drewN (Below.refl _ _) _)
  · have HNE : Hid (¬ textsE KB (k : Int) = 0) := hE
    have hEi : ((textsE KB (k : Int) : Nat) : Int) ≠ 0 := by omega
    have hEb : (((textsE KB (k : Int) : Nat) : Int) != 0) = true := by simpa using hE
    generalize ((textsE KB (k : Int) : Nat) : Int) = E at *
    refine HI.out.mono ?_
    rintro e w3 ⟨v3, rfl, o3, b3⟩
    obtain ⟨a3, c3, rfl, _⟩ := o3.form
    have B3 := hid (below_up B2.out b3)
    clear o3 b3 HI HK2 HN2 B2 hE
    go_wp2_with fail
    refine bodyPost_ret (v := .tuple #[.slice none 0 0, .int .i64 0, .slice none 0 0, .int .i64 90]) (by simp [results, Tryz.results27, go_sem]) rfl ?_
    exact ⟨B3.out, .inl ⟨rfl, fun k' KB' CB' h => HNE.out (HU1.out k' KB' CB' h).keys⟩⟩
theorem readG_any (a : Option Addr) (b : List Nat) (c n : Nat) (w : World) (hA : Bytes w a b) (ha : a = none → b.length = 0 ∧ c = 0) (hlt : ∀ x ∈ b, x < 256) (hl : b.length + 20 ≤ 140737488355328) (hn : n ≤ 16777216) :
    Calls Tryz.prog 27 #[.slice a b.length c, .int .i64 (n : Int), .func (.func 28) #[] #[]] w fun e w' => ReadT b n w e w' := by
  obtain ⟨k, r1, e3⟩ : ∃ k r1, Cr.Cu.Rd.uv ⟨b, 0, 0⟩ = (k, r1) := ⟨_, _, rfl⟩
  obtain ⟨hlf, hk2⟩ := left_le hlt e3
  by_cases hk : k ≤ 65536
  · obtain ⟨sz, hsz⟩ : ∃ sz, (n * wd k + 7) / 8 = sz := ⟨_, rfl⟩
    obtain ⟨lf, hlf2⟩ : ∃ lf, Cr.Rd.left r1 = lf := ⟨_, rfl⟩
    obtain ⟨KB, r2, e7⟩ : ∃ KB r2, Cr.Cu.Rd.bytes r1 ((lf : Int) - (sz : Int)) = (KB, r2) := ⟨_, _, rfl⟩
    obtain ⟨CB, r3, e8⟩ : ∃ CB r3, Cr.Cu.Rd.bytes r2 (sz : Int) = (CB, r3) := ⟨_, _, rfl⟩
    obtain ⟨E, hE⟩ : ∃ E : Int, (if r3.e = 0 ∧ r3.at' < r3.l.length then 72 else (r3.e : Int)) = E := ⟨_, rfl⟩
    by_cases hE0 : E = 0
    · subst hE0
      obtain ⟨hall, hlen⟩ := cut_took hlt e3 e7 e8 hE
      exact readG_ok a b c n k KB CB w hn hk hlt hall (by rw [hlen, hsz]) (cut_fit a b c n k lf sz r1 r2 r3 KB CB 0 w hA ha hlt hl hn hk e3 hlf2 (by omega) hsz e7 e8 hE true (by decide))
    · exact readG_not a b c n w hn (fun k' KB' CB' h => by
        obtain ⟨r1', f1, f2, f3, f4⟩ := good_cut h.few h.all
        rw [e3, Prod.mk.injEq] at f1
        obtain ⟨rfl, rfl⟩ := f1
        have hs : sz = CB'.length := by rw [h.len, hsz]
        obtain ⟨g2, g3⟩ := good_bytes f2 f3
        rw [hlf2] at f4
        rw [f4, hs, show (((KB'.length + CB'.length : Nat) : Int) - (CB'.length : Int)) = (KB'.length : Int) by omega] at e7
        rw [e7, Prod.mk.injEq] at g2
        obtain ⟨rfl, rfl⟩ := g2
        rw [hs, g3, Prod.mk.injEq] at e8
        obtain ⟨rfl, rfl⟩ := e8
        apply hE0
        rw [← hE, if_neg (good_end f2 f3).2]
        exact (good_end f2 f3).1) ((cut_fit a b c n k lf sz r1 r2 r3 KB CB E w hA ha hlt hl hn hk e3 hlf2 (by omega) hsz e7 e8 hE false (by simpa using hE0)).mono fun e w' h => by
        obtain ⟨ak, ck, ac, cc, h1, _, h2, _⟩ := h
        exact ⟨_, _, _, _, _, _, _, _, h1, h2.2⟩)
  · exact readG_not a b c n w hn (fun k' KB' CB' h => by
      obtain ⟨r1', f1, _⟩ := good_cut h.few h.all
      rw [e3, Prod.mk.injEq] at f1
      obtain ⟨rfl, rfl⟩ := f1
      exact hk h.few) ((cut_big a b c n k r1 w hA ha hlt hl (by omega) hk2 e3).mono fun e w' h => ⟨_, _, _, _, _, _, _, _, h.1, h.2⟩)
set_option maxHeartbeats 400000 in
theorem dTextsG_any (a : Option Addr) (b : List Nat) (c n : Nat) (w : World) (hA : Bytes w a b) (ha : a = none → b.length = 0 ∧ c = 0) (hlt : ∀ x ∈ b, x < 256) (hl : b.length + 20 ≤ 140737488355328) (hn : n ≤ 16777216) :
    Calls Tryz.prog 9 #[.slice a b.length c, .int .i64 (n : Int)] w fun e w' => ReadT b n w e w' := by
  have HR := hid (readG_any a b c n w hA ha hlt hl hn)
  clear hA ha
  go_enter Tryz.func9, Tryz.ntmps9
  go_wp2_with fail
  refine HR.out.mono ?_
  rintro e w1 ⟨hb, he⟩
  rcases he with ⟨rfl, hng⟩ | ⟨k, KB, CB, a1, c1, ac, cc, hG, rfl, h1, h2, h3, h4⟩
  · have HB := hid hb
    have HNG := hid hng
    clear hb HR hng
    unfold readNo
    go_wp2_with fail
    refine bodyPost_ret (v := .tuple #[.slice none 0 0, .int .i64 0, .slice none 0 0, .int .i64 90]) (by simp [results, Tryz.results9, go_sem]) rfl ?_
    exact ⟨HB.out, .inl ⟨rfl, HNG.out⟩⟩
  · have HF : Hid (ReadT b n w (.returned (.tuple #[.slice a1 k c1, .int .i64 (wd k : Int), .slice ac CB.length cc, .int .i64 0])) w1) := ⟨hb, .inr ⟨k, KB, CB, a1, c1, ac, cc, hG, rfl, h1, h2, h3, h4⟩⟩
    clear hb hG h1 h2 h3 h4 HR
    go_wp2_with fail
    refine bodyPost_ret (v := .tuple #[.slice a1 k c1, .int .i64 (wd k : Int), .slice ac CB.length cc, .int .i64 0]) (by simp [results, Tryz.results9, go_sem]) rfl ?_
    exact HF.out
end Go.Proofs.YtcbmhpdhbmjocaaGreat.Tx

import Derived.Test.YthgnibphhiaecaaGreatAFind
import Derived.Maps.OwnSet
import Derived.StringKeys
/-
  schema: names, columns that may be; the map of names. (Written by mkybase.py.)
-/
namespace Go.Proofs.YthgnibphhiaecaaGreat.Sc
open Go.ChangeShapes Go.WideShapes Go.ChangeAt Go.RowKit Cu Vl

def letB (x : Nat) : Bool := (decide (97 ≤ x) && decide (x ≤ 122)) || (decide (65 ≤ x) && decide (x ≤ 90))
def digB (x : Nat) : Bool := decide (48 ≤ x) && decide (x ≤ 57)
def chB (x : Nat) : Bool := letB x || digB x || decide (x = 95)
def namL (l : List Nat) : Bool := decide (1 ≤ l.length) && decide (l.length ≤ 64) && letB (ofL l 0) && l.all chB
def namB (s : ByteArray) : Bool := namL (bs s)
def typB (T : Int) : Bool := decide (T = 1) || decide (T = 2)
def colB (c : Col) : Bool := namB c.nm && typB c.T
def nms (l : List Col) : List ByteArray := l.map Col.nm
def chkB (l : List Col) : Bool := decide (1 ≤ l.length) && decide (l.length ≤ 256) && l.all colB && decide ((nms l).Nodup)
def chkE (l : List Col) : Int := if chkB l = true then 0 else 150
theorem nms_len (l : List Col) : (nms l).length = l.length := by simp [nms]
theorem chkE_ok {l : List Col} (h : chkB l = true) : chkE l = 0 := by unfold chkE; rw [if_pos h]
theorem chkE_no {l : List Col} (h : chkB l = false) : chkE l = 150 := by unfold chkE; rw [if_neg (by simp [h])]
theorem chkB_iff (l : List Col) : chkB l = true ↔ (1 ≤ l.length ∧ l.length ≤ 256) ∧ (∀ c ∈ l, colB c = true) ∧ (nms l).Nodup := by
  unfold chkB
  simp only [Bool.and_eq_true, decide_eq_true_eq, List.all_eq_true]
  exact ⟨fun ⟨⟨h1, h2⟩, h3⟩ => ⟨h1, h2, h3⟩, fun ⟨h1, h2, h3⟩ => ⟨⟨h1, h2⟩, h3⟩⟩
theorem chkB_few {l : List Col} (h : ¬ (1 ≤ l.length ∧ l.length ≤ 256)) : chkB l = false := by
  rw [Bool.eq_false_iff]; intro e; exact h ((chkB_iff l).1 e).1
theorem chkB_bad {l : List Col} {c : Col} (hc : c ∈ l) (h : colB c = false) : chkB l = false := by
  rw [Bool.eq_false_iff]; intro e; have := ((chkB_iff l).1 e).2.1 c hc; rw [h] at this; cases this
theorem chkB_dup {l : List Col} (h : ¬ (nms l).Nodup) : chkB l = false := by
  rw [Bool.eq_false_iff]; intro e; exact h ((chkB_iff l).1 e).2.2
theorem nms_take (l : List Col) (i : Nat) : nms (l.take i) = (nms l).take i := by simp [nms, List.map_take]
theorem nms_snoc {l : List Col} {i : Nat} (h : i < l.length) : nms (l.take (i + 1)) = nms (l.take i) ++ [l[i].nm] := by
  rw [List.take_add_one, List.getElem?_eq_getElem h]; simp only [nms, Option.toList_some, List.map_append, List.map_cons, List.map_nil]
theorem dup_at {l : List Col} {i : Nat} (h : i < l.length) (hm : l[i].nm ∈ nms (l.take i)) : ¬ (nms l).Nodup := fun hn => by
  have h1 : (nms (l.take (i + 1))).Nodup := by rw [nms_take]; exact hn.sublist (List.take_sublist _ _)
  rw [nms_snoc h, List.nodup_append] at h1
  exact h1.2.2 _ hm _ (List.mem_singleton.2 rfl) rfl
theorem dup_of {l : List Col} {i j : Nat} (hj : j < i) (hi : i < l.length) (h : (l[j]'(by omega)).nm = l[i].nm) : ¬ (nms l).Nodup := fun hn => by
  have := List.nodup_iff_pairwise_ne.1 hn
  have h1 := (List.pairwise_iff_getElem.1 this) j i (by rw [nms_len]; omega) (by rw [nms_len]; omega) hj
  apply h1
  simpa [nms] using h
theorem nodup_snoc {l : List Col} {i : Nat} (h : i < l.length) (hn : (nms (l.take i)).Nodup) (hm : ¬ l[i].nm ∈ nms (l.take i)) : (nms (l.take (i + 1))).Nodup := by
  rw [nms_snoc h, List.nodup_append]
  exact ⟨hn, by simp, fun a ha b hb e => by simp at hb; subst hb; exact hm (e ▸ ha)⟩

set_option maxHeartbeats 1000000 in
theorem isLetter_any (x : Nat) (w : World) : Calls Tryz.prog 65 #[.int .u8 (x : Int)] w fun e w' => e = .returned (.bool (letB x)) ∧ w' = w := by
  have HL : Hid (letB x = ((decide (97 ≤ x) && decide (x ≤ 122)) || (decide (65 ≤ x) && decide (x ≤ 90)))) := rfl
  generalize letB x = q at *
  go_enter Tryz.func65, Tryz.ntmps65
  go_wp2_with fail
  all_goals (go_ret; refine ⟨ret_bool ?_, rfl⟩; rw [HL.out, Bool.eq_iff_iff]; simp only [Bool.and_eq_true, Bool.or_eq_true, decide_eq_true_eq, reduceCtorEq, eq_self, true_iff, false_iff]; omega)
set_option maxHeartbeats 1000000 in
theorem isDigit_any (x : Nat) (w : World) : Calls Tryz.prog 66 #[.int .u8 (x : Int)] w fun e w' => e = .returned (.bool (digB x)) ∧ w' = w := by
  have HL : Hid (digB x = (decide (48 ≤ x) && decide (x ≤ 57))) := rfl
  generalize digB x = q at *
  go_enter Tryz.func66, Tryz.ntmps66
  go_wp2_with fail
  all_goals (go_ret; refine ⟨ret_bool ?_, rfl⟩; rw [HL.out, Bool.eq_iff_iff]; simp only [Bool.and_eq_true, decide_eq_true_eq, reduceCtorEq, false_iff]; omega)
set_option maxHeartbeats 1000000 in
theorem isType_any (x : Int) (w : World) : Calls Tryz.prog 54 #[.int .i64 x] w fun e w' => e = .returned (.bool (typB x)) ∧ w' = w := by
  by_cases h1 : x = 1
  · subst h1
    go_enter Tryz.func54, Tryz.ntmps54
    go_wp2_with fail
    go_ret
    exact ⟨rfl, rfl⟩
  · have hd1 : (x == 1) = false := by simpa using h1
    have HT : Hid (typB x = (x == 2)) := by unfold typB; rw [decide_eq_false h1]; rfl
    clear h1
    go_enter Tryz.func54, Tryz.ntmps54
    go_wp2_with fail
    go_ret
    rw [HT.out]
    exact ⟨rfl, rfl⟩
theorem bs_at {s : ByteArray} {i : Nat} (h : i < s.size) : ofL (bs s) i = s[i].toNat := by
  have h2 : i < s.data.toList.length := h
  unfold ofL bs
  rw [List.getD_eq_getElem?_getD, List.getElem?_map, List.getElem?_eq_getElem h2]
  rfl
theorem bs_get {s : ByteArray} {i : Nat} (h : i < s.size) : (bs s)[i]'(by rw [bs_len]; exact h) = s[i].toNat := by
  have := bs_at h
  have h2 := ofL_in (l := bs s) (j := i) (by rw [bs_len]; exact h)
  rw [List.getElem?_eq_getElem (by rw [bs_len]; exact h)] at h2
  rw [Option.some.inj h2, this]
theorem all_of_take {l : List Nat} {p : Nat → Bool} {i : Nat} (h : (l.take i).all p = true) (hi : i < l.length) (hp : p l[i] = true) : (l.take (i + 1)).all p = true := by
  rw [List.take_add_one, List.getElem?_eq_getElem hi]
  simp only [Option.toList_some, List.all_append, h, List.all_cons, List.all_nil, hp, Bool.and_self]
theorem all_not {l : List Nat} {p : Nat → Bool} {i : Nat} (hi : i < l.length) (hp : p l[i] = false) : l.all p = false := by
  rw [Bool.eq_false_iff]
  intro h
  rw [List.all_eq_true] at h
  have := h l[i] (List.getElem_mem hi)
  rw [hp] at this
  cases this
theorem namB_of {s : ByteArray} (h0 : ¬ s.size = 0) (h1 : ¬ 64 < s.size) : namB s = (letB (s[0]'(by omega)).toNat && (bs s).all chB) := by
  unfold namB namL
  rw [bs_len, bs_at (by omega), decide_eq_true (show 1 ≤ s.size by omega), decide_eq_true (show s.size ≤ 64 by omega)]
  rfl
theorem start1 {s : ByteArray} (h : 0 < s.size) (hl : letB (s[0]'h).toNat = true) : ((bs s).take 1).all chB = true := by
  refine all_of_take (i := 0) rfl (by rw [bs_len]; exact h) ?_
  rw [bs_get h]
  unfold chB
  rw [hl]
  rfl
set_option maxRecDepth 4000 in
set_option maxHeartbeats 4000000 in
theorem isName_any (s : ByteArray) (w : World) (hs : s.size ≤ 140737488355328) : Calls Tryz.prog 53 #[.string s] w fun e w' => e = .returned (.bool (namB s)) ∧ w' = w := by
  by_cases h0 : s.size = 0
  · have HF : Hid (namB s = false) := by unfold namB namL; rw [bs_len, h0]; rfl
    have hz : ((s.size : Int) == 0) = true := by rw [h0]; rfl
    have hl1 : (s.size : Int) < 1 := by omega
    go_enter Tryz.func53, Tryz.ntmps53
    go_wp2_with fail
    go_ret
    rw [HF.out]
    exact ⟨rfl, rfl⟩
  · have hz : ((s.size : Int) == 0) = false := by rw [beq_eq_false_iff_ne]; omega
    have hl1 : ¬ (s.size : Int) < 1 := by omega
    by_cases h64 : 64 < s.size
    · have HF : Hid (namB s = false) := by unfold namB namL; show _ = false; rw [bs_len, decide_eq_false (show ¬ s.size ≤ 64 by omega)]; simp
      have h64i : (64 : Int) < (s.size : Int) := by omega
      go_enter Tryz.func53, Tryz.ntmps53
      go_wp2_with fail
      go_ret
      rw [HF.out]
      exact ⟨rfl, rfl⟩
    · have h64i : ¬ (64 : Int) < (s.size : Int) := by omega
      have HN := hid (namB_of h0 h64)
      have hpos : 0 < s.size := by omega
      have HC := hid fun x w => isLetter_any x w
      have HD := hid fun x w => isDigit_any x w
      go_enter Tryz.func53, Tryz.ntmps53
      go_wp2_with fail
      refine (HC.out _ _).mono ?_
      rintro e w1 ⟨rfl, rfl⟩
      by_cases hq : letB (s[0]'hpos).toNat = true
      · rw [hq] at HN ⊢
        have HQ := hid hq
        clear hq
        go_wp2_with fail
        go_loopw [20] (fun y wr => ∃ i : Nat, i ≤ s.size ∧ y = .int .i64 (i : Int) ∧ Hid (((bs s).take i).all chB = true) ∧ wr = w1) (fun y _ => s.size - (intOf y).toNat)
        case atStart => exact ⟨0, Nat.zero_le _, rfl, rfl, rfl⟩
        case round =>
          obtain ⟨i, hi, rfl, HE, rfl⟩ := hrel
          by_cases hlt : i < s.size
          · have hii : (i : Int) < (s.size : Int) := by omega
            have HB := hid (bs_get hlt)
            have HNE := hid (show chB (s[i]'hlt).toNat = (letB (s[i]'hlt).toNat || digB (s[i]'hlt).toNat || decide ((s[i]'hlt).toNat = 95)) from rfl)
            have HYes : Hid (chB (s[i]'hlt).toNat = true → ((bs s).take (i + 1)).all chB = true) := fun h => all_of_take HE.out (by rw [bs_len]; exact hlt) (by rw [HB.out]; exact h)
            have HNo : Hid (chB (s[i]'hlt).toNat = false → (bs s).all chB = false) := fun h => all_not (by rw [bs_len]; exact hlt) (by rw [HB.out]; exact h)
            obtain ⟨x, hx⟩ : ∃ x : Nat, (s[i]'hlt).toNat = x := ⟨_, rfl⟩
            rw [hx] at HB HNE HYes HNo
            go_wp2_with fail
            refine (HC.out _ _).mono ?_
            rintro e w2 ⟨rfl, rfl⟩
            cases hq : letB x
            · rw [hq] at HNE
              go_wp2_with fail
              refine (HD.out _ _).mono ?_
              rintro e w3 ⟨rfl, rfl⟩
              cases hdg : digB x
              · rw [hdg] at HNE
                by_cases h95 : x = 95
                · have HY := hid (HYes.out (by rw [HNE.out, h95]; rfl))
                  subst h95
                  clear HYes HNo HNE hq hdg
                  go_wp2_with fail
                  exact ⟨⟨i + 1, by omega, by go_num, HY, trivial⟩, by simp [intOf]; omega⟩
                · have HF := hid (HNo.out (by rw [HNE.out, decide_eq_false h95]; rfl))
                  have h95i : ((x : Int) == 95) = false := by simp; omega
                  have h95n : ¬ (x : Int) = 95 := by omega
                  clear HYes HNo HNE hq hdg h95
                  go_wp2_with fail
                  go_ret
                  rw [HN.out, HF.out]
                  exact ⟨rfl, rfl⟩
              · rw [hdg] at HNE
                have HY := hid (HYes.out (by rw [HNE.out]; rfl))
                clear HYes HNo HNE hq hdg
                go_wp2_with fail
                exact ⟨⟨i + 1, by omega, by go_num, HY, trivial⟩, by simp [intOf]; omega⟩
            · rw [hq] at HNE
              have HY := hid (HYes.out (by rw [HNE.out]; rfl))
              clear HYes HNo HNE hq
              go_wp2_with fail
              exact ⟨⟨i + 1, by omega, by go_num, HY, trivial⟩, by simp [intOf]; omega⟩
          · obtain rfl : i = s.size := by omega
            have HF : Hid ((bs s).all chB = true) := by have := HE.out; rwa [List.take_of_length_le (by rw [bs_len]; exact Nat.le_refl _)] at this
            go_wp2_with fail
            go_ret
            rw [HN.out, HF.out]
            exact ⟨rfl, rfl⟩
      · have hq2 : letB (s[0]'hpos).toNat = false := by simpa using hq
        rw [hq2] at HN ⊢
        clear hq
        go_wp2_with fail
        go_ret
        rw [HN.out]
        exact ⟨rfl, rfl⟩
abbrev ks (s : ByteArray) : Lit := .string s.data.toList
theorem keyedS : Maps.Keyed Tryz.prog 9 := Maps.string_keyed Tryz.underlying9
theorem ks_ne {x y : ByteArray} (h : x ≠ y) : ks x ≠ ks y := fun e => h (by
  have h2 : x.data.toList = y.data.toList := by injection e
  exact ByteArray.ext (Array.toList_inj.1 h2))
def eR (v : Value) : Option (DataW Unit × List MemPlace) := match v with
  | .agg a => if a.size = 0 then some (.lit (.bool true), []) else none
  | _ => none
theorem eR_inv {v : Value} {z : DataW Unit × List MemPlace} (h : eR v = some z) : v = .agg #[] := by
  unfold eR at h
  split at h
  · split at h
    · rename_i a hs
      rw [Array.size_eq_zero_iff.1 hs]
    · cases h
  · cases h
theorem eR_yes : eR (.agg #[]) = some (.lit (.bool true), []) := rfl
theorem infoE : (Tryz.prog.info? 78).map (fun i => (i.zero, i.size, i.bytes)) = some (some (.agg #[]), 0, 0) := by kernel_rfl
theorem zeroE (w : World) : (zeroValue 78).run Tryz.prog w = .ok (.agg #[]) w := by
  obtain ⟨i0, hi0, hz0, _, _⟩ := info_parts infoE
  simp [zeroValue, typeInfo, hi0, hz0]
/-- Block b is a map with just these names. -/
def MapS (w : World) (b n : Nat) (L : List ByteArray) : Prop :=
  ∃ D : DataW Unit, w.ownsMap Tryz.prog 9 eR b n D ∧ ∀ s, Maps.has D (ks s) = true ↔ s ∈ L
theorem MapS.made (w : World) : MapS (w.alloc (.map #[] 0)) w.heap.size 0 [] := ⟨.map [], World.ownsMap_made w _ _ _, fun s => by simp [Maps.has]⟩
theorem MapS.blt {w : World} {b n : Nat} {L : List ByteArray} (h : MapS w b n L) : b < w.heap.size := by
  obtain ⟨D, h1, _⟩ := h
  exact h1.lt
theorem MapS.kept {w w' : World} {b n : Nat} {L : List ByteArray} (h : MapS w b n L) (hk : w'.heap[b]? = w.heap[b]?) : MapS w' b n L := by
  obtain ⟨D, ⟨es, cl, h1, h2⟩, h3⟩ := h
  exact ⟨D, ⟨es, cl, hk.trans h1, h2⟩, h3⟩
theorem MapS.later {w w' : World} {b n : Nat} {L : List ByteArray} (h : MapS w b n L) (hb : Below w.heap.size w w') : MapS w' b n L := h.kept (hb.block b h.blt)
theorem MapS.look {w : World} {b n : Nat} {L : List ByteArray} (h : MapS w b n L) {s : ByteArray} (hs : s.size ≤ maxLen) : ∃ q, (Instr.lookup 73 (.map (some b)) (.string s) true).run Tryz.prog w = .ok (.tuple #[.agg #[], .bool q]) w ∧ (q = true ↔ s ∈ L) := by
  obtain ⟨D, h1, h2⟩ := h
  obtain ⟨v, ps, hr, hv⟩ := h1.look_ok keyedS Tryz.underlying73 (zeroE w) eR_yes (WideMaps.keyOf_string_mk Tryz.underlying9 hs)
  rw [eR_inv hv] at hr
  exact ⟨_, hr, h2 s⟩
theorem MapS.put {w : World} {b n : Nat} {L : List ByteArray} (h : MapS w b n L) {s : ByteArray} (hs : s.size ≤ maxLen) (hl : n < maxLen) :
    ∃ w', (Instr.mapUpdate 73 (.map (some b)) (.string s) (.agg #[])).run Tryz.prog w = .ok () w' ∧ MapS w' b (n + 1) (L ++ [s]) ∧ w.grownBy w' (some b) := by
  obtain ⟨D, h1, h2⟩ := h
  obtain ⟨w', hr, hu, hg⟩ := h1.update keyedS Tryz.underlying73 hl (WideMaps.keyOf_string_mk Tryz.underlying9 hs) eR_yes
  refine ⟨w', hr, ⟨_, hu, fun y => ?_⟩, hg⟩
  by_cases hy : y = s
  · subst hy
    rw [Maps.has_put_same h1.isMap (show WideAt.IsKeyLit (ks y) from trivial)]
    simp
  · rw [Maps.has_put_other (ks_ne hy), h2 y]
    simp [hy]
theorem below_grown {B : Nat} {w a b : World} (h : Below B w a) {m : Nat} (hg : a.grownBy b (some m)) (hm : B ≤ m) (hB : B ≤ a.heap.size) : Below B w b := h.grown hg hB (fun j hj => by cases hj; exact hm)
theorem run_makeS (w : World) (n : Int) : (Instr.makeMap 73 (some (.int .i64 n))).run Tryz.prog w = .ok (.map (some w.heap.size)) (w.alloc (.map #[] 0)) := by
  simp [Instr.makeMap, run_underlying Tryz.underlying73, asInt, asIntOf, Result.andThen]

/-- What is asked of columns: names that are no longer than memory is. -/
def Few (l : List Col) : Prop := ∀ c ∈ l, c.nm.size ≤ 140737488355328
theorem name_small {s : ByteArray} (h : namB s = true) : s.size ≤ 64 := by
  unfold namB namL at h
  simp only [Bool.and_eq_true, decide_eq_true_eq, bs_len] at h
  exact h.1.1.2
end Go.Proofs.YthgnibphhiaecaaGreat.Sc

/-
  schema.Check. (Written by mkybase.py.)
-/
namespace Go.Proofs.YthgnibphhiaecaaGreat.Sc
open Go.ChangeShapes Go.WideShapes Go.ChangeAt Go.RowKit Cu Vl

set_option maxRecDepth 4000 in
set_option maxHeartbeats 4000000 in
theorem check_any (a : Option Addr) (l : List Col) (d : Nat) (w : World) (hL : Lst cc 3 w a l) (hF : Few l) (hl : l.length ≤ 140737488355328) :
    Calls Tryz.prog 36 #[.slice a l.length d] w fun e w' => e = .returned (.int .i64 (chkE l)) ∧ Below w.heap.size w w' := by
  have HL := hid hL
  have HF := hid hF
  clear hL hF
  by_cases h0 : l.length = 0
  · have HE := hid (chkE_no (chkB_few (l := l) (by omega)))
    have hz : ((l.length : Int) == 0) = true := by rw [h0]; rfl
    go_enter Tryz.func36, Tryz.ntmps36
    go_wp2_with fail
    go_ret
    rw [HE.out]
    exact ⟨rfl, Below.refl _ _⟩
  · have hz : ((l.length : Int) == 0) = false := by rw [beq_eq_false_iff_ne]; omega
    by_cases h1 : 256 < l.length
    · have HE := hid (chkE_no (chkB_few (l := l) (by omega)))
      have h1i : (256 : Int) < (l.length : Int) := by omega
      go_enter Tryz.func36, Tryz.ntmps36
      go_wp2_with fail
      go_ret
      rw [HE.out]
      exact ⟨rfl, Below.refl _ _⟩
    · have h1i : ¬ (256 : Int) < (l.length : Int) := by omega
      have HN := hid fun s w hs => isName_any s w hs
      have HT := hid fun x w => isType_any x w
      have hmm := run_makeS w (l.length : Int)
      have HM0 := hid (MapS.made w)
      have b0 := hid (below_new w (.map #[] 0))
      go_enter Tryz.func36, Tryz.ntmps36
      go_wp2_with fail
      clear hmm
      go_loopw [21] (fun ix wr => ∃ i : Nat, i ≤ l.length ∧ ix = .int .i64 i ∧ Hid (∀ c ∈ l.take i, colB c = true) ∧ Hid ((nms (l.take i)).Nodup) ∧ Hid (MapS wr w.heap.size i (nms (l.take i))) ∧ Hid (Below w.heap.size w wr)) (fun ix _ => l.length - (intOf ix).toNat)
      case atStart => exact ⟨0, Nat.zero_le _, rfl, fun c hc => (by simp at hc), (show List.Nodup (nms (l.take 0)) by simp [nms]), HM0, b0⟩
      case round =>
        obtain ⟨i, hi, rfl, HA, HD, HM, HB⟩ := hrel
        rename World => wr
        by_cases hlt : i < l.length
        · have hii : (i : Int) < (l.length : Int) := by omega
          obtain ⟨g, o, rfl, _, k0, k1, k2⟩ := (HL.out.later HB.out).cell3 hlt
          have HSZ := hid (HF.out l[i] (List.getElem_mem hlt))
          have HNo := hid fun (h : colB l[i] = false) => chkE_no (chkB_bad (List.getElem_mem hlt) h)
          have HDup := hid fun (h : l[i].nm ∈ nms (l.take i)) => chkE_no (chkB_dup (dup_at hlt h))
          have HNew := hid fun (h : ¬ l[i].nm ∈ nms (l.take i)) => nodup_snoc hlt HD.out h
          have HSn := hid (nms_snoc hlt)
          have HAn : Hid (colB l[i] = true → ∀ c ∈ l.take (i + 1), colB c = true) := fun h c hc => by
            rw [List.take_add_one, List.getElem?_eq_getElem hlt] at hc
            simp only [Option.toList_some, List.mem_append, List.mem_singleton] at hc
            rcases hc with hc | rfl
            · exact HA.out c hc
            · exact h
          generalize hci : l[i] = c at *
          clear hci
          have HC : Hid (colB c = (namB c.nm && typB c.T)) := rfl
          obtain ⟨nm, T, nb⟩ := c
          dsimp only at *
          have hbn := below_new wr (.cells #[.string nm, .int .i64 T, .bool nb] 77)
          have HB1 := hid (below_up HB.out hbn)
          have HM1 := hid (HM.out.later hbn)
          clear hbn
          go_wp2_with fail
          refine (HN.out _ _ HSZ.out).mono ?_
          rintro e w2 ⟨rfl, rfl⟩
          cases hq : namB nm
          · have HE := hid (HNo.out (by rw [HC.out, hq]; rfl))
            clear hq
            go_wp2_with fail
            go_ret
            rw [HE.out]
            exact ⟨rfl, HB1.out⟩
          · have hs64 := name_small hq
            rw [hq] at HC
            clear hq
            go_wp2_with fail
            refine (HT.out _ _).mono ?_
            rintro e w3 ⟨rfl, rfl⟩
            cases hq : typB T
            · have HE := hid (HNo.out (by rw [HC.out, hq]; rfl))
              clear hq
              go_wp2_with fail
              go_ret
              rw [HE.out]
              exact ⟨rfl, HB1.out⟩
            · have HAY := hid (HAn.out (by rw [HC.out, hq]; rfl))
              clear hq
              obtain ⟨q, hlk, hqi⟩ := HM1.out.look (s := nm) (by simp only [maxLen]; omega)
              have hb2 := below_new (wr.alloc (.cells #[.string nm, .int .i64 T, .bool nb] 77)) (.cells #[] 78)
              cases q
              · have hnm : ¬ nm ∈ nms (l.take i) := fun h => by have := hqi.2 h; cases this
                have HND := hid (HNew.out hnm)
                obtain ⟨w5, hr5, hM5, hg5⟩ := (HM1.out.later hb2).put (s := nm) (by simp only [maxLen]; omega) (by simp only [maxLen]; omega)
                have HM5 : Hid (MapS w5 w.heap.size (i + 1) (nms (l.take (i + 1)))) := by rw [HSn.out]; exact hM5
                have HB5 := hid (below_grown (below_up HB1.out hb2) hg5 (Nat.le_refl _) (below_up HB1.out hb2).size)
                have HR5 := hid hr5
                clear hr5 hM5 hg5 hb2 hqi hnm
                go_wp2_with fail
                rw [HR5.out]
                go_wp2_with fail
                exact ⟨⟨i + 1, by omega, by go_num, HAY, HND, HM5, HB5⟩, by simp [intOf]; omega⟩
              · have HE := hid (HDup.out (hqi.1 rfl))
                have HB2 := hid (below_up HB1.out hb2)
                clear hqi hb2
                go_wp2_with fail
                go_ret
                rw [HE.out]
                exact ⟨rfl, HB2.out⟩
        · obtain rfl : i = l.length := by omega
          have HE : Hid (chkE l = 0) := by
            refine chkE_ok ((chkB_iff l).2 ⟨by omega, ?_, ?_⟩)
            · have := HA.out; rwa [List.take_length] at this
            · have := HD.out; rwa [List.take_length] at this
          go_wp2_with fail
          go_ret
          rw [HE.out]
          exact ⟨rfl, HB.out⟩
end Go.Proofs.YthgnibphhiaecaaGreat.Sc

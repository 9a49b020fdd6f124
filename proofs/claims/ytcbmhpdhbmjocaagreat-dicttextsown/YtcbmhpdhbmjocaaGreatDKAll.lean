import Derived.Test.YtcbmhpdhbmjocaaGreatDTx
import Derived.Test.YtcbmhpdhbmjocaaGreatDIAll
import Derived.Test.YtcbmhpdhbmjocaaGreatDRAll
/-
  The document's TextKeys: the walk. (Written by mktexts.py out of DRefKeys, DRefKeysW.)
-/
namespace Go.Proofs.YtcbmhpdhbmjocaaGreat.Tx
open Go.ChangeShapes Go.WideShapes Go.ChangeAt Go.RowKit Cu

/-- A turn of the inner loop: the list that grows, and whether the value has been put. -/
def stepI (x : ByteArray) (s : List ByteArray × Bool) (y : ByteArray) : List ByteArray × Bool :=
  let t : List ByteArray × Bool := if s.2 = false ∧ leT x y = true then (s.1 ++ [x], true) else s
  (if y = x then t.1 else t.1 ++ [y], t.2)
def scanI (x : ByteArray) (K : List ByteArray) : List ByteArray × Bool := K.foldl (stepI x) ([], false)
def insI (K : List ByteArray) (x : ByteArray) : List ByteArray := if (scanI x K).2 then (scanI x K).1 else (scanI x K).1 ++ [x]
def refKeys (l : List ByteArray) : List ByteArray := l.foldl insI []
theorem scanI_snoc (x : ByteArray) (K : List ByteArray) (y : ByteArray) : scanI x (K ++ [y]) = stepI x (scanI x K) y := by unfold scanI; rw [List.foldl_append]; rfl
theorem refKeys_snoc (l : List ByteArray) (x : ByteArray) : refKeys (l ++ [x]) = insI (refKeys l) x := by unfold refKeys; rw [List.foldl_append]; rfl
def mS (s : List ByteArray × Bool) : Nat := s.1.length + (if s.2 then 0 else 1)
theorem step_len (x : ByteArray) (s : List ByteArray × Bool) (y : ByteArray) : mS (stepI x s y) ≤ mS s + 1 := by
  unfold stepI mS
  rcases s with ⟨nx, dn⟩
  cases dn <;> by_cases h : leT x y = true <;> by_cases h2 : y = x <;> simp [h, h2, leT_refl]
theorem scan_len (x : ByteArray) (K : List ByteArray) : mS (scanI x K) ≤ K.length + 1 := by
  suffices h : ∀ (K : List ByteArray) (s : List ByteArray × Bool), mS (K.foldl (stepI x) s) ≤ mS s + K.length by
    have h1 := h K ([], false)
    have h2 : mS ([], false) = 1 := rfl
    unfold scanI
    omega
  intro K
  induction K with
  | nil => intro s; exact Nat.le_refl _
  | cons y K ih =>
    intro s
    have h1 := ih (stepI x s y)
    have h2 := step_len x s y
    simp only [List.foldl_cons, List.length_cons]
    omega
theorem ins_len (K : List ByteArray) (x : ByteArray) : (insI K x).length ≤ K.length + 1 := by
  have h := scan_len x K
  unfold insI
  unfold mS at h
  cases h2 : (scanI x K).2 with
  | true => rw [h2] at h; simp at h ⊢; omega
  | false => rw [h2] at h; simp at h ⊢; omega
theorem refKeys_len (l : List ByteArray) : (refKeys l).length ≤ l.length := by
  suffices h : ∀ (l K : List ByteArray), (l.foldl insI K).length ≤ K.length + l.length by have := h l []; simpa [refKeys] using this
  intro l
  induction l with
  | nil => intro K; simp
  | cons x l ih => intro K; have h1 := ih (insI K x); have h2 := ins_len K x; simp only [List.foldl_cons, List.length_cons]; omega
/-- Two rows of whole numbers beside one another. -/
structure TwoS (w : World) (B : Nat) (v : Value) (l : List ByteArray) (u : Value) (m : List ByteArray) : Prop where
  one : OwnS w B v l
  two : OwnS w B u m
  ne : v.ownBlock = none ∨ v.ownBlock ≠ u.ownBlock
theorem TwoS.push {w : World} {B : Nat} {v u : Value} {l m : List ByteArray} (h : TwoS w B v l u m) (hb : (m.length + 1) * 16 ≤ 140737488355328) (hB : B ≤ w.heap.size) (x : ByteArray) :
    ∃ u' w', (Builtin.append_ #[22, 22] 22 #[u, .slice (some ⟨w.heap.size, 0, none⟩) 1 1]).run Tryz.prog (w.alloc (.cells #[.string x] 9)) = .ok u' w' ∧ TwoS w' B v l u' (m ++ [x]) ∧ Below B w w' := by
  obtain ⟨g, c, w', hr, ho, hg, hat⟩ := run_oneV (t := 22) (ty := 22) Tryz.underlying22 infoStr rfl h.two hb (by omega) hB (.string x) rfl
  refine ⟨_, w', hr, ⟨?_, ?_, ?_⟩, ((Below.refl B w).alloc hB _).grown hg (by simp; omega) (fun j hj => (OwnS.lt h.two j hj).1)⟩
  · have := (World.ownsRow.alloc h.one (.cells #[.string x] 9)).kept hg h.ne
    exact this
  · unfold OwnS
    rw [List.length_append, show svals (m ++ [x]) = svals m ++ [.string x] by simp [svals]]
    exact ho
  · cases hv : v.ownBlock with
    | none => exact .inl rfl
    | some k =>
      right
      intro e
      simp [Value.ownBlock] at e
      subst e
      have hk := (OwnS.lt h.one k hv).2
      rcases hat with h1 | h1
      · rcases h.ne with h2 | h2
        · rw [hv] at h2; cases h2
        · exact h2 (hv.trans h1.symm)
      · omega
theorem TwoS.later {w w' : World} {B : Nat} {v u : Value} {l m : List ByteArray} (h : TwoS w B v l u m) (hb : Below w.heap.size w w') : TwoS w' B v l u m := ⟨h.one.later hb, h.two.later hb, h.ne⟩
theorem scan_next {x : ByteArray} {K : List ByteArray} {j : Nat} {y : ByteArray} (hy : K[j]? = some y) : scanI x (K.take (j + 1)) = stepI x (scanI x (K.take j)) y := by
  rw [List.take_add_one, hy]
  exact scanI_snoc x _ y
end Go.Proofs.YtcbmhpdhbmjocaaGreat.Tx

/-
  The document's keys of texts rise, and have the same members. (Written by mktexts.py out of DKeysEq.)
-/
namespace Go.Proofs.YtcbmhpdhbmjocaaGreat.Tx
open Go.RowKit Cu

structure ScanOk (x : ByteArray) (s : List ByteArray × Bool) (K : List ByteArray) : Prop where
  rise : s.1.Pairwise tlt
  ahead : ∀ a ∈ s.1, ∀ b ∈ K, b ≠ x → tlt a b
  less : s.2 = false → ∀ a ∈ s.1, tlt a x
  over : s.2 = true → (x ∈ s.1 ∧ ∀ b ∈ K, leT x b = true) ∨ False
theorem step_ok {x : ByteArray} {s : List ByteArray × Bool} {b : ByteArray} {K : List ByteArray} (h : ScanOk x s (b :: K)) (hK : (b :: K).Pairwise tlt) :
    ScanOk x (stepI x s b) K ∧ (∀ y, y ∈ (stepI x s b).1 ↔ y ∈ s.1 ∨ (y = b ∧ b ≠ x) ∨ (y = x ∧ s.2 = false ∧ leT x b = true)) ∧ ((stepI x s b).2 = true ↔ s.2 = true ∨ leT x b = true) := by
  rw [List.pairwise_cons] at hK
  obtain ⟨h1, h2, h3, h4⟩ := h
  rcases s with ⟨nx, dn⟩
  simp only [] at h1 h2 h3 h4
  cases dn with
  | true =>
    obtain ⟨hx, hov⟩ := (h4 rfl).elim id False.elim
    by_cases hb : b = x
    · subst hb
      refine ⟨⟨by simpa [stepI] using h1, fun a ha d hd hne => ?_, fun e => by simp [stepI] at e, fun _ => .inl ⟨by simpa [stepI] using hx, fun d hd => leT_of_tlt (hK.1 d hd)⟩⟩, fun y => by simp [stepI], by simp [stepI]⟩
      exact h2 a (by simpa [stepI] using ha) d (List.mem_cons_of_mem _ hd) hne
    · refine ⟨⟨?_, fun a ha d hd hne => ?_, fun e => by simp [stepI] at e, fun _ => .inl ⟨by simp [stepI, hb, hx], fun d hd => hov d (List.mem_cons_of_mem _ hd)⟩⟩, fun y => by simp [stepI, hb], by simp [stepI]⟩
      · simp only [stepI, hb]
        simp
        rw [List.pairwise_append]
        exact ⟨h1, by simp, fun a ha d hd => by simp at hd; subst hd; exact h2 a ha d List.mem_cons_self hb⟩
      · simp [stepI, hb] at ha
        rcases ha with ha | rfl
        · exact h2 a ha d (List.mem_cons_of_mem _ hd) hne
        · exact hK.1 d hd
  | false =>
    have hl := h3 rfl
    by_cases hxb : leT x b = true
    · by_cases hb : b = x
      · subst hb
        refine ⟨⟨?_, fun a ha d hd hne => ?_, fun e => by simp [stepI, leT_refl] at e, fun _ => .inl ⟨by simp [stepI, leT_refl], fun d hd => leT_of_tlt (hK.1 d hd)⟩⟩, fun y => by simp [stepI, leT_refl], by simp [stepI, leT_refl]⟩
        · simp only [stepI]
          simp [leT_refl]
          rw [List.pairwise_append]
          exact ⟨h1, by simp, fun a ha d hd => by simp at hd; subst hd; exact hl a ha⟩
        · simp [stepI, leT_refl] at ha
          rcases ha with ha | rfl
          · exact h2 a ha d (List.mem_cons_of_mem _ hd) hne
          · exact hK.1 d hd
      · have hlt : tlt x b := tlt_of hxb hb
        refine ⟨⟨?_, fun a ha d hd hne => ?_, fun e => by simp [stepI, hxb, hb] at e, fun _ => .inl ⟨by simp [stepI, hxb, hb], fun d hd => leT_of_tlt (tlt_trans hlt (hK.1 d hd))⟩⟩, fun y => ?_, by simp [stepI, hxb, hb]⟩
        · simp only [stepI]
          simp [hxb, hb]
          rw [List.pairwise_append]
          refine ⟨h1, by simp; exact hlt, fun a ha d hd => ?_⟩
          simp at hd
          rcases hd with rfl | rfl
          · exact hl a ha
          · exact h2 a ha d List.mem_cons_self hb
        · simp [stepI, hxb, hb] at ha
          rcases ha with ha | rfl | rfl
          · exact h2 a ha d (List.mem_cons_of_mem _ hd) hne
          · exact tlt_trans hlt (hK.1 d hd)
          · exact hK.1 d hd
        · simp [stepI, hxb, hb]
          constructor
          · rintro (h | rfl | rfl)
            · exact .inl h
            · exact .inr (.inr rfl)
            · exact .inr (.inl rfl)
          · rintro (h | rfl | rfl)
            · exact .inl h
            · exact .inr (.inr rfl)
            · exact .inr (.inl rfl)
    · have hb : b ≠ x := fun e => hxb (e ▸ leT_refl _)
      refine ⟨⟨?_, fun a ha d hd hne => ?_, fun _ a ha => ?_, fun e => by simp [stepI, hxb, hb] at e⟩, fun y => by simp [stepI, hxb, hb], by simp [stepI, hxb, hb]⟩
      · simp only [stepI]
        simp [hxb, hb]
        rw [List.pairwise_append]
        exact ⟨h1, by simp, fun a ha d hd => by simp at hd; subst hd; exact h2 a ha d List.mem_cons_self hb⟩
      · simp [stepI, hxb, hb] at ha
        rcases ha with ha | rfl
        · exact h2 a ha d (List.mem_cons_of_mem _ hd) hne
        · exact hK.1 d hd
      · simp [stepI, hxb, hb] at ha
        rcases ha with ha | rfl
        · exact hl a ha
        · exact tlt_of_not hxb
theorem scan_ok {x : ByteArray} : ∀ {K : List ByteArray} {s : List ByteArray × Bool}, ScanOk x s K → K.Pairwise tlt →
    (K.foldl (stepI x) s).1.Pairwise tlt ∧ ((K.foldl (stepI x) s).2 = false → ∀ a ∈ (K.foldl (stepI x) s).1, tlt a x) ∧ (∀ y, y ∈ (K.foldl (stepI x) s).1 ↔ y ∈ s.1 ∨ (y ∈ K ∧ y ≠ x) ∨ (y = x ∧ s.2 = false ∧ (K.foldl (stepI x) s).2 = true)) ∧ (s.2 = true → (K.foldl (stepI x) s).2 = true)
  | [], s, h, _ => by
    refine ⟨h.rise, h.less, fun y => ?_, id⟩
    rw [List.foldl_nil]
    constructor
    · exact .inl
    · rintro (h | ⟨h, _⟩ | ⟨_, h1, h2⟩)
      · exact h
      · cases h
      · rw [h1] at h2; cases h2
  | b :: K, s, h, hK => by
    obtain ⟨h1, h2, h3⟩ := step_ok h hK
    obtain ⟨i1, i2, i3, i4⟩ := scan_ok h1 (List.pairwise_cons.1 hK).2
    refine ⟨i1, i2, fun y => ?_, fun hs => i4 (h3.2 (.inl hs))⟩
    rw [List.foldl_cons, i3, h2]
    constructor
    · rintro ((h | ⟨rfl, hb⟩ | ⟨rfl, hs, hb⟩) | ⟨hy, hne⟩ | ⟨rfl, hs, hr⟩)
      · exact .inl h
      · exact .inr (.inl ⟨List.mem_cons_self, hb⟩)
      · exact .inr (.inr ⟨rfl, hs, i4 (h3.2 (.inr hb))⟩)
      · exact .inr (.inl ⟨List.mem_cons_of_mem _ hy, hne⟩)
      · refine .inr (.inr ⟨rfl, ?_, hr⟩)
        cases hs2 : s.2 with
        | false => rfl
        | true => rw [h3.2 (.inl hs2)] at hs; cases hs
    · rintro (h | ⟨hy, hne⟩ | ⟨rfl, hs, hr⟩)
      · exact .inl (.inl h)
      · rcases List.mem_cons.1 hy with rfl | hy
        · exact .inl (.inr (.inl ⟨rfl, hne⟩))
        · exact .inr (.inl ⟨hy, hne⟩)
      · cases ht : (stepI y s b).2 with
        | false => exact .inr (.inr ⟨rfl, rfl, hr⟩)
        | true =>
          rcases h3.1 ht with h | h
          · rw [hs] at h; cases h
          · exact .inl (.inr (.inr ⟨rfl, hs, h⟩))
theorem ins_ok {K : List ByteArray} {x : ByteArray} (hK : K.Pairwise tlt) : (insI K x).Pairwise tlt ∧ ∀ y, y ∈ insI K x ↔ y ∈ K ∨ y = x := by
  obtain ⟨i1, i2, i3, _⟩ := scan_ok (x := x) (s := ([], false)) (K := K) ⟨List.Pairwise.nil, fun a ha => (by cases ha), fun _ a ha => (by cases ha), fun e => by cases e⟩ hK
  unfold insI scanI
  cases hd : (K.foldl (stepI x) ([], false)).2 with
  | true =>
    rw [hd] at i3
    refine ⟨by simpa using i1, fun y => ?_⟩
    simp only [if_true]
    rw [i3]
    by_cases hy : y = x <;> simp [hy]
  | false =>
    rw [hd] at i3 i2
    refine ⟨?_, fun y => ?_⟩
    · simp
      rw [List.pairwise_append]
      exact ⟨i1, by simp, fun a ha d hdd => by simp at hdd; subst hdd; exact i2 rfl a ha⟩
    · simp
      rw [i3]
      by_cases hy : y = x <;> simp [hy]
theorem refKeys_ok (l : List ByteArray) : (refKeys l).Pairwise tlt ∧ ∀ y, y ∈ refKeys l ↔ y ∈ l := by
  suffices h : ∀ (l K : List ByteArray), K.Pairwise tlt → (l.foldl insI K).Pairwise tlt ∧ ∀ y, y ∈ l.foldl insI K ↔ y ∈ K ∨ y ∈ l by
    have := h l [] List.Pairwise.nil
    exact ⟨this.1, fun y => by rw [show refKeys l = l.foldl insI [] from rfl, this.2]; simp⟩
  intro l
  induction l with
  | nil => intro K hK; exact ⟨hK, fun y => by simp⟩
  | cons x l ih =>
    intro K hK
    obtain ⟨h1, h2⟩ := ih (insI K x) (ins_ok hK).1
    refine ⟨h1, fun y => ?_⟩
    rw [List.foldl_cons, h2, (ins_ok hK).2]
    simp [or_assoc]
end Go.Proofs.YtcbmhpdhbmjocaaGreat.Tx

/-
  slices.BinarySearch of texts, of any list; dict.Floor and dict.Find of texts; dict.Floor of numbers that need not rise.
-/
namespace Go.Proofs.YtcbmhpdhbmjocaaGreat.Tx
open Go.ChangeShapes Go.WideShapes Go.ChangeAt Go.RowKit Cu

set_option maxHeartbeats 1000000 in
theorem nanC (x : ByteArray) (w : World) : Calls Tryz.prog 103 #[.string x] w fun e w' => e = .returned (.bool false) ∧ w' = w := by
  go_enter Tryz.func103, Tryz.ntmps103
  go_wp2_with fail
  go_ret
  exact ⟨rfl, rfl⟩
set_option maxHeartbeats 1000000 in
theorem lessT (x y : ByteArray) (w : World) : Calls Tryz.prog 78 #[.string x, .string y] w fun e w' => e = .returned (.bool (ltB x y)) ∧ w' = w := by
  have HN := fun x w => nanC x w
  have hb : Op.bytesLess x.toList y.toList = ltB x y := rfl
  generalize ltB x y = b at *
  go_enter Tryz.func78, Tryz.ntmps78
  go_wp2_with (go_at_call 103; refine (HN _ _).mono ?_; rintro e w' ⟨rfl, rfl⟩)
  go_ret
  exact ⟨ret_bool (by simp), rfl⟩
/-- Where a search for t ends. -/
structure Srch (T : List ByteArray) (t : ByteArray) (i j : Nat) : Prop where
  low : ∀ s, 0 < i → T[i - 1]? = some s → tlt s t
  top : ∀ s, T[j]? = some s → ¬ tlt s t
set_option maxHeartbeats 1000000 in
theorem nanI (x : Int) (w : World) : Calls Tryz.prog 64 #[.int .i64 x] w fun e w' => e = .returned (.bool false) ∧ w' = w := by
  go_enter Tryz.func64, Tryz.ntmps64
  go_wp2_with fail
  go_ret
  exact ⟨by simp, rfl⟩
set_option maxHeartbeats 1000000 in
theorem lessI (x y : Int) (w : World) : Calls Tryz.prog 63 #[.int .i64 x, .int .i64 y] w fun e w' => e = .returned (.bool (decide (x < y))) ∧ w' = w := by
  have HN := hid (fun z wx => isNaN_any z wx)
  go_enter Tryz.func63, Tryz.ntmps63
  go_wp2_with (go_at_call 83; refine (HN.out _ _).mono ?_; rintro e w2 ⟨rfl, rfl⟩)
  go_ret
  exact ⟨ret_bool (by simp), rfl⟩
/-- Where a search for t ends. -/
structure SrchI (T : List Int) (t : Int) (i j : Nat) : Prop where
  low : ∀ s, 0 < i → T[i - 1]? = some s → s < t
  top : ∀ s, T[j]? = some s → ¬ s < t
set_option maxHeartbeats 4000000 in
set_option maxRecDepth 20000 in
theorem searchI_any (a : Option Addr) (T : List Int) (c : Nat) (t : Int) (w : World) (hT : IntsA w a T) (hl : T.length ≤ 17592186043904) :
    Calls Tryz.prog 38 #[.slice a T.length c, .int .i64 t] w fun e w' => ∃ i : Nat, e = .returned (.tuple #[.int .i64 (i : Int), .bool (decide (T[i]? = some t))]) ∧ i ≤ T.length ∧ SrchI T t i i ∧ w' = w := by
  have HT := hid hT
  have HLS := hid (fun x y W => lessI x y W)
  have HNN := hid (fun x W => nanI x W)
  clear hT
  go_enter Tryz.func38, Tryz.ntmps38
  go_wp2_with fail
  go_loopw [7, 8] (fun ix jx wr => ∃ i j : Nat, i ≤ j ∧ j ≤ T.length ∧ ix = .int .i64 (i : Int) ∧ jx = .int .i64 (j : Int) ∧ Hid (SrchI T t i j) ∧ wr = w) (fun ix jx _ => (intOf jx).toNat - (intOf ix).toNat)
  case atStart => exact ⟨0, T.length, Nat.zero_le _, Nat.le_refl _, rfl, rfl, ⟨fun s h => by omega, fun s h => by simp at h⟩, rfl⟩
  case round =>
    obtain ⟨i, j, hij, hjq, rfl, rfl, HG, hwr⟩ := hrel
    subst hwr
    by_cases hlt : i < j
    · obtain ⟨s, hs⟩ : ∃ s, i + j = s := ⟨_, rfl⟩
      obtain ⟨h, hh⟩ : ∃ h, s / 2 = h := ⟨_, rfl⟩
      have hsz : (i : Int) + (j : Int) = (s : Int) := by omega
      have hsw : IntKind.i64.wrap (s : Int) = (s : Int) := Pk.i64_left _ (by omega) (by omega)
      have hsu : IntKind.u64.wrap (s : Int) = (s : Int) := Pk.u64_left _ (by omega) (by omega)
      have hhz : (s : Int) / 2 = (h : Int) := by omega
      have hhw : IntKind.i64.wrap (h : Int) = (h : Int) := Pk.i64_left _ (by omega) (by omega)
      have hhu : IntKind.u64.wrap (h : Int) = (h : Int) := Pk.u64_left _ (by omega) (by omega)
      have hih : i ≤ h := by omega
      have hhj : h < j := by omega
      have hlz : (i : Int) < (j : Int) := by omega
      have hbh : (h : Int) < (T.length : Int) := by omega
      have hx : T[h]? = some T[h] := List.getElem?_eq_getElem (by omega)
      obtain ⟨g, o, rfl, -, hc⟩ := HT.out h _ hx
      generalize T[h] = x at hx hc
      clear hs hh
      cases hb : decide (x < t) with
      | true =>
        have HG2 : Hid (SrchI T t (h + 1) j) := ⟨fun s _ hs => by rw [Nat.add_sub_cancel] at hs; rw [hx] at hs; cases hs; exact of_decide_eq_true hb, HG.out.top⟩
        have HL : Hid (Calls Tryz.prog 63 #[.int .i64 x, .int .i64 t] wr fun e w' => e = .returned (.bool true) ∧ w' = wr) := by have := HLS.out x t wr; rwa [hb] at this
        clear HG hb hx
        go_wp2_with fail
        refine HL.out.mono ?_
        rintro e wz ⟨rfl, hwz⟩
        subst wz
        go_wp2_with fail
        exact ⟨⟨h + 1, j, by omega, hjq, by go_num, rfl, HG2, trivial⟩, by simp [intOf]; omega⟩
      | false =>
        have HG2 : Hid (SrchI T t i h) := ⟨HG.out.low, fun s hs => by rw [hx] at hs; cases hs; exact of_decide_eq_false hb⟩
        have HL : Hid (Calls Tryz.prog 63 #[.int .i64 x, .int .i64 t] wr fun e w' => e = .returned (.bool false) ∧ w' = wr) := by have := HLS.out x t wr; rwa [hb] at this
        clear HG hb hx
        go_wp2_with fail
        refine HL.out.mono ?_
        rintro e wz ⟨rfl, hwz⟩
        subst wz
        go_wp2_with fail
        exact ⟨⟨i, h, by omega, by omega, rfl, rfl, HG2, trivial⟩, by simp [intOf]; omega⟩
    · obtain rfl : i = j := by omega
      have hlz : ¬ (i : Int) < (i : Int) := by omega
      by_cases hiq : i < T.length
      · have hqz : (i : Int) < (T.length : Int) := by omega
        have hx : T[i]? = some T[i] := List.getElem?_eq_getElem hiq
        obtain ⟨g, o, rfl, -, hc⟩ := HT.out i _ hx
        generalize T[i] = x at hx hc
        by_cases he : x = t
        · have HD : Hid (decide (T[i]? = some t) = true) := by show _ = _; rw [hx, he]; simp
          subst he
          have hez : (x == x) = true := by simp
          clear hx
          go_wp2_with fail
          go_ret2
          exact ⟨i, by rw [HD.out]; rfl, by omega, HG.out, rfl⟩
        · have HD : Hid (decide (T[i]? = some t) = false) := by show _ = _; rw [hx, decide_eq_false_iff_not]; simpa using he
          have hez : (x == t) = false := by simpa using he
          have HNx := hid (HNN.out x wr)
          have HNt := hid (HNN.out t wr)
          clear hx
          go_wp2_with fail
          refine HNx.out.mono ?_
          rintro e wz ⟨rfl, hwz⟩
          subst wz
          go_wp2_with fail
          go_ret2
          exact ⟨i, by rw [HD.out]; rfl, by omega, HG.out, rfl⟩
      · have hqz : ¬ (i : Int) < (T.length : Int) := by omega
        have HD : Hid (decide (T[i]? = some t) = false) := by show _ = _; rw [List.getElem?_eq_none (by omega)]; simp
        go_wp2_with fail
        go_ret2
        exact ⟨i, by rw [HD.out]; rfl, by omega, HG.out, rfl⟩
set_option maxHeartbeats 2000000 in
theorem floorI_any (a : Option Addr) (T : List Int) (c : Nat) (t : Int) (w : World) (hT : IntsA w a T) (hl : T.length ≤ 17592186043904) :
    Calls Tryz.prog 21 #[.slice a T.length c, .int .i64 t] w fun e w' => ∃ i : Nat, e = .returned (.int .i64 (i : Int)) ∧ i ≤ T.length ∧ SrchI T t i i ∧ w' = w := by
  have HS := hid (searchI_any a T c t w hT hl)
  clear hT
  go_enter Tryz.func21, Tryz.ntmps21
  go_wp2_with fail
  refine HS.out.mono ?_
  rintro e w2 ⟨i, rfl, hi, hs, hw⟩
  subst w2
  have HG := hid hs
  generalize decide (T[i]? = some t) = b at *
  clear hs HS
  go_wp2_with fail
  go_ret
  exact ⟨i, rfl, hi, HG.out, rfl⟩
set_option maxHeartbeats 2000000 in
theorem findI_any (a : Option Addr) (T : List Int) (c : Nat) (t : Int) (w : World) (hT : IntsA w a T) (hl : T.length ≤ 17592186043904) :
    Calls Tryz.prog 18 #[.slice a T.length c, .int .i64 t] w fun e w' => ∃ i : Nat, e = .returned (.tuple #[.int .i64 ((if T[i]? = some t then i else 0 : Nat) : Int), .bool (decide (T[i]? = some t))]) ∧ i ≤ T.length ∧ SrchI T t i i ∧ w' = w := by
  have HS := hid (searchI_any a T c t w hT hl)
  clear hT
  go_enter Tryz.func18, Tryz.ntmps18
  go_wp2_with fail
  refine HS.out.mono ?_
  rintro e w2 ⟨i, rfl, hi, hs, hw⟩
  subst w2
  have HG := hid hs
  clear hs HS
  by_cases hd : T[i]? = some t
  · have HD := hid hd
    rw [decide_eq_true hd]
    clear hd
    go_wp2_with fail
    refine bodyPost_ret (v := .tuple #[.int .i64 (i : Int), .bool true]) (by simp [results, Tryz.results18, go_sem]) rfl ?_
    exact ⟨i, by rw [if_pos HD.out, decide_eq_true HD.out], hi, HG.out, rfl⟩
  · have HD := hid hd
    rw [decide_eq_false hd]
    clear hd
    go_wp2_with fail
    refine bodyPost_ret (v := .tuple #[.int .i64 0, .bool false]) (by simp [results, Tryz.results18, go_sem]) rfl ?_
    exact ⟨i, by rw [if_neg HD.out, decide_eq_false HD.out]; rfl, hi, HG.out, rfl⟩
set_option maxHeartbeats 1000000 in
theorem texts_any (a : Option Addr) (l : List ByteArray) (c : Nat) (w : World) (hA : Strs w a l) (ha : a = none → l.length = 0 ∧ c = 0) (hn : l.length * 16 ≤ 140737488355328) :
    Calls Tryz.prog 6 #[.slice a l.length c] w fun e w' => ∃ v, e = .returned v ∧ OwnS w' w.heap.size v l ∧ Below w.heap.size w w' := by
  obtain ⟨v1, w1, hr1, o1, b1⟩ := run_manyS (T := []) (c := c) (OwnS.nil w w.heap.size) hA ha (by simpa using hn) (Nat.le_refl _)
  rw [List.nil_append] at o1
  have R1 := hid hr1
  have O1 := hid o1
  have B1 := hid (b1 w (Below.refl _ _))
  clear hr1 o1 b1 hA ha
  go_enter Tryz.func6, Tryz.ntmps6
  go_wp2_with (at_builtin; refine wpList_app (by rfl) (by rfl) R1.out ?_; clear R1)
  go_ret
  exact ⟨v1, rfl, O1.out, B1.out⟩
/-- Where a search in texts that rise ends. -/
theorem srch_count {K : List ByteArray} {t : ByteArray} {i : Nat} (hK : K.Pairwise tlt) (hi : i ≤ K.length) (h : Srch K t i i) : K.countP (fun s => ltB s t) = i := by
  have hlow : ∀ s ∈ K.take i, ltB s t = true := fun s hs => by
    obtain ⟨j, hj, e⟩ := List.getElem_of_mem hs
    rw [List.length_take] at hj
    have hj2 : j < i := by omega
    rw [List.getElem_take] at e
    have hi1 : i - 1 < K.length := by omega
    have hlast := h.low _ (by omega) (List.getElem?_eq_getElem hi1)
    by_cases e1 : j = i - 1
    · subst e1; rw [← e]; exact hlast
    · rw [← e]; exact tlt_trans (List.pairwise_iff_getElem.1 hK j (i - 1) (by omega) hi1 (by omega)) hlast
  have htop : ∀ s ∈ K.drop i, ¬ ltB s t = true := fun s hs hc => by
    obtain ⟨j, hj, e⟩ := List.getElem_of_mem hs
    rw [List.length_drop] at hj
    rw [List.getElem_drop] at e
    have hi1 : i < K.length := by omega
    have hfirst := h.top _ (List.getElem?_eq_getElem hi1)
    by_cases e1 : j = 0
    · subst e1; rw [← e] at hc; exact hfirst hc
    · rw [← e] at hc; exact hfirst (tlt_trans (List.pairwise_iff_getElem.1 hK i (i + j) hi1 (by omega) (by omega)) hc)
  have e1 : K.countP (fun s => ltB s t) = (K.take i).countP (fun s => ltB s t) + (K.drop i).countP (fun s => ltB s t) := by rw [← List.countP_append, List.take_append_drop]
  rw [e1, List.countP_eq_length.2 hlow, List.countP_eq_zero.2 htop, List.length_take]
  omega
theorem srch_found {K : List ByteArray} {t : ByteArray} {i : Nat} (hK : K.Pairwise tlt) (hi : i ≤ K.length) (h : Srch K t i i) (hm : t ∈ K) : K[i]? = some t := by
  obtain ⟨j, hj, e⟩ := List.getElem_of_mem hm
  by_cases h1 : j < i
  · exfalso
    have hi1 : i - 1 < K.length := by omega
    have hlast := h.low _ (by omega) (List.getElem?_eq_getElem hi1)
    by_cases e1 : j = i - 1
    · subst e1; rw [e] at hlast; exact tlt_irrefl _ hlast
    · have := List.pairwise_iff_getElem.1 hK j (i - 1) hj hi1 (by omega)
      rw [e] at this
      exact tlt_irrefl _ (tlt_trans this hlast)
  · by_cases h2 : j = i
    · subst h2; rw [List.getElem?_eq_getElem hj, e]
    · exfalso
      have hi1 : i < K.length := by omega
      have := List.pairwise_iff_getElem.1 hK i j hi1 hj (by omega)
      rw [e] at this
      exact h.top _ (List.getElem?_eq_getElem hi1) this
/-- Where a search in numbers that rise ends. -/
theorem srch_countI {K : List Int} {t : Int} {i : Nat} (hK : K.Pairwise (· < ·)) (hi : i ≤ K.length) (h : SrchI K t i i) : K.countP (fun s => decide (s < t)) = i := by
  have hlow : ∀ s ∈ K.take i, decide (s < t) = true := fun s hs => by
    obtain ⟨j, hj, e⟩ := List.getElem_of_mem hs
    rw [List.length_take] at hj
    have hj2 : j < i := by omega
    rw [List.getElem_take] at e
    have hi1 : i - 1 < K.length := by omega
    have hlast := h.low _ (by omega) (List.getElem?_eq_getElem hi1)
    by_cases e1 : j = i - 1
    · subst e1; rw [← e]; exact decide_eq_true hlast
    · rw [← e]; exact decide_eq_true (Int.lt_trans (List.pairwise_iff_getElem.1 hK j (i - 1) (by omega) hi1 (by omega)) hlast)
  have htop : ∀ s ∈ K.drop i, ¬ decide (s < t) = true := fun s hs hc => by
    obtain ⟨j, hj, e⟩ := List.getElem_of_mem hs
    rw [List.length_drop] at hj
    rw [List.getElem_drop] at e
    have hi1 : i < K.length := by omega
    have hfirst := h.top _ (List.getElem?_eq_getElem hi1)
    by_cases e1 : j = 0
    · subst e1; rw [← e] at hc; exact hfirst (of_decide_eq_true hc)
    · rw [← e] at hc; exact hfirst (Int.lt_trans (List.pairwise_iff_getElem.1 hK i (i + j) hi1 (by omega) (by omega)) (of_decide_eq_true hc))
  have e1 : K.countP (fun s => decide (s < t)) = (K.take i).countP (fun s => decide (s < t)) + (K.drop i).countP (fun s => decide (s < t)) := by rw [← List.countP_append, List.take_append_drop]
  rw [e1, List.countP_eq_length.2 hlow, List.countP_eq_zero.2 htop, List.length_take]
  omega
theorem srch_foundI {K : List Int} {t : Int} {i : Nat} (hK : K.Pairwise (· < ·)) (hi : i ≤ K.length) (h : SrchI K t i i) (hm : t ∈ K) : K[i]? = some t := by
  obtain ⟨j, hj, e⟩ := List.getElem_of_mem hm
  by_cases h1 : j < i
  · exfalso
    have hi1 : i - 1 < K.length := by omega
    have hlast := h.low _ (by omega) (List.getElem?_eq_getElem hi1)
    by_cases e1 : j = i - 1
    · subst e1; rw [e] at hlast; exact Int.lt_irrefl _ hlast
    · have := List.pairwise_iff_getElem.1 hK j (i - 1) hj hi1 (by omega)
      rw [e] at this
      exact Int.lt_irrefl _ (Int.lt_trans this hlast)
  · by_cases h2 : j = i
    · subst h2; rw [List.getElem?_eq_getElem hj, e]
    · exfalso
      have hi1 : i < K.length := by omega
      have := List.pairwise_iff_getElem.1 hK i j hi1 hj (by omega)
      rw [e] at this
      exact h.top _ (List.getElem?_eq_getElem hi1) this
end Go.Proofs.YtcbmhpdhbmjocaaGreat.Tx

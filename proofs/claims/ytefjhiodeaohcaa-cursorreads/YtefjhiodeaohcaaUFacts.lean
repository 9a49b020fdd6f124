/-
  What readings do to a reader; what they took.
-/
import Derived.Test.YtefjhiodeaohcaaPAsk
import Derived.Test.YtefjhiodeaohcaaPAgain
namespace Go.Proofs.Ytefjhiodeaohcaa
open Go.RowKit Cu

theorem pick_pick (b : Int) : pickN ((pickN b 10 : Nat) : Int) 13 = pickN b 10 := by
  have := pickN_lt b (n := 10) (by omega)
  unfold pickN at *
  omega
/-- What a reading does to a reader. -/
structure Sticky (r : Rd) (A : Told × Rd) : Prop where
  l : A.2.l = r.l
  bad : r.e ≠ 0 → A = (⟨0, [], []⟩, r)
  fell : r.e = 0 → A.2.e ≠ 0 → A.1 = ⟨0, [], []⟩ ∧ Rd.left A.2 = Rd.left r
  left : Rd.left A.2 ≤ Rd.left r
theorem sticky_of {r : Rd} {A : Told × Rd} (hbad : r.e ≠ 0 → A = (⟨0, [], []⟩, r)) (hg : r.e = 0 → Good r A.2 ∧ (A.2.e ≠ 0 → A.1 = ⟨0, [], []⟩) ∧ r.at' ≤ A.2.at') : Sticky r A := by
  by_cases h0 : r.e = 0
  · obtain ⟨g, hz, ha⟩ := hg h0
    refine ⟨?_, fun h => absurd h0 h, fun _ he => ⟨hz he, by rw [g.no he]; rfl⟩, ?_⟩
    · by_cases he : A.2.e = 0
      · exact (g.ok he).2
      · rw [g.no he]; rfl
    · by_cases he : A.2.e = 0
      · unfold Rd.left; rw [(g.ok he).2]; omega
      · rw [g.no he]; exact Nat.le_refl _
  · have e := hbad h0
    exact ⟨by rw [e], hbad, fun h => absurd h h0, by rw [e]; exact Nat.le_refl _⟩
theorem took_at {r r' : Rd} {x : List Nat} (h : Took r r' x) : r.at' ≤ r'.at' := by rw [h.1]; show r.at' ≤ r.at' + _; omega
theorem no_at {r r' : Rd} (g : Good r r') (ht : r'.e = 0 → ∃ x, Took r r' x) : r.at' ≤ r'.at' := by
  by_cases he : r'.e = 0
  · obtain ⟨x, hx⟩ := ht he; exact took_at hx
  · rw [g.no he]; exact Nat.le_refl _
theorem sticky_fix {r : Rd} (h : r.Ok) (k : Nat) : Sticky r (⟨(r.fix k).1, [], []⟩, (r.fix k).2) :=
  sticky_of (fun h0 => by rw [fix_e h0]) (fun h0 => by
    obtain ⟨g, hz⟩ := good_fix h h0 k
    exact ⟨g, fun he => by show Told.mk _ _ _ = _; rw [hz he], no_at g (fun he => ⟨_, (fix_took h k he).1⟩)⟩)
theorem sticky_uv {r : Rd} (h : r.Ok) : Sticky r (⟨r.uv.1, [], []⟩, r.uv.2) :=
  sticky_of (fun h0 => by rw [uv_e h0]) (fun h0 => by
    obtain ⟨g, hz⟩ := good_uv h h0
    exact ⟨g, fun he => by show Told.mk _ _ _ = _; rw [hz he], no_at g (fun he => ⟨_, (uv_took h he).1⟩)⟩)
theorem sticky_var {r : Rd} (h : r.Ok) : Sticky r (⟨((unfold' r.uv.1) % 18446744073709551616).toNat, [], []⟩, r.uv.2) :=
  sticky_of (fun h0 => by rw [uv_e h0]; simp [unfold']) (fun h0 => by
    obtain ⟨g, hz⟩ := good_uv h h0
    exact ⟨g, fun he => by show Told.mk _ _ _ = _; rw [hz he]; simp [unfold'], no_at g (fun he => ⟨_, (uv_took h he).1⟩)⟩)
theorem sticky_bytes {r : Rd} (h : r.Ok) (n : Int) : Sticky r (⟨0, (r.bytes n).1, []⟩, (r.bytes n).2) :=
  sticky_of (fun h0 => by rw [bytes_e h0]) (fun h0 => by
    obtain ⟨g, hz⟩ := good_bytes h h0 n
    exact ⟨g, fun he => by show Told.mk _ _ _ = _; rw [hz he], no_at g (fun he => ⟨_, bytes_took h n he⟩)⟩)
theorem sticky_block {r : Rd} (h : r.Ok) (n : Int) : Sticky r (⟨0, (r.block n).1, []⟩, (r.block n).2) :=
  sticky_of (fun h0 => by rw [block_e h0]) (fun h0 => by
    obtain ⟨g, hz⟩ := good_block h h0 n
    exact ⟨g, fun he => by show Told.mk _ _ _ = _; rw [hz he], no_at g (fun he => ⟨_, (block_took h n he).1⟩)⟩)
theorem sticky_texts {r : Rd} (h : r.Ok) (n each : Int) : Sticky r (⟨0, [], (r.texts n each).1⟩, (r.texts n each).2) :=
  sticky_of (fun h0 => by rw [texts_e h0]) (fun h0 => by
    obtain ⟨g, hz⟩ := good_texts h h0 n each
    exact ⟨g, fun he => by show Told.mk _ _ _ = _; rw [hz he], no_at g (fun he => ⟨_, texts_took h n each he⟩)⟩)
theorem sticky_ask {r : Rd} (h : r.Ok) {k : Nat} (hk : k < 10) (c d : Int) : Sticky r (askM k c d r) := by
  match k, hk with
  | 0, _ => exact sticky_fix h 1
  | 1, _ => exact sticky_fix h 2
  | 2, _ => exact sticky_fix h 4
  | 3, _ => exact sticky_fix h 8
  | 4, _ => exact sticky_fix h 2
  | 5, _ => exact sticky_uv h
  | 6, _ => exact sticky_var h
  | 7, _ => exact sticky_bytes h c
  | 8, _ => exact sticky_block h c
  | 9, _ => exact sticky_texts h c d
theorem pick_same (b : Int) : pickN ((pickN b 10 : Nat) : Int) 10 = pickN b 10 := by
  have := pickN_lt b (n := 10) (by omega)
  unfold pickN at *
  omega
theorem took_take {r r' : Rd} {x l : List Nat} (h : Took r r' x) (hl : r.l = l) : l.take r'.at' = l.take r.at' ++ x := by
  obtain ⟨h1, h2, _⟩ := h
  rw [h1]
  show l.take (r.at' + x.length) = _
  rw [List.take_add]
  congr 1
  have e : r.rest = l.drop r.at' := by unfold Rd.rest; rw [hl]
  rw [← e, h2]
  exact List.take_left
theorem took_len {r r' : Rd} {x : List Nat} (h : Took r r' x) : x.length ≤ r.l.length := by
  have h1 := h.2.1
  have h2 : r.rest.length ≤ r.l.length := rest_short
  rw [h1, List.length_append] at h2
  omega
theorem toI_unfold (v : Nat) (h : v < 18446744073709551616) : fold (toI ((unfold' v) % 18446744073709551616).toNat) = v := by
  have hin := unfold_in h
  have e : toI ((unfold' v) % 18446744073709551616).toNat = unfold' v := by
    unfold toI
    split <;> omega
  rw [e, fold_unfold]
theorem rest_mem {r : Rd} (h : r.Ok) {x y : List Nat} (e : r.rest = x ++ y) : ∀ c ∈ x, c < 256 := fun c hc => h.rest c (by rw [e]; exact List.mem_append_left _ hc)
theorem encBs_mem {T : List (List Nat)} {p : List Nat} (hp : p ∈ T) {c : Nat} (hc : c ∈ p) : c ∈ encBs T := by
  unfold encBs
  rw [List.mem_flatMap]
  exact ⟨p, hp, by unfold encB; exact List.mem_append_right _ hc⟩
theorem encBs_count (T : List (List Nat)) : T.length ≤ (encBs T).length := by
  induction T with
  | nil => simp
  | cons p T ih =>
    have : encBs (p :: T) = encB p ++ encBs T := by simp [encBs]
    rw [this, List.length_append, List.length_cons]
    have h1 : 1 ≤ (encB p).length := by unfold encB; rw [List.length_append]; have := uv_pos p.length; omega
    omega
theorem ask_took {r : Rd} (h : r.Ok) {k : Nat} (hk : k < 10) (c d : Int) (hs : r.l.length ≤ 1048576) (he : (askM k c d r).2.e = 0) :
    Took r (askM k c d r).2 (encA k (askM k c d r).1) ∧ (askM k c d r).1.u < 18446744073709551616 ∧ (∀ p ∈ (askM k c d r).1.t, ∀ c ∈ p, c < 256) ∧ (askM k c d r).1.b.length + (encBs (askM k c d r).1.t).length ≤ 1048576 ∧ (askM k c d r).1.t.length ≤ 1048576 := by
  have hnum : ∀ (u : Nat) (r' : Rd) (x : List Nat), Took r r' x → u < 18446744073709551616 → Took r r' x ∧ u < 18446744073709551616 ∧ (∀ p ∈ ([] : List (List Nat)), ∀ c ∈ p, c < 256) ∧ ([] : List Nat).length + (encBs []).length ≤ 1048576 ∧ ([] : List (List Nat)).length ≤ 1048576 := fun u r' x t hu =>
    ⟨t, hu, (fun p hp => by cases hp), (by simp [encBs]), (by simp)⟩
  match k, hk with
  | 0, _ =>
    obtain ⟨t, hv⟩ := fix_took h 1 he
    refine hnum _ _ _ ?_ (fix_top h 1 (by omega))
    show Took r _ (fx 1 ((r.fix 1).1 % 256))
    rw [Nat.mod_eq_of_lt (by simpa using hv)]; exact t
  | 1, _ =>
    obtain ⟨t, hv⟩ := fix_took h 2 he
    refine hnum _ _ _ ?_ (fix_top h 2 (by omega))
    show Took r _ (fx 2 ((r.fix 2).1 % 65536))
    rw [Nat.mod_eq_of_lt (by simpa using hv)]; exact t
  | 2, _ =>
    obtain ⟨t, hv⟩ := fix_took h 4 he
    refine hnum _ _ _ ?_ (fix_top h 4 (by omega))
    show Took r _ (fx 4 ((r.fix 4).1 % 4294967296))
    rw [Nat.mod_eq_of_lt (by simpa using hv)]; exact t
  | 3, _ => exact hnum _ _ _ (fix_took h 8 he).1 (fix_top h 8 (by omega))
  | 4, _ =>
    obtain ⟨t, hv⟩ := fix_took h 2 he
    refine hnum _ _ _ ?_ (fix_top h 2 (by omega))
    show Took r _ (fx 2 ((r.fix 2).1 % 65536))
    rw [Nat.mod_eq_of_lt (by simpa using hv)]; exact t
  | 5, _ => exact hnum _ _ _ (uv_took h he).1 (uv_top h)
  | 6, _ =>
    refine hnum _ _ _ ?_ (by show ((unfold' r.uv.1) % 18446744073709551616).toNat < 18446744073709551616; omega)
    show Took r _ (uv (fold (toI ((unfold' r.uv.1) % 18446744073709551616).toNat)))
    rw [toI_unfold _ (uv_top h)]
    exact (uv_took h he).1
  | 7, _ =>
    have t := bytes_took h c he
    have := took_len t
    exact ⟨t, by show (0 : Nat) < _; omega, fun p hp => (by cases hp), by show (r.bytes c).1.length + 0 ≤ _; omega, Nat.zero_le _⟩
  | 8, _ =>
    have t := (block_took h c he).1
    have h1 := took_len t
    refine ⟨t, by show (0 : Nat) < _; omega, fun p hp => (by cases hp), ?_, Nat.zero_le _⟩
    show (r.block c).1.length + 0 ≤ _
    unfold encB at h1
    rw [List.length_append] at h1
    omega
  | 9, _ =>
    have t := texts_took h c d he
    have h1 := took_len t
    have h2 := encBs_count (r.texts c d).1
    have hm := rest_mem h t.2.1
    unfold encT at h1 hm
    rw [List.length_append] at h1
    refine ⟨t, by show (0 : Nat) < _; omega, fun p hp x hx => hm x (List.mem_append_right _ (encBs_mem hp hx)), ?_, ?_⟩
    · show 0 + (encBs (r.texts c d).1).length ≤ _; omega
    · show (r.texts c d).1.length ≤ _; omega
theorem again_any {w : World} {a ab at3 : Option Addr} {c cb : Nat} {l : List Nat} {A : Told} (h : AgArg w a c l A ab at3 cb) (ct : Nat) (sa sb sc sd : Int) :
    Calls Try.prog 24 #[.slice a l.length c, stepV sa sb sc sd, .agg #[.int .u64 (A.u : Int), .slice ab A.b.length cb, .slice at3 A.t.length ct]] w fun x w' => ∃ v, x = .returned v ∧ NewL w w' v (l ++ encA (pickN sb 10) A) := by
  have hk := pickN_lt sb (n := 10) (by omega)
  generalize hp : pickN sb 10 = k at hk ⊢
  match k, hk with
  | 0, _ => exact again0 h ct sa sb sc sd hp
  | 1, _ => exact again1 h ct sa sb sc sd hp
  | 2, _ => exact again2 h ct sa sb sc sd hp
  | 3, _ => exact again3 h ct sa sb sc sd hp
  | 4, _ => exact again4 h ct sa sb sc sd hp
  | 5, _ => exact again5 h ct sa sb sc sd hp
  | 6, _ => exact again6 h ct sa sb sc sd hp
  | 7, _ => exact again7 h ct sa sb sc sd hp
  | 8, _ => exact again8 h ct sa sb sc sd hp
  | 9, _ => exact again9 h ct sa sb sc sd hp
end Go.Proofs.Ytefjhiodeaohcaa

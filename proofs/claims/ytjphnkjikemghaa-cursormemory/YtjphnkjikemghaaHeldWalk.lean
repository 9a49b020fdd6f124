/-
  The law's held: the walk.
-/
import Derived.Test.YtjphnkjikemghaaUHeld
namespace Go.Proofs.Ytjphnkjikemghaa
open Go.RowKit Cu

theorem end_zero {p q : List Nat} : ((if (Rd.mk (p ++ q) (p.length + q.length) 0).e = 0 ∧ (Rd.mk (p ++ q) (p.length + q.length) 0).at' < (Rd.mk (p ++ q) (p.length + q.length) 0).l.length then 72 else (((Rd.mk (p ++ q) (p.length + q.length) 0).e : Nat) : Int)) : Int) = 0 := by simp
set_option maxRecDepth 8000 in
set_option maxHeartbeats 4000000 in
theorem held_any (ap aq : Option Addr) (p q : List Nat) (cp cq : Nat) (w : World) (hP : Bytes w ap p) (hp : ap = none → p.length = 0 ∧ cp = 0) (hQ : Bytes w aq q) (hq : aq = none → q.length = 0 ∧ cq = 0) (hpb : ∀ c ∈ p, c < 256) (hqb : ∀ c ∈ q, c < 256) (hpl : p.length ≤ 1048576) (hql : q.length ≤ 1048576) :
    Calls Try.prog 21 #[.slice ap p.length cp, .slice aq q.length cq] w fun e w' => e = .returned (.bool true) ∧ Below w.heap.size w w' := by
  obtain ⟨v1, w1, hr1, o1, b1⟩ := run_appL (l := []) (c := cp) (Own.nil w w.heap.size _ _ _) hP hp (by simp; omega) (Nat.le_refl _)
  rw [List.nil_append] at o1
  have B1 := b1 w (Below.refl _ _)
  obtain ⟨v2, w2, hr2, o2, b2⟩ := run_appL (c := cq) o1 (hQ.later B1) hq (by omega) B1.size
  have B2 := b2 w B1
  obtain ⟨a2, c2, rfl, hc2, hm2, hn2⟩ := o2.form
  have hall : ∀ c ∈ p ++ q, c < 256 := fun c hc => by rcases List.mem_append.1 hc with h | h; exact hpb c h; exact hqb c h
  have hlen : (p ++ q).length = p.length + q.length := List.length_append
  have HC3 := hid (pOpen a2 (p ++ q) c2 w2 o2.nums hn2 hall (by omega))
  have HO2 := hid o2
  have HB2 := hid B2
  have HZ2 := hid B2.size
  have HP := hid hP
  have HQ := hid hQ
  have Hall := hid hall
  have HN2 := hid hn2
  have R1 := hid hr1
  have R2 := hid hr2
  have Hlen := hid hlen
  obtain ⟨m, hm⟩ : ∃ m, (p ++ q).length = m := ⟨_, rfl⟩
  rw [hm] at HC3 R2
  have HM := hid hm
  clear hr1 hr2 o1 o2 b1 b2 B1 B2 hP hQ hpb hqb hall hc2 hm2 hn2 hm hlen hp hq
  go_enter Try.func21, Try.ntmps21
  go_wp2_with (at_builtin; first | (refine wpList_app (by rfl) (by rfl) R1.out ?_; clear R1) | (refine wpList_app (by rfl) (by rfl) R2.out ?_; clear R2))
  refine HC3.out.mono ?_
  clear HC3
  rintro e w3 ⟨g1, rfl, r3, b3⟩
  have HR3 := hid r3
  have HB3 := hid (below_up HB2.out b3)
  have HS3 := hid b3.size
  have o3 := HO2.out.later b3
  have HC4 := hid (pOpen a2 (p ++ q) c2 w3 o3.nums HN2.out Hall.out (by have := Hlen.out; omega))
  rw [HM.out] at HC4
  clear r3 b3 o3 HO2 HB2
  go_wp2_with fail
  refine HC4.out.mono ?_
  clear HC4
  rintro e w4 ⟨g2, rfl, r4, b4⟩
  have r34 := HR3.out.later b4
  have HS4 := hid r4
  have HB4 := hid (below_up HB3.out b4)
  have Hg1 := hid (And.intro HR3.out.glo HR3.out.ghi)
  have Hg2 := hid (And.intro r4.glo r4.ghi)
  have HC5 := hid (pBytes r34 (p.length : Int) (by omega) (by omega))
  rw [bytes_front] at HC5
  have HZ4 := hid b4.size
  clear r4 r34 HR3 HB3 b4
  go_wp2_with fail
  refine HC5.out.mono ?_
  clear HC5
  rintro e w5 ⟨v5, rfl, o5, r5, h5⟩
  have HF5 := hid (Fam.one o5)
  have HS5 := hid (HS4.out.hit h5 (.inl Hg1.out.2))
  have HB5 := hid (below_hit HB4.out h5 (by have := Hg1.out.1; have := HZ2.out; omega))
  have HZ5 := hid h5.size
  have HC6 := hid (pBytes r5 (q.length : Int) (by omega) (by omega))
  rw [bytes_back] at HC6
  obtain ⟨a5, c5, rfl, _, _, _⟩ := o5.form
  clear o5 r5 h5 HS4 HB4
  go_wp2_with fail
  refine HC6.out.mono ?_
  clear HC6
  rintro e w6 ⟨v6, rfl, o6, r6, h6⟩
  have HF6 := hid (HF5.out.hit o6 h6 (by have := Hg1.out.2; have := HZ4.out; omega) HZ5.out)
  have HR6 := hid r6
  have HB6 := hid (below_hit HB5.out h6 (by have := Hg1.out.1; have := HZ2.out; omega))
  have HZ6 := hid h6.size
  have HC7 := hid (pBytes (HS5.out.hit h6 (.inl Hg1.out.2)) (p.length : Int) (by omega) (by omega))
  rw [bytes_front] at HC7
  obtain ⟨a6, c6, rfl, _, _, _⟩ := o6.form
  clear o6 r6 h6 HS5 HB5 HF5
  go_wp2_with fail
  refine HC7.out.mono ?_
  clear HC7
  rintro e w7 ⟨v7, rfl, o7, r7, h7⟩
  have HF7 := hid (HF6.out.hit o7 h7 Hg2.out.2 (by have := HZ5.out; have := HZ6.out; omega))
  have HR7 := hid (HR6.out.hit h7 (.inr Hg2.out.1))
  have HB7 := hid (below_hit HB6.out h7 (by have := Hg2.out.1; have := HZ2.out; have := HS3.out; omega))
  have HZ7 := hid h7.size
  have HC8 := hid (pBytes r7 (q.length : Int) (by omega) (by omega))
  rw [bytes_back] at HC8
  obtain ⟨a7, c7, rfl, _, _, _⟩ := o7.form
  clear o7 r7 h7 HR6 HB6 HF6
  go_wp2_with fail
  refine HC8.out.mono ?_
  clear HC8
  rintro e w8 ⟨v8, rfl, o8, r8, h8⟩
  have HF8 := hid (HF7.out.hit o8 h8 Hg2.out.2 (by have := HZ5.out; have := HZ6.out; have := HZ7.out; omega))
  have HR8 := hid (HR7.out.hit h8 (.inr Hg2.out.1))
  have HS8 := hid r8
  have HB8 := hid (below_hit HB7.out h8 (by have := Hg2.out.1; have := HZ2.out; have := HS3.out; omega))
  have HZ8 := hid h8.size
  obtain ⟨a8, c8, rfl, _, _, _⟩ := o8.form
  clear o8 r8 h8 HR7 HB7 HF7
  have hF : Fam w8 w4.heap.size [.slice a5 p.length c5, .slice a6 q.length c6, .slice a7 p.length c7, .slice a8 q.length c8] [p, q, p, q] := by
    have h := HF8.out
    simpa only [List.nil_append, List.cons_append] using h
  have HF := hid hF
  have f1 := four_rws (w := w8) ⟨a5, c5, rfl, (hF.own 0 _ p rfl rfl).nums⟩ ⟨a6, c6, rfl, (hF.own 1 _ q rfl rfl).nums⟩ ⟨a7, c7, rfl, (hF.own 2 _ p rfl rfl).nums⟩ ⟨a8, c8, rfl, (hF.own 3 _ q rfl rfl).nums⟩
  have b1 := below_up HB8.out (below_new w8 (.cells #[.slice a5 p.length c5, .slice a6 q.length c6, .slice a7 p.length c7, .slice a8 q.length c8] 22))
  have f2 := four_rws (w := w8.alloc (.cells #[.slice a5 p.length c5, .slice a6 q.length c6, .slice a7 p.length c7, .slice a8 q.length c8] 22)) ⟨ap, cp, rfl, HP.out.later b1⟩ ⟨aq, cq, rfl, HQ.out.later b1⟩ ⟨ap, cp, rfl, HP.out.later b1⟩ ⟨aq, cq, rfl, HQ.out.later b1⟩
  have HC9 := hid (same_any _ _ [p, q, p, q] 4 4 _ (rws_on f1 (below_new _ _)) f2 (by simp))
  simp only [World.size_alloc, List.length_cons, List.length_nil] at HC9
  clear HF8 hF f1 f2 b1
  go_wp2_with fail
  refine HC9.out.mono ?_
  clear HC9
  rintro e w9 ⟨rfl, j9, hw9⟩
  have b9 : Below w8.heap.size w8 w9 := by rw [hw9]; exact below_drewN ((below_new w8 _).alloc (by simp) _) _
  clear hw9
  have HF9 := hid (HF.out.later b9)
  have HR9 := hid (HR8.out.later b9)
  have HS9 := hid (HS8.out.later b9)
  have HB9 := hid (below_up HB8.out b9)
  have HZ9 := hid b9.size
  have HC10 := hid (apart_four HF9.out (by simp; omega))
  clear b9 HF HR8 HS8 HB8 HF9
  go_wp2_with fail
  refine HC10.out.mono ?_
  clear HC10
  rintro e w10 ⟨rfl, t10⟩
  have bn := below_new w9 (.cells #[.slice a5 p.length c5, .slice a6 q.length c6, .slice a7 p.length c7, .slice a8 q.length c8] 22)
  have hz : w4.heap.size ≤ w9.heap.size := by have := HZ5.out; have := HZ6.out; have := HZ7.out; have := HZ8.out; have := HZ9.out; omega
  have HR10 := hid ((HR9.out.later bn).stay (fun j h1 h2 => t10.block j (by have := HZ4.out; simp; omega) (fun ⟨h3, _⟩ => by have := HZ4.out; omega)) t10.size)
  have HS10 := hid ((HS9.out.later bn).stay (fun j h1 h2 => t10.block j (by simp; omega) (fun ⟨h3, _⟩ => by omega)) t10.size)
  have HB10 := hid ((below_up HB9.out bn).trans (t10.below (by have := (below_up HB9.out bn).size; exact this) (fun j ⟨h3, _⟩ => by have := HZ2.out; have := HS3.out; have := HZ4.out; omega)))
  have HE1 := hid (pEnd HR10.out)
  have HE2 := hid (pEnd HS10.out)
  rw [end_zero] at HE1 HE2
  clear t10 bn HR9 HS9 HB9 HR10 HS10
  go_wp2_with fail
  refine HE1.out.mono ?_
  clear HE1
  rintro e w11 ⟨rfl, hw⟩
  subst w11
  go_wp2_with fail
  refine HE2.out.mono ?_
  clear HE2
  rintro e w11 ⟨rfl, hw⟩
  subst w11
  go_wp2_with fail
  go_ret
  exact ⟨rfl, HB10.out⟩
end Go.Proofs.Ytjphnkjikemghaa

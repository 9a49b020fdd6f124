/-
  A Puts by value, opened.
-/
import Derived.Test.YtjphnkjikemghaaUCells
import Derived.Test.YtjphnkjikemghaaUPuts
import Derived.Test.YtjphnkjikemghaaUBulk
namespace Go.Proofs.Ytjphnkjikemghaa
open Go.RowKit Cu Go.WideShapes


set_option maxRecDepth 100000 in
theorem puts_of {H : Type} {enc : TypeId × Value → H} {W : World} {base : Nat} {v : Value} {d : DataW H} {p : List MemPlace} (hv : Value.okWide Try.prog W .any base tPuts v)
    (h : DataW.Trod enc Try.prog W 0 (fun _ => true) true tPuts v d p) (hbk : Rows.uptoBulk d ≤ 1048576) :
    ∃ (xb xp xt : Option Addr) (cb cp ct V : Nat) (S : Int) (lb lp : List Nat) (T : List ByteArray), v = .agg #[.slice xb lb.length cb, .int .u64 (V : Int), .int .i64 S, .slice xp lp.length cp, .slice xt T.length ct] ∧ BCell W xb cb lb ∧ BCell W xp cp lp ∧ TCell W xt ct T ∧ V < 18446744073709551616 ∧ In64 S ∧ lb.length ≤ 1048576 ∧ lp.length ≤ 1048576 ∧ T.length ≤ 11534336 ∧ (encBs (T.map bs)).length ≤ 11534336 := by
  obtain ⟨cs, rfl, hsz⟩ := okWide_struct Try.underlying26 hv
  have hsz5 : cs.size = 5 := hsz.trans (by kernel_rfl)
  obtain ⟨l⟩ := cs
  obtain ⟨e0, e1, e2, e3, e4, rfl⟩ : ∃ e0 e1 e2 e3 e4, l = [e0, e1, e2, e3, e4] := by
    match l, hsz5 with
    | [e0, e1, e2, e3, e4], _ => exact ⟨e0, e1, e2, e3, e4, rfl⟩
  obtain ⟨n, hf0⟩ := h
  obtain ⟨xs, m, _, hy, _, hlen, hf⟩ := DataW.trod_struct Try.underlying26 hf0
  obtain ⟨y0, y1, y2, y3, y4, rfl⟩ : ∃ y0 y1 y2 y3 y4, xs = [y0, y1, y2, y3, y4] := by
    match xs, hlen with
    | [y0, y1, y2, y3, y4], _ => exact ⟨y0, y1, y2, y3, y4, rfl⟩
  have t0 : DataW.trod enc Try.prog W 0 (fun _ => true) true m 22 [e0] = some y0 := by have q := hf 0 _ rfl; simp [Value.cells] at q; exact q
  have t1 : DataW.trod enc Try.prog W 0 (fun _ => true) true m 23 [e1] = some y1 := by have q := hf 1 _ rfl; simp [Value.cells] at q; exact q
  have t2 : DataW.trod enc Try.prog W 0 (fun _ => true) true m 2 [e2] = some y2 := by have q := hf 2 _ rfl; simp [Value.cells] at q; exact q
  have t3 : DataW.trod enc Try.prog W 0 (fun _ => true) true m 22 [e3] = some y3 := by have q := hf 3 _ rfl; simp [Value.cells] at q; exact q
  have t4 : DataW.trod enc Try.prog W 0 (fun _ => true) true m 24 [e4] = some y4 := by have q := hf 4 _ rfl; simp [Value.cells] at q; exact q
  obtain ⟨z1, h1, _, w1⟩ := DataW.trod_int Try.underlying23 t1
  obtain ⟨z2, h2, _, w2⟩ := DataW.trod_int Try.underlying2 t2
  simp only [List.cons.injEq, and_true] at h1 h2
  subst h1 h2
  obtain ⟨xb, cb, lb, rfl, hb0, hk0⟩ := bcell_of t0
  obtain ⟨xp, cp, lp, rfl, hb3, hk3⟩ := bcell_of t3
  obtain ⟨xt, ct, T, rfl, hb4, hk4⟩ := tcell_of t4
  have hu := wf_u64 _ w1
  obtain ⟨u, rfl⟩ : ∃ u : Nat, z1 = (u : Int) := ⟨z1.toNat, by omega⟩
  have hbulk : Rows.uptoBulk y0.1 + Rows.uptoBulk y3.1 + Rows.uptoBulk y4.1 ≤ Rows.uptoBulk d := by
    obtain ⟨hd, _⟩ := Prod.mk.inj hy
    rw [hd]
    have b1 := one_bulk y1.1
    have b2 := one_bulk y2.1
    simp only [List.map_cons, List.map_nil, Rows.uptoBulk, Rows.uptoBulkAll]
    omega
  have l0 := hb0.le
  have l3 := hb3.le
  exact ⟨xb, xp, xt, cb, cp, ct, u, z2, lb, lp, T, rfl, hb0, hb3, hb4, by omega, wf_i64 _ w2, by omega, by omega, by omega, by omega⟩
end Go.Proofs.Ytjphnkjikemghaa

import Derived.Test.YtddacphlpjojbaaGreatDRefForm
import Derived.Test.YtddacphlpjojbaaGreatDRefPack
import Derived.Test.YtddacphlpjojbaaGreatDPutAny
import Derived.Test.YtddacphlpjojbaaGreatDKeysEq
import Derived.Test.YtddacphlpjojbaaGreatDRefKeysW
import Derived.Test.YtddacphlpjojbaaGreatDIAll
/-
  The document's Form and PutInts of chapter 9.
-/
namespace Go.Proofs.YtddacphlpjojbaaGreat
open Go.RowKit Cu

theorem packC_own {w : World} {B : Nat} {v : Value} {k : Nat} {c : List Nat} (h : Own w B 5 .u8 v ((c.length * k + 7) / 8) (Pk.byt (Pk.laneB c.length k (ofL c)))) : Own w B 5 .u8 v (packC k c).length (ofL (packC k c)) := by
  unfold Own at h ⊢
  rw [packC_len]
  have e : vals .u8 ((c.length * k + 7) / 8) (Pk.byt (Pk.laneB c.length k (ofL c))) = vals .u8 ((c.length * k + 7) / 8) (ofL (packC k c)) := by
    unfold vals
    apply List.map_congr_left
    intro j hj
    have hj2 := List.mem_range.1 hj
    have : ofL (packC k c) j = Pk.byt (Pk.laneB c.length k (ofL c)) j := by
      unfold ofL packC
      rw [List.getD_eq_getElem?_getD, List.getElem?_map, List.getElem?_range hj2]; rfl
    rw [this]
  rw [e] at h
  exact h
theorem uvals_nums {w : World} {B : Nat} {a : Option Addr} {n c : Nat} {l : List Nat} (hn : l.length = n) (h : w.ownsRow B 44 1 (.slice a n c) n (uvals l)) : Pk.Nums w .u64 a n (ofL l) := fun j hj => by
  have h' : w.ownsRow B 44 1 (.slice a n c) (uvals l).length (uvals l) := by rw [uvals_len, hn]; exact h
  have hjl : j < l.length := by omega
  have hj2 : (uvals l)[j]? = some (.int .u64 ((ofL l j : Nat) : Int)) := by rw [uvals, List.getElem?_map, ofL_in hjl]; rfl
  obtain ⟨g, rfl, hc⟩ := row_cell h' hj2
  exact ⟨g, 0, rfl, (World.ownsRow.lt h' g rfl).2, by rw [Nat.zero_add]; exact hc⟩
end Go.Proofs.YtddacphlpjojbaaGreat

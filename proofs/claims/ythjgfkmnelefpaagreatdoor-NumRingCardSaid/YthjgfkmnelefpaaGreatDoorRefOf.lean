/- Contract of whetstoneref01.Of: the row of a decimal text, by the document. Texts of at most 100000 bytes. -/
import Derived.Test.YthjgfkmnelefpaaGreatDoorOf
namespace Go.Proofs.YthjgfkmnelefpaaGreatDoor
open Go.RowKit

theorem info_u8 : (Tryz.prog.info? 5).map (fun i => (i.zero, i.size, i.bytes)) = some (some (.int .u8 0), 1, 1) := by kernel_rfl


theorem own_zeros8 {w : World} {B n : Nat} {v : Value} (h : w.ownsRow B 5 1 v n (madeCells #[Value.int .u8 0] n).toList) : Own w B 5 v (u8s (List.replicate n 0)) := by
  rw [toList_madeCells_one, show List.replicate n (Value.int .u8 0) = u8s (List.replicate n 0) from by simp [u8s]] at h
  exact Own.mk_ h
theorem own_set8 {w : World} {B g n c : Nat} {ds : List Nat} (h : Own w B 5 (.slice (some ⟨g, 0, none⟩) n c) (u8s ds)) (k d : Nat) :
    Own (w.setCell ⟨g, k, none⟩ (.int .u8 (d : Int))) B 5 (.slice (some ⟨g, 0, none⟩) n c) (u8s (ds.set k d)) := by
  have hn := h.lt.1
  have hh : w.ownsRow B 5 1 (.slice (some ⟨g, 0, none⟩) n c) n (u8s ds) := by rw [hn]; rw [hn] at h; exact h
  have := (hh.stored k (.int .u8 (d : Int))).1
  rw [show (u8s ds).set k (.int .u8 (d : Int)) = u8s (ds.set k d) from by simp [u8s, List.map_set]] at this
  exact Own.mk_ this

theorem set_drop {ds es : List Nat} {n q : Nat} (hd : ds.length = n) (he : es.length = n) (hq : q < n) (h : ds.drop (q + 1) = es.drop (q + 1)) : (ds.set q (es.getD q 0)).drop q = es.drop q := by
  have hl : q < (ds.set q (es.getD q 0)).length := by rw [List.length_set]; omega
  rw [List.drop_eq_getElem_cons hl, List.drop_eq_getElem_cons (show q < es.length by omega)]
  congr 1
  · simp [List.getD_eq_getElem?_getD, List.getElem?_eq_getElem (show q < es.length by omega)]
  · rw [List.drop_set_of_lt (by omega), h]

def RefOfRet (s : ByteArray) (w : World) (e : Ending) (w' : World) : Prop := (¬ digs (bt s) → e = .returned (.tuple #[.slice none 0 0, .bool false])) ∧ (digs (bt s) → ∃ v, e = .returned (.tuple #[v, .bool true]) ∧ IsNat w' w.heap.size v (dval (dg s))) ∧ Below w.heap.size w w'

end Go.Proofs.YthjgfkmnelefpaaGreatDoor

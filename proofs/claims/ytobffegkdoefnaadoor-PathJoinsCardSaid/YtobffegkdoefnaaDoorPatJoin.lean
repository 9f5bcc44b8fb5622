/- The program's Join and the document's. -/
import Derived.Test.YtobffegkdoefnaaDoorPatLives
namespace Go.Proofs.YtobffegkdoefnaaDoor
open Go.RowKit Go.MapKept Go.Shelf
namespace Pat

theorem joinX : Builder.Extra Tryd.prog Tryd.joinA_ren := by
  refine { sizeBuilder := ?_, liesBuilder := ?_, t5 := Tryd.underlying5, a5 := Tryd.isAgg5, z5 := Tryd.sizeOf5, v5 := Tryd.zeroValue5, infoByte := ?_, cellsByte := ?_, sizeByte := ?_, neB5 := ?_ }
  · kernel_rfl
  · kernel_rfl
  · kernel_rfl
  · kernel_rfl
  · kernel_rfl
  · decide

theorem lens_le {l : List ByteArray} (h : IsNames l) : (Lib.join (l.map (·.data.toList)) [47]).length ≤ 10000 := by
  cases l with
  | nil => simp [Lib.join_nil]
  | cons x r =>
    rw [List.map_cons, Lib.join_length]
    have key : ∀ (m : List ByteArray), (∀ n ∈ m, Ent.Right (Crc.tx n)) → Lib.lens (m.map (·.data.toList)) ≤ 48 * m.length := by
      intro m
      induction m with
      | nil => intro _; simp [Lib.lens]
      | cons y m ih =>
        intro hm
        have h1 := (hm y (by simp)).1.2
        have h2 := ih (fun n hn => hm n (by simp [hn]))
        unfold Crc.tx at h1
        rw [List.length_map] at h1
        simp only [Lib.lens, List.map_cons, List.sum_cons, List.length_cons] at h2 ⊢
        omega
    have h1 := key (x :: r) h.2
    rw [List.map_cons] at h1
    have h2 := h.1
    simp only [List.length_cons, List.length_map, List.length_nil] at h1 h2 ⊢
    omega

/-- the library's Join of a path's names -/
theorem strJoin_any (w : World) (A : Option Addr) (c : Nat) (l : List ByteArray) (h : Txs w A l) (hc : l.length ≤ c) (hn : IsNames l) :
    Calls Tryd.prog 24 #[.slice A l.length c, .string ⟨#[47]⟩] w fun e w' => e = .returned (.string (mk (Lib.join (l.map (·.data.toList)) [47]))) ∧ Below w.heap.size w w' := by
  have h64 := hn.1
  by_cases h0 : l = []
  · subst h0
    refine (Any.strings_Join_none Tryd.joinA joinX A c ⟨#[47]⟩ w).mono fun e w' ⟨he, hw⟩ => ⟨he, ?_⟩
    rw [hw]
    exact Below.refl _ _
  · obtain ⟨b, o, rfl, hlt, _⟩ := h.at' 0 (List.length_pos_iff.2 h0)
    exact Any.strings_Join Tryd.joinA joinX b o c l ⟨#[47]⟩ w (fun j x hj => by
      obtain ⟨hj', rfl⟩ := List.getElem?_eq_some_iff.1 hj
      obtain ⟨b', o', e, _, hc'⟩ := h.at' j hj'
      injection e with e
      injection e with e1 e2
      subst e1 e2
      exact hc') hlt (by omega) hc (by have := lens_le hn; show (Lib.join (l.map (·.data.toList)) [47]).length ≤ _; omega)

/-- what Join answers -/
def jn (l : List ByteArray) : Value := if IsNames l then .tuple #[.string (pth l), .int .i64 0] else .tuple #[.string ByteArray.empty, .int .i64 3]
theorem pth_front (l : List ByteArray) : (⟨#[47]⟩ : ByteArray) ++ mk (Lib.join (l.map (·.data.toList)) [47]) = pth l := by
  rw [pth_join]
  apply ByteArray.ext
  rw [ByteArray.data_append]
  simp

set_option maxRecDepth 100000 in
set_option maxHeartbeats 1000000 in
theorem join_any (w : World) (A : Option Addr) (c : Nat) (l : List ByteArray) (h : Txs w A l) (hc : l.length ≤ c) :
    Calls Tryd.prog 15 #[.slice A l.length c] w fun e w' => e = .returned (jn l) ∧ Below w.heap.size w w' := by
  have H := Lib.hid h
  clear h
  by_cases hn : IsNames l
  · have hnb : isNames l = true := decide_eq_true hn
    have HJ := Lib.hid (show jn l = .tuple #[.string (pth l), .int .i64 0] from if_pos hn)
    have HS := Lib.hid (strJoin_any w A c l H.out hc hn)
    have hsz : (mk (Lib.join (l.map (·.data.toList)) [47])).size ≤ 10000 := by
      have := lens_le hn
      rw [Lib.size_eq, data_mk]
      exact this
    have HP := Lib.hid (pth_front l)
    clear hn
    generalize mk (Lib.join (l.map (·.data.toList)) [47]) = T at *
    have hadd : 1 + T.size ≤ 9223372036854775807 := by omega
    have hadd2 : ¬ (9223372036854775807 : Int) < ((1 + T.size : Nat) : Int) := by omega
    go_enter Tryd.func15, Tryd.ntmps15
    go_wp2_with fail
    refine (right_any w A c l.length l H.out rfl).mono ?_
    rintro e w1 ⟨rfl, rfl⟩
    rw [hnb]
    go_wp2_with fail
    refine HS.out.mono ?_
    rintro e w2 ⟨rfl, hb⟩
    have HB := Lib.hid hb
    clear hb HS
    go_wp2
    refine bodyPost_ret (v := .tuple #[.string (⟨#[47]⟩ ++ T), .int .i64 0]) ?_ rfl ⟨by rw [HJ.out, HP.out], HB.out⟩
    simp [results, Tryd.results15, go_sem]
  · have hnb : isNames l = false := decide_eq_false hn
    have HJ := Lib.hid (show jn l = .tuple #[.string ByteArray.empty, .int .i64 3] from if_neg hn)
    clear hn
    go_enter Tryd.func15, Tryd.ntmps15
    go_wp2_with fail
    refine (right_any w A c l.length l H.out rfl).mono ?_
    rintro e w1 ⟨rfl, rfl⟩
    rw [hnb]
    go_wp2
    refine bodyPost_ret (v := .tuple #[.string ByteArray.empty, .int .i64 3]) ?_ rfl ⟨by rw [HJ.out], Below.refl _ _⟩
    simp [results, Tryd.results15, go_sem]
    rfl
end Pat
end Go.Proofs.YtobffegkdoefnaaDoor

/- The document's superblock. -/
import Derived.Test.YthfkbfbchoekjaaSupDecode
import Derived.ArgAppend
namespace Go.Proofs.Ythfkbfbchoekjaa
open Go.RowKit Go.MapKept
namespace Sup

/-- an append whose run is known -/
theorem wpList_append_run {P : Program} {w w' : World} {ops : Array Oper} {rest : List Oper} {o : Oper} {a : Act} {Q : Exit → Act → World → Prop} (hgd : o.guard = none) (s x : Operand) (t : TypeId)
    (ho : o.op = .call { callee := .builtin .append, args := #[s, x], argTypes := #[t, t] }) (v u v' : Value) (hs : a.eval s = v) (hx : a.eval x = u) (hr : (Builtin.append_ #[t, t] o.type #[v, u]).run P w = .ok v' w')
    (h : wpList P ops Q rest (a.put o.dst v') w') : wpList P ops Q (o :: rest) a w := by
  refine wpList_plain hgd fun K hK => ?_
  unfold Oper.wp execOp
  simp only [ho, resolve, invoke, builtin, Sem.run_bind, Sem.run_pure, Result.andThen_ok, List.map_toArray, List.map_cons, List.map_nil, hs, hx, hr]
  exact hK _ _ h

theorem grow8 (W : World) (g n m s : Nat) (h : Crc.Wds W (some ⟨g, 0, none⟩) (front n m s)) (hn : n < 65536) (hm : m < 65536) (hs : s < 65536) :
    ∃ (G : Option Addr) (gc : Nat) (w' : World), (Builtin.append_ #[25, 25] 25 #[.slice (some ⟨g, 0, none⟩) 7 7, .slice (some ⟨W.heap.size, 0, none⟩) 1 1]).run Try.prog (W.alloc (.cells #[.int .u64 (sum n m s : Nat)] 39)) = .ok (.slice G 8 gc) w' ∧ Pack.Wds w' G (sb n m s) ∧ Below W.heap.size W w' := by
  obtain ⟨i1, hi1, hy⟩ := Option.map_eq_some_iff.1 Pack.u64_info
  injection hy with hy0 hy
  injection hy with hy1 hy2
  have hb := (Below.refl W.heap.size W).alloc (Nat.le_refl _) (.cells #[.int .u64 (sum n m s : Nat)] 39)
  have h7 : Crc.Wds (W.alloc (.cells #[.int .u64 (sum n m s : Nat)] 39)) (some ⟨g, 0, none⟩) (front n m s) := h.keep hb
  obtain ⟨v', w', hr, hown, hgr⟩ := run_append_arg_grows (P := Try.prog) (W.alloc (.cells #[.int .u64 (sum n m s : Nat)] 39)) 25 25 39 i1 (.int .u64 0) 1 8 Try.underlying25 hi1 hy0 hy1 hy2 rfl (by decide)
    ⟨g, 0, none⟩ 7 7 (Pack.u64s (front n m s)) rfl (fun j u hj => by
      unfold Pack.u64s at hj
      rw [List.getElem?_map] at hj
      rcases Nat.lt_or_ge j 7 with h1 | h1
      · obtain ⟨b, o, e, _, hc⟩ := h7.at' j h1
        injection e with e
        injection e with e1 e2
        subst e1 e2
        rw [List.getElem?_eq_getElem h1] at hj
        rw [Go.WideShapes.add_plain, hc, ← hj]
        rfl
      · rw [List.getElem?_eq_none h1] at hj
        cases hj)
    ⟨W.heap.size, 0, none⟩ 1 1 [.int .u64 (sum n m s : Nat)] rfl (cell_one_new _ _ _) (by decide) (by decide) (by decide)
  obtain ⟨G, gc, rfl⟩ := Pack.row_slice hown
  refine ⟨G, gc, w', hr, ?_, hb.grown hgr hb.size (fun k hk => by cases hk)⟩
  exact Pack.own_wds (l := sb n m s) hown (sb_u64 hn hm hs) (by decide)

theorem refEncode_no (w : World) (n m s : Int) (hm : Geo.may n m s = false) :
    Calls Try.prog 9 #[.int .i64 n, .int .i64 m, .int .i64 s] w fun r w' => r = .returned (.tuple #[.slice none 0 0, .bool false]) ∧ Below w.heap.size w w' := by
  have hof := Geo.of_any w n m s
  rw [hm, Geo.parts_no hm] at hof
  have HO := Lib.hid hof
  clear hof hm
  go_enter Try.func9, Try.ntmps9
  go_wp2_with fail
  refine HO.out.mono ?_
  rintro e w1 ⟨rfl, hb⟩
  have HB1 := Lib.hid hb
  clear hb
  go_wp2
  go_ret2
  refine ⟨rfl, ?_⟩
  exact HB1.out.alloc HB1.out.size _

theorem front_new (w : World) (n m s : Nat) (hn : n < 65536) (hm : m < 65536) (hs : s < 65536) : Crc.Wds (w.alloc (.cells #[.int .u64 (magic : Int), .int .u64 ((n : Int) + 65536 * (m : Int) + 4294967296 * (s : Int)), .int .u64 0, .int .u64 0, .int .u64 0, .int .u64 0, .int .u64 0] 39)) (some ⟨w.heap.size, 0, none⟩) (front n m s) :=
  ⟨fun x hx => by
    have h1 := nums_lt hn hm hs
    have h3 := magic_lt
    simp only [front, List.mem_cons, List.not_mem_nil, or_false] at hx
    rcases hx with rfl | rfl | rfl | rfl | rfl | rfl | rfl <;> omega, by rw [front_len]; omega, fun j hj => ⟨w.heap.size, 0, rfl, by simp, by
    rw [World.cell?_alloc_mark, Nat.zero_add]
    have : j < 7 := hj
    have e : (n : Int) + 65536 * (m : Int) + 4294967296 * (s : Int) = ((nums n m s : Nat) : Int) := by unfold nums; omega
    match j, this with
    | 0, _ => rfl
    | 1, _ => rw [e]; rfl
    | 2, _ => rfl
    | 3, _ => rfl
    | 4, _ => rfl
    | 5, _ => rfl
    | 6, _ => rfl⟩⟩

/-- the text's word, from byte k on -/
def mg (k : Nat) : Nat := Crc.le (txt.drop k)
theorem mg8 : mg 8 = 0 := rfl
theorem mg7 : mg 7 = 49 := by decide
theorem mg6 : mg 6 = 12592 := by decide
theorem mg5 : mg 5 = 3223621 := by decide
theorem mg4 : mg 4 = 825247052 := by decide
theorem mg3 : mg 3 = 211263245396 := by decide
theorem mg2 : mg 2 = 54083390821454 := by decide
theorem mg1 : mg 1 = 13845348050292289 := by decide
theorem mg0 : mg 0 = magic := by decide

set_option maxHeartbeats 2000000 in
set_option maxRecDepth 100000 in
theorem refEncode_yes (w : World) (n m s : Nat) (hm : Geo.may n m s = true) :
    Calls Try.prog 9 #[.int .i64 (n : Int), .int .i64 (m : Int), .int .i64 (s : Int)] w fun r w' => ∃ (G : Option Addr) (gc : Nat), r = .returned (.tuple #[.slice G 8 gc, .bool true]) ∧ Pack.Wds w' G (sb n m s) ∧ Below w.heap.size w w' := by
  obtain ⟨h1, h2, h3⟩ := may_lt hm
  have hof := Geo.of_any w n m s
  rw [hm, Geo.parts_yes hm] at hof
  have HO := Lib.hid hof
  clear hof hm
  go_enter Try.func9, Try.ntmps9
  go_wp2_with fail
  refine HO.out.mono ?_
  rintro e w1 ⟨rfl, hb⟩
  have HB := Lib.hid (hb.alloc hb.size (.cells #[.int .i64 16, .int .i64 (16 + (m : Int) * 8), .int .i64 (Geo.bmAt n m), .int .i64 (Geo.bkAt n m), .int .i64 (Geo.fin n m s)] 42))
  clear hb HO
  go_wp2
  generalize w1.alloc (.cells #[.int .i64 16, .int .i64 (16 + (m : Int) * 8), .int .i64 (Geo.bmAt n m), .int .i64 (Geo.bkAt n m), .int .i64 (Geo.fin n m s)] 42) = w2 at *
  go_loop [10, 11] (fun v i => ∃ k : Nat, k ≤ 8 ∧ i = .int .i64 ((k : Int) - 1) ∧ v = .int .u64 ((mg k : Nat) : Int)) (fun _ i => (intOf i + 1).toNat)
  case atStart => exact ⟨8, by omega, rfl, rfl⟩
  case round =>
    obtain ⟨k, hk, rfl, rfl⟩ := hrel
    have : k = 0 ∨ k = 1 ∨ k = 2 ∨ k = 3 ∨ k = 4 ∨ k = 5 ∨ k = 6 ∨ k = 7 ∨ k = 8 := by omega
    clear hk
    rcases this with rfl | rfl | rfl | rfl | rfl | rfl | rfl | rfl | rfl
    · rw [mg0]
      have hf := front_new w2 n m s h1 h2 h3
      have hb3 := HB.out.alloc HB.out.size (.cells #[.int .u64 (magic : Int), .int .u64 ((n : Int) + 65536 * (m : Int) + 4294967296 * (s : Int)), .int .u64 0, .int .u64 0, .int .u64 0, .int .u64 0, .int .u64 0] 39)
      have HF := Lib.hid hf
      have HB3 := Lib.hid hb3
      clear hf hb3
      go_wp2_with fail
      generalize w2.alloc (.cells #[.int .u64 (magic : Int), .int .u64 ((n : Int) + 65536 * (m : Int) + 4294967296 * (s : Int)), .int .u64 0, .int .u64 0, .int .u64 0, .int .u64 0, .int .u64 0] 39) = w3 at *
      generalize w2.heap.size = g at *
      refine (Crc.bytes_any _ 7 _ HF.out (by rw [front_len]; omega)).mono ?_
      rintro e w4 ⟨rfl, hb⟩
      have HF4 := Lib.hid (HF.out.keep hb)
      have HB4 := Lib.hid (HB3.out.trans (hb.mono HB3.out.size))
      clear hb HF HB3 HB
      have hsum := Crc.ref32_any w4 (Crc.str (Crc.wflat (front n m s))) (by rw [Crc.str_size, Crc.wflat_len, front_len]; omega)
      rw [Crc.tx_str (Crc.wflat_byt _), show Crc.S32 (Crc.wflat (front n m s)) = sum n m s from rfl] at hsum
      have HS := Lib.hid hsum
      clear hsum
      have hlt := sum_lt n m s
      go_wp2_with fail
      refine HS.out.mono ?_
      rintro e w' ⟨rfl, rfl⟩
      obtain ⟨G, gc, w5, hap, hw, hb5⟩ := grow8 w4 g n m s HF4.out h1 h2 h3
      have HAP := Lib.hid hap
      have HW := Lib.hid hw
      have HB5 := Lib.hid (HB4.out.trans (hb5.mono HB4.out.size))
      clear hap hw hb5 HF4 HB4
      go_wp2_with (at_builtin; refine wpList_append_run rfl (.tmp 44) (.tmp 49) 25 rfl _ _ _ rfl rfl HAP.out ?_)
      go_ret2
      exact ⟨G, gc, rfl, HW.out, HB5.out⟩
    · rw [mg1]
      go_wp2
      go_round
      case rel => exact ⟨0, by omega, rfl, by rw [mg0]; rfl⟩
      case measure => simp [intOf]
    · rw [mg2]
      go_wp2
      go_round
      case rel => exact ⟨1, by omega, rfl, by rw [mg1]; rfl⟩
      case measure => simp [intOf]
    · rw [mg3]
      go_wp2
      go_round
      case rel => exact ⟨2, by omega, rfl, by rw [mg2]; rfl⟩
      case measure => simp [intOf]
    · rw [mg4]
      go_wp2
      go_round
      case rel => exact ⟨3, by omega, rfl, by rw [mg3]; rfl⟩
      case measure => simp [intOf]
    · rw [mg5]
      go_wp2
      go_round
      case rel => exact ⟨4, by omega, rfl, by rw [mg4]; rfl⟩
      case measure => simp [intOf]
    · rw [mg6]
      go_wp2
      go_round
      case rel => exact ⟨5, by omega, rfl, by rw [mg5]; rfl⟩
      case measure => simp [intOf]
    · rw [mg7]
      go_wp2
      go_round
      case rel => exact ⟨6, by omega, rfl, by rw [mg6]; rfl⟩
      case measure => simp [intOf]
    · rw [mg8]
      go_wp2
      go_round
      case rel => exact ⟨7, by omega, rfl, by rw [mg7]; rfl⟩
      case measure => simp [intOf]
end Sup
end Go.Proofs.Ythfkbfbchoekjaa

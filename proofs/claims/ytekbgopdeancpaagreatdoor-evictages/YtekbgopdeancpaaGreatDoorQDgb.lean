/- The statements' own Digest, of bytes that are a few more than a text may have. -/
import Derived.Test.YtekbgopdeancpaaGreatDoorGF

namespace Go.Proofs.YtekbgopdeancpaaGreatDoor
open Go.RowKit
attribute [local irreducible] sch rnds kon nxt t1 t2 rotl rotr stpB blocks
set_option maxRecDepth 100000 in
set_option maxHeartbeats 400000 in
theorem clone_big (A : Option Addr) (n c : Nat) (l : List UInt8) (w : World) (hr : Rd w 1 A n c (l.map bv8)) (hz : n ≤ 140737488353000) :
    Calls Tryz.prog 67 #[.slice A n c] w fun e w' => ∃ v, e = .returned v ∧ w'.ownsRow w.heap.size 5 1 v n (l.map bv8) ∧ Below w.heap.size w w' := by
  obtain rfl := hr.len
  obtain ⟨i0, hi0, hz0, hz1, hz2⟩ := info_parts u8_info
  rcases A with _ | a
  · have hl : l = [] := by
      rcases Nat.eq_zero_or_pos (l.map bv8).length with h0 | h0
      · simpa using h0
      · obtain ⟨b, off, h1, _⟩ := hr.2.2.2 h0; cases h1
    subst hl
    have he : ∀ w : World, (binOp .eql 41 (.slice none 0 c) (.slice none 0 0)).run Tryz.prog w = .ok (.bool true) w := fun _ => rfl
    go_enter Tryz.func67, Tryz.ntmps67
    go_wp2
    go_ret
    exact ⟨_, rfl, World.ownsRow_nil _ _ _ _, Below.refl _ _⟩
  · have hown : (w.alloc (.cells #[] 5)).ownsRow w.heap.size 5 1 (.slice (some ⟨w.heap.size, 0, none⟩) 0 0) 0 [] :=
      ⟨rfl, .inr ⟨w.heap.size, 0, #[], rfl, Nat.le_refl _, heap_alloc_new w _, Nat.le_refl _, by simp [maxLen], rfl, rfl⟩⟩
    have hb0 := (Below.refl w.heap.size w).alloc (Nat.le_refl _) (.cells #[] 5)
    have hr1 := hr.below hb0
    have hcells : ∀ j u, (l.map bv8)[j]? = some u → (w.alloc (.cells #[] 5)).cell? (a.add j) = some u := fun j u hj => by
      obtain ⟨b, off, h1, hc⟩ := hr1.at hj
      injection h1 with h1
      subst h1
      rw [addr_add]; exact hc
    have HC := Lib.hid hcells
    clear hcells
    have he : ∀ w : World, (binOp .eql 41 (.slice (some a) l.length c) (.slice none 0 0)).run Tryz.prog w = .ok (.bool false) w := fun _ => rfl
    go_enter Tryz.func67, Tryz.ntmps67
    go_wp2_with (at_builtin; refine wpList_append2 rfl (.tmp 5) (.tmp 6) _ rfl Tryz.underlying41 hi0 hz0 hz1 hz2 rfl (by omega) _ 0 [] rfl hown a l.length c (l.map bv8) (by simp) HC.out (bytes_oneCell l) rfl (by omega) (by unfold maxLen; omega) hb0.size ?_; rintro v1 w1 ⟨hown1, hb1⟩; rw [Nat.zero_add, List.nil_append] at hown1)
    go_ret
    exact ⟨_, rfl, hown1, hb0.trans hb1⟩
set_option maxRecDepth 100000 in
set_option maxHeartbeats 4000000 in
theorem digest_big (A : Option Addr) (n c : Nat) (l : List UInt8) (w : World) (hr : Rd w 1 A n c (l.map bv8)) (hz : n ≤ 140737488353000) :
    Calls Tryz.prog 22 #[.slice A n c] w fun e w' => e = .returned (.string (str (hexT (bytesW (sumS l).list)))) ∧ Below w.heap.size w w' := by
  obtain rfl := hr.len
  obtain ⟨i0, hi0, hz0, hz1, hz2⟩ := info_parts u8_info
  go_enter Tryz.func22, Tryz.ntmps22
  go_wp2_with fail
  with_reducible refine (clone_big _ _ _ _ _ hr hz).mono ?_
  rintro e w1 ⟨v1, rfl, hown1, hb1⟩
  go_wp2_with (at_builtin; refine wpList_append1' rfl (.tmp 13) (.tmp 14) _ rfl Tryz.underlying41 hi0 hz0 hz1 hz2 rfl (by omega) _ _ _ rfl hown1 [.int .u8 128] rfl (by simp [Value.oneCell']) rfl (by omega) (by unfold maxLen; omega) hb1.size ?_; rintro v2 w2 ⟨hown2, hb2, hsz2, hfar2⟩)
  have hp0 : (l.map bv8) ++ [.int .u8 128] = (padJ l 0).map bv8 := by simp [padJ]; rfl
  rw [hp0] at hown2
  have hbel := hb1.trans hb2
  clear hp0 hb1 hb2 hsz2 hfar2 hown1
  go_loopw [3] (fun v wr => ∃ j : Nat, j ≤ zeros l.length ∧ wr.ownsRow w.heap.size 5 1 v (l.length + 1 + j) ((padJ l j).map bv8) ∧ Below w.heap.size w wr) (fun v _ => zeros l.length + l.length + 1 - (match v with | .slice _ n _ => n | _ => 0))
  case atStart => exact ⟨0, Nat.zero_le _, hown2, hbel⟩
  case round =>
    clear hown2 hbel
    obtain ⟨j, hj, hown, hbel⟩ := hrel
    have hzl := zeros_lt l.length
    obtain ⟨A2, c2, rfl, hrd⟩ := own_rd hown
    clear hrd
    by_cases hlt : j < zeros l.length
    · have hne : (((l.length : Int) + 1 + (j : Int)) % 64 != 56) = true := by rw [bne_iff_ne]; unfold zeros at hlt; omega
      have hap : (padJ l j).map bv8 ++ [.int .u8 0] = (padJ l (j + 1)).map bv8 := by rw [← padJ_succ, List.map_append]; rfl
      have Ha := Lib.hid hap
      clear hap
      go_wp2_with (at_builtin; refine wpList_append1' rfl (.tmp 20) (.tmp 21) _ rfl Tryz.underlying41 hi0 hz0 hz1 hz2 rfl (by omega) _ _ _ rfl hown [.int .u8 0] rfl (by simp [Value.oneCell']) rfl (by omega) (by unfold maxLen; omega) hbel.size ?_; rintro v3 w3 ⟨hown3, hb3, hsz3, hfar3⟩)
      obtain ⟨A3, c3, rfl, hrd3⟩ := own_rd hown3
      rw [Ha.out] at hown3
      go_roundw
      case rel => exact ⟨j + 1, by omega, hown3, hbel.trans hb3⟩
      case measure => simp; omega
    · have hne : (((l.length : Int) + 1 + (j : Int)) % 64 != 56) = false := by
        have : j = zeros l.length := by omega
        subst this
        rw [bne_eq_false_iff_eq]; unfold zeros; omega
      have HZ : Hid (j = zeros l.length) := by show _ = _; omega
      go_wp2
      go_loopw [3, 5, 27] (fun v _ q wr => ∃ i : Nat, i ≤ 8 ∧ q = .int .i64 i ∧ wr.ownsRow w.heap.size 5 1 v (l.length + 1 + j + i) ((padJ l j ++ (len8 l.length).take i).map bv8) ∧ Below w.heap.size w wr) (fun _ _ q _ => 8 - (intOf q).toNat)
      case atStart => exact ⟨0, by omega, rfl, by rw [List.take_zero, List.append_nil]; exact hown, hbel⟩
      case round =>
        clear hown hbel
        obtain ⟨i, hi, rfl, hown, hbel⟩ := hrel
        by_cases hi8 : i < 8
        · have s0 : (0 : Int) ≤ 56 - 8 * (i : Int) := by omega
          have s1 : (56 - 8 * (i : Int)).toNat = 56 - 8 * i := by omega
          have s2 : (8 : Int) * (i : Int) ≤ 56 := by omega
          have s3 : 56 - 8 * i < 64 := by omega
          have hap : (padJ l j ++ (len8 l.length).take i).map bv8 ++ [bv8 (UInt8.ofNat ((l.length * 8) >>> (56 - 8 * i)))] = (padJ l j ++ (len8 l.length).take (i + 1)).map bv8 := by
            rw [List.take_add_one, len8_at _ _ hi8]; simp
          have Ha := Lib.hid hap
          have HL := Lib.hid (len_byte l.length (56 - 8 * i))
          clear hap
          go_wp2_with (at_builtin; refine wpList_append1' rfl (.tmp 30) (.tmp 37) _ rfl Tryz.underlying41 hi0 hz0 hz1 hz2 rfl (by omega) _ _ _ rfl hown [_] rfl (by intro y hy; rw [List.mem_singleton] at hy; subst hy; rfl) rfl (by omega) (by unfold maxLen; omega) hbel.size ?_; rintro v4 w4 ⟨hown4, hb4, hsz4, hfar4⟩)
          rw [HL.out] at hown4
          have h9 := Ha.out
          go_roundw
          case rel => exact ⟨i + 1, by omega, by go_num, by rw [← h9]; exact hown4, hbel.trans hb4⟩
          case measure => simp [intOf]; omega
        · have hdi : decide ((i : Int) < 8) = false := by simp; omega
          have hi8' : i = 8 := by omega
          have hpl := pad_length l
          have hzs := zeros_spec l.length
          rw [hi8', HZ.out, ← pad_eq] at hown
          have hpn : (pad l).length = l.length + 1 + j + 8 := by rw [hpl, ← HZ.out]; omega
          rw [← HZ.out] at hown
          have hp64 : (pad l).length % 64 = 0 := by rw [hpl]; exact hzs
          obtain ⟨A5, c5, rfl, hrd⟩ := own_rd hown
          have hrd' : Rd wr 1 A5 (pad l).length c5 ((pad l).map bv8) := by rw [hpn]; exact hrd
          have hpb : (pad l).length ≤ 140737488353000 + 72 := by rw [hpl]; have := zeros_lt l.length; omega
          have Hpn := Lib.hid hpn
          clear hpl hzs hi8' hrd hown hpn
          generalize hP : pad l = pd at *
          have HP := Lib.hid hP
          have Hp64 := Lib.hid hp64
          clear hP hp64
          rename World => wb
          go_wp2_with (go_at_call 68; (with_reducible refine (constants_any _).mono ?_); rintro e w5 ⟨kg, rfl, hkg, hkb, hb5⟩)
          have hbw := (hbel.alloc hbel.size (.cells (iniS.list.map wv).toArray 89))
          have hv0 : Blk w5 wb.heap.size 89 (iniS.list.map wv) := (Blk.new wb 89 (iniS.list.map wv)).below hb5 (by simp)
          have hk0 := blk_rd hkb (n := 64) (by rw [List.length_map, kon_length]) (by omega)
          have hb0 : Below w.heap.size w w5 := hbw.trans (hb5.mono (by simp; have := hbel.size; omega))
          have hr0 : Rd w5 1 A5 pd.length c5 (pd.map bv8) := (hrd'.below ((Below.refl wb.heap.size wb).alloc (Nat.le_refl _) _)).below hb5
          have hszb : wb.heap.size < w5.heap.size := hv0.lt
          have hszw : w.heap.size ≤ wb.heap.size := hbel.size
          obtain ⟨b5, o5, rfl, hb5l, _⟩ := hrd'.addr (by rw [hrd'.1]; have := Hpn.out; omega)
          have hkw : wb.heap.size < kg := by simp at hkg; omega
          clear hbw hkb hb5 hrd' hbel hkg
          go_loopw [3] (fun v wr => ∃ (j n' c' b' o' : Nat), v = .slice (some ⟨b', o', none⟩) n' c' ∧ n' + 64 * j ≤ pd.length ∧ pd.length ≤ n' + 64 * j ∧ b' < wb.heap.size ∧ Rd wr 1 (some ⟨b', o', none⟩) n' c' ((pd.drop (64 * j)).map bv8) ∧ Blk wr wb.heap.size 89 ((blocks j pd iniS).list.map wv) ∧ Rd wr 1 (some ⟨kg, 0, none⟩) 64 64 (kon.map wv) ∧ Below w.heap.size w wr) (fun v _ => match v with | .slice _ n _ => n | _ => 0)
          case atStart => exact ⟨0, _, _, _, _, rfl, by have := Hpn.out; omega, by have := Hpn.out; omega, hb5l, by rw [Nat.mul_zero, List.drop_zero, ← Hpn.out]; exact hr0, by rw [blocks_zero]; exact hv0, hk0, hb0⟩
          case round =>
            clear hr0 hv0 hk0 hb0
            obtain ⟨m, n', c', bb, oo, rfl, hn1, hn2, hbw, hrd, hv, hk, hbel⟩ := hrel
            by_cases hlt : 0 < n'
            · have hge : 64 ≤ n' := by have := Hp64.out; omega
              have hsn := Lib.hid (blocks_snoc m pd iniS)
              generalize blocks m pd iniS = v at *
              have hc1 := hrd.2.1
              have hc2 := hrd.2.2.1
              unfold maxLen at hc2
              have hlt' : (0 : Int) < (n' : Int) := by omega
              have hge' : (64 : Int) ≤ (n' : Int) := by omega
              obtain ⟨⟨y0, y1, y2, y3, y4, y5, y6, y7⟩, yf⟩ := hv.eight
              clear yf
              go_wp2_with fail
              with_reducible refine (hashed_ex v _ _ _ _ _ _ _ hrd hge hk).mono ?_
              rintro e w6 ⟨R, HR, rfl, hb6⟩
              clear y0 y1 y2 y3 y4 y5 y6 y7
              have hv6 := hv.below hb6 hv.lt
              have hk6 := hk.below hb6
              have hr6 := hrd.below hb6
              have hbe6 := hbel.trans (hb6.mono hbel.size)
              clear hv hk hrd hbel hb6
              obtain ⟨⟨y0, y1, y2, y3, y4, y5, y6, y7⟩, yf⟩ := hv6.eight
              have f0 := yf 0
              have f1 := yf 1
              have f2 := yf 2
              have f3 := yf 3
              have f4 := yf 4
              have f5 := yf 5
              have f6 := yf 6
              have f7 := yf 7
              have hvR := hv6.set8 R
              have hkR := hk6.set8 (g := wb.heap.size) (by omega) R
              have hrR := hr6.set8 (g := wb.heap.size) (by omega) R
              have hbR := below_set8 hbe6 hszw R
              clear hk6 hr6 hbe6 yf
              by_cases hc64 : c' = 64
              · subst hc64
                go_wp2
                go_roundw
                case rel => exact ⟨m + 1, _, _, _, _, rfl, by omega, by omega, hbw, (by rw [List.drop_of_length_le (by omega)]; exact Rd.empty _ _ (by simp [maxLen])), (by rw [hsn.out, ← HR.out]; exact hvR), hkR, hbR⟩
                case measure => simp; omega
              · have hrD := hrR.drop64 hge
                rw [List.drop_drop, show 64 * m + 64 = 64 * (m + 1) from by omega] at hrD
                go_wp2
                go_roundw
                case rel => exact ⟨m + 1, _, _, _, _, rfl, by omega, by omega, hbw, hrD, (by rw [hsn.out, ← HR.out]; exact hvR), hkR, hbR⟩
                case measure => simp; omega
            · have hm : m = pd.length / 64 := by omega
              have hR : sumS l = blocks m pd iniS := by unfold sumS; rw [HP.out, ← hm]
              rw [← hR] at hv
              have hdn : decide ((0 : Int) < (n' : Int)) = false := by simp; omega
              clear hm hR
              generalize hRR : sumS l = R at *
              have HRR := Lib.hid hRR
              clear hRR
              obtain ⟨⟨y0, y1, y2, y3, y4, y5, y6, y7⟩, yf⟩ := hv.eight
              clear yf
              go_wp2
              have HD := Lib.hid (hexW_length R)
              have hlist : R.list.length = 8 := rfl
              clear y0 y1 y2 y3 y4 y5 y6 y7 hv hk hrd
              go_loopw [8, 10, 11, 52] (fun v _ _ q wr => ∃ k : Nat, k ≤ 8 ∧ q = .int .i64 k ∧ wr.ownsRow w.heap.size 5 1 v (8 * k) (((hexT (bytesW R.list)).take (8 * k)).map bv8) ∧ Below w.heap.size w wr) (fun _ _ _ q _ => 8 - (intOf q).toNat)
              case atStart => exact ⟨0, by omega, rfl, World.ownsRow_nil _ _ _ _, hbel⟩
              case round =>
                clear hbel
                obtain ⟨k, hk8, rfl, hown, hbel⟩ := hrel
                by_cases hlt : k < 8
                · have hidx : ∀ W : World, (Instr.index 89 (.agg #[.int .u32 (u R.a), .int .u32 (u R.b), .int .u32 (u R.c), .int .u32 (u R.d), .int .u32 (u R.e), .int .u32 (u R.f), .int .u32 (u R.g), .int .u32 (u R.h)]) (.int .i64 (k : Int))).run Tryz.prog W = .ok (.int .u32 (u (R.list[k]'(by rw [hlist]; exact hlt)))) W := by
                    intro W
                    rcases (by omega : k = 0 ∨ k = 1 ∨ k = 2 ∨ k = 3 ∨ k = 4 ∨ k = 5 ∨ k = 6 ∨ k = 7) with rfl | rfl | rfl | rfl | rfl | rfl | rfl | rfl <;> rfl
                  have hat := Lib.hid (fun i hi => hexW_at R.list k i (by rw [hlist]; exact hlt) hi)
                  generalize R.list[k]'(by rw [hlist]; exact hlt) = x at *
                  rename World => wo
                  have hdk : decide ((k : Int) < 8) = true := by simp; omega
                  go_wp2
                  go_loopw [8, 11, 55] (fun v _ q wr => ∃ i : Nat, i ≤ 8 ∧ q = .int .i64 i ∧ wr.ownsRow w.heap.size 5 1 v (8 * k + i) (((hexT (bytesW R.list)).take (8 * k + i)).map bv8) ∧ Below w.heap.size w wr) (fun _ _ q _ => 8 - (intOf q).toNat)
                  case atStart => exact ⟨0, by omega, rfl, hown, hbel⟩
                  case round =>
                    clear hown hbel
                    obtain ⟨i, hi8, rfl, hown, hbel⟩ := hrel
                    by_cases hil : i < 8
                    · have hd := hat.out i hil
                      have hap : ((hexT (bytesW R.list)).take (8 * k + i)).map bv8 ++ [.int .u8 (y8 (dg (by8 ((x >>> (28 - 4 * i)) &&& 15#32))))] = ((hexT (bytesW R.list)).take (8 * k + (i + 1))).map bv8 := by
                        rw [← Nat.add_assoc, List.take_add_one, hd]; simp; rfl
                      have Ha := Lib.hid hap
                      have s0 : (0 : Int) ≤ 28 - 4 * (i : Int) := by omega
                      have s1 : (28 - 4 * (i : Int)).toNat = 28 - 4 * i := by omega
                      have s2 : (4 : Int) * (i : Int) ≤ 28 := by omega
                      have s3 : 28 - 4 * i < 32 := by omega
                      clear hap hd
                      go_wp2_with (at_builtin; refine wpList_append1 rfl (.tmp 58) (.tmp 66) _ rfl Tryz.underlying41 hi0 hz0 hz1 hz2 rfl (by omega) _ _ _ rfl hown [_] rfl (by intro y hy; rw [List.mem_singleton] at hy; subst hy; rfl) rfl (by omega) (by omega) hbel.size ?_; rintro v9 w9 ⟨hown9, hb9, hsz9, hfar9⟩)
                      rw [Ha.out] at hown9
                      go_roundw
                      case rel => exact ⟨i + 1, by omega, by go_num, hown9, hbel.trans hb9⟩
                      case measure => simp [intOf]; omega
                    · have hi : i = 8 := by omega
                      rw [hi, show 8 * k + 8 = 8 * (k + 1) from by omega] at hown
                      clear hi
                      go_wp2
                      go_roundw
                      case rel => exact ⟨k + 1, by omega, by go_num, hown, hbel⟩
                      case measure => simp [intOf]; omega
                · have hk : k = 8 := by omega
                  rw [hk, List.take_of_length_le (by rw [HD.out]; omega)] at hown
                  obtain ⟨A9, c9, rfl, hrd⟩ := own_rd hown
                  have k1 := run_bytes_str (P := Tryz.prog) Tryz.underlying41 Tryz.underlying5 Tryz.underlying9 hrd.as
                  rw [HD.out] at k1
                  clear hk hown hrd
                  go_wp2
                  go_ret
                  exact ⟨congrArg (fun s : St => Ending.returned (Value.string (str (hexT (bytesW s.list))))) HRR.out.symm, hbel⟩
theorem digest_ok2 (A : Option Addr) (n c : Nat) (l : List UInt8) (w : World) (hr : Rd w 1 A n c (l.map bv8)) (hz : n ≤ 140737488353000) :
    Calls Tryz.prog 22 #[.slice A n c] w fun e w' => e = .returned (.string (str (dig l))) ∧ Below w.heap.size w w' := digest_big A n c l w hr hz
end Go.Proofs.YtekbgopdeancpaaGreatDoor

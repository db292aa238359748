/- SHA-256 of bytes: what the statements' own Digest returns. -/
import Derived.Test.YtbadpiennobdmaaDoorCl
import Derived.Test.YtbadpiennobdmaaDoorSd
import Derived.Test.YtbadpiennobdmaaDoorShx
namespace Go.Proofs.YtbadpiennobdmaaDoor
open Go.RowKit
attribute [local irreducible] sch rnds kon nxt t1 t2 rotl rotr stpB blocks
theorem hashed_ex (s : St) (A B : Option Addr) (n c d : Nat) (l : List UInt8) (w : World) (hr : Rd w 1 A n c (l.map bv8)) (hn : 64 ≤ n) (hk : Rd w 1 B 64 d (kon.map wv)) :
    Calls Tryd.prog 44 #[.agg #[.int .u32 (u s.a), .int .u32 (u s.b), .int .u32 (u s.c), .int .u32 (u s.d), .int .u32 (u s.e), .int .u32 (u s.f), .int .u32 (u s.g), .int .u32 (u s.h)], .slice A n c, .slice B 64 d] w fun e w' => ∃ R : St, Hid (R = stpB s (l.take 64)) ∧ e = .returned (.agg #[.int .u32 (u R.a), .int .u32 (u R.b), .int .u32 (u R.c), .int .u32 (u R.d), .int .u32 (u R.e), .int .u32 (u R.f), .int .u32 (u R.g), .int .u32 (u R.h)]) ∧ Below w.heap.size w w' :=
  (hashed_any s A B n c d l w hr hn hk).mono fun _ _ ⟨h1, h2⟩ => ⟨_, rfl, h1, h2⟩
/-- the padded bytes, j zeros and i bytes of the length so far -/
def padJ (l : List UInt8) (j : Nat) : List UInt8 := l ++ [128] ++ List.replicate j 0
theorem padJ_length (l : List UInt8) (j : Nat) : (padJ l j).length = l.length + 1 + j := by simp [padJ]; omega
theorem padJ_succ (l : List UInt8) (j : Nat) : padJ l j ++ [0] = padJ l (j + 1) := by
  unfold padJ; rw [List.append_assoc, ← List.replicate_succ']
theorem pad_eq (l : List UInt8) : pad l = padJ l (zeros l.length) ++ (len8 l.length).take 8 := by
  rw [List.take_of_length_le (by rw [len8_length]; omega)]; rfl
theorem len8_at (n i : Nat) (h : i < 8) : (len8 n)[i]? = some (UInt8.ofNat ((n * 8) >>> (56 - 8 * i))) := by
  unfold len8; rw [List.getElem?_map, List.getElem?_range h]; rfl
theorem len_byte (n k : Nat) : (n : Int) * 8 / 2 ^ k % 256 = y8 (UInt8.ofNat ((n * 8) >>> k)) := by
  unfold y8
  rw [Nat.shiftRight_eq_div_pow]
  simp
/-- eight stores -/
def set8 (w : World) (g : Nat) (R : St) : World := (((((((w.setCell ⟨g, 0, none⟩ (.int .u32 (u R.a))).setCell ⟨g, 1, none⟩ (.int .u32 (u R.b))).setCell ⟨g, 2, none⟩ (.int .u32 (u R.c))).setCell ⟨g, 3, none⟩ (.int .u32 (u R.d))).setCell ⟨g, 4, none⟩ (.int .u32 (u R.e))).setCell ⟨g, 5, none⟩ (.int .u32 (u R.f))).setCell ⟨g, 6, none⟩ (.int .u32 (u R.g))).setCell ⟨g, 7, none⟩ (.int .u32 (u R.h))
theorem Blk.set8 {w : World} {g : Nat} {t : TypeId} {v : St} (h : Blk w g t (v.list.map wv)) (R : St) : Blk (set8 w g R) g t (R.list.map wv) := (((((((h.put 0 _).put 1 _).put 2 _).put 3 _).put 4 _).put 5 _).put 6 _).put 7 _
theorem Rd.far {w : World} {n c b off : Nat} {xs : List Value} (h : Rd w 1 (some ⟨b, off, none⟩) n c xs) (g i : Nat) (v0 : Value) (hg : b ≠ g) : Rd (w.setCell ⟨g, i, none⟩ v0) 1 (some ⟨b, off, none⟩) n c xs := by
  obtain ⟨h1, h2, h3, h4⟩ := h
  refine ⟨h1, h2, h3, fun hp => ?_⟩
  obtain ⟨b', off', e, hc⟩ := h4 hp
  injection e with e
  injection e with e1 e2
  subst e1; subst e2
  refine ⟨b, off, rfl, fun j v hv => ?_⟩
  have hh : (w.setCell ⟨g, i, none⟩ v0).heap[b]? = w.heap[b]? := Below.heap_setCell w ⟨g, i, none⟩ v0 b hg
  have := hc j v hv
  simp only [World.cell?] at this ⊢
  rw [hh]; exact this
theorem Rd.set8 {w : World} {n c b off g : Nat} {xs : List Value} (h : Rd w 1 (some ⟨b, off, none⟩) n c xs) (hg : b ≠ g) (R : St) : Rd (set8 w g R) 1 (some ⟨b, off, none⟩) n c xs :=
  (((((((h.far g 0 _ hg).far g 1 _ hg).far g 2 _ hg).far g 3 _ hg).far g 4 _ hg).far g 5 _ hg).far g 6 _ hg).far g 7 _ hg
theorem below_set8 {B : Nat} {a w : World} {g : Nat} (h : Below B a w) (hg : B ≤ g) (R : St) : Below B a (set8 w g R) :=
  (((((((h.setCell (p := ⟨g, 0, none⟩) hg _).setCell (p := ⟨g, 1, none⟩) hg _).setCell (p := ⟨g, 2, none⟩) hg _).setCell (p := ⟨g, 3, none⟩) hg _).setCell (p := ⟨g, 4, none⟩) hg _).setCell (p := ⟨g, 5, none⟩) hg _).setCell (p := ⟨g, 6, none⟩) hg _).setCell (p := ⟨g, 7, none⟩) hg _
set_option maxRecDepth 100000 in
set_option maxHeartbeats 4000000 in
theorem digest_any (A : Option Addr) (n c : Nat) (l : List UInt8) (w : World) (hr : Rd w 1 A n c (l.map bv8)) (hz : n ≤ 140737488351232) :
    Calls Tryd.prog 21 #[.slice A n c] w fun e w' => e = .returned (.string (str (hexT (bytesW (sumS l).list)))) ∧ Below w.heap.size w w' := by
  obtain rfl := hr.len
  obtain ⟨i0, hi0, hz0, hz1, hz2⟩ := info_parts u8_info
  go_enter Tryd.func21, Tryd.ntmps21
  go_wp2_with fail
  with_reducible refine (clone_any _ _ _ _ _ hr hz).mono ?_
  rintro e w1 ⟨v1, rfl, hown1, hb1⟩
  go_wp2_with (at_builtin; refine wpList_append1' rfl (.tmp 13) (.tmp 14) _ rfl Tryd.underlying27 hi0 hz0 hz1 hz2 rfl (by omega) _ _ _ rfl hown1 [.int .u8 128] rfl (by simp [Value.oneCell']) rfl (by omega) (by unfold maxLen; omega) hb1.size ?_; rintro v2 w2 ⟨hown2, hb2, hsz2, hfar2⟩)
  have hp0 : (l.map bv8) ++ [.int .u8 128] = (padJ l 0).map bv8 := by simp [padJ]; rfl
  rw [hp0] at hown2
  have hbel := hb1.trans hb2
  clear hp0 hb1 hb2 hsz2 hfar2 hown1
  go_loopw [3] (fun v wr => ∃ j : Nat, j ≤ zeros l.length ∧ wr.ownsRow w.heap.size 5 1 v (l.length + 1 + j) ((padJ l j).map bv8) ∧ Below w.heap.size w wr) (fun v _ => zeros l.length + l.length + 1 - (match v with | .slice _ n _ => n | _ => 0))
  case atStart => exact ⟨0, Nat.zero_le _, hown2, hbel⟩
  case round =>
    clear hown2 hbel
    obtain ⟨j, hj, hown, hbel⟩ := hrel
    have hzl := zeros_lt l.length
    obtain ⟨A2, c2, rfl, hrd⟩ := own_rd hown
    clear hrd
    by_cases hlt : j < zeros l.length
    · have hne : (((l.length : Int) + 1 + (j : Int)) % 64 != 56) = true := by rw [bne_iff_ne]; unfold zeros at hlt; omega
      have hap : (padJ l j).map bv8 ++ [.int .u8 0] = (padJ l (j + 1)).map bv8 := by rw [← padJ_succ, List.map_append]; rfl
      have Ha := Lib.hid hap
      clear hap
      go_wp2_with (at_builtin; refine wpList_append1' rfl (.tmp 20) (.tmp 21) _ rfl Tryd.underlying27 hi0 hz0 hz1 hz2 rfl (by omega) _ _ _ rfl hown [.int .u8 0] rfl (by simp [Value.oneCell']) rfl (by omega) (by unfold maxLen; omega) hbel.size ?_; rintro v3 w3 ⟨hown3, hb3, hsz3, hfar3⟩)
      obtain ⟨A3, c3, rfl, hrd3⟩ := own_rd hown3
      rw [Ha.out] at hown3
      go_roundw
      case rel => exact ⟨j + 1, by omega, hown3, hbel.trans hb3⟩
      case measure => simp; omega
    · have hne : (((l.length : Int) + 1 + (j : Int)) % 64 != 56) = false := by
        have : j = zeros l.length := by omega
        subst this
        rw [bne_eq_false_iff_eq]; unfold zeros; omega
      have HZ : Hid (j = zeros l.length) := by show _ = _; omega
      go_wp2
      go_loopw [3, 5, 27] (fun v _ q wr => ∃ i : Nat, i ≤ 8 ∧ q = .int .i64 i ∧ wr.ownsRow w.heap.size 5 1 v (l.length + 1 + j + i) ((padJ l j ++ (len8 l.length).take i).map bv8) ∧ Below w.heap.size w wr) (fun _ _ q _ => 8 - (intOf q).toNat)
      case atStart => exact ⟨0, by omega, rfl, by rw [List.take_zero, List.append_nil]; exact hown, hbel⟩
      case round =>
        clear hown hbel
        obtain ⟨i, hi, rfl, hown, hbel⟩ := hrel
        by_cases hi8 : i < 8
        · have s0 : (0 : Int) ≤ 56 - 8 * (i : Int) := by omega
          have s1 : (56 - 8 * (i : Int)).toNat = 56 - 8 * i := by omega
          have s2 : (8 : Int) * (i : Int) ≤ 56 := by omega
          have s3 : 56 - 8 * i < 64 := by omega
          have hap : (padJ l j ++ (len8 l.length).take i).map bv8 ++ [bv8 (UInt8.ofNat ((l.length * 8) >>> (56 - 8 * i)))] = (padJ l j ++ (len8 l.length).take (i + 1)).map bv8 := by
            rw [List.take_add_one, len8_at _ _ hi8]; simp
          have Ha := Lib.hid hap
          have HL := Lib.hid (len_byte l.length (56 - 8 * i))
          clear hap
          go_wp2_with (at_builtin; refine wpList_append1' rfl (.tmp 30) (.tmp 37) _ rfl Tryd.underlying27 hi0 hz0 hz1 hz2 rfl (by omega) _ _ _ rfl hown [_] rfl (by intro y hy; rw [List.mem_singleton] at hy; subst hy; rfl) rfl (by omega) (by unfold maxLen; omega) hbel.size ?_; rintro v4 w4 ⟨hown4, hb4, hsz4, hfar4⟩)
          rw [HL.out] at hown4
          have h9 := Ha.out
          go_roundw
          case rel => exact ⟨i + 1, by omega, by go_num, by rw [← h9]; exact hown4, hbel.trans hb4⟩
          case measure => simp [intOf]; omega
        · have hdi : decide ((i : Int) < 8) = false := by simp; omega
          have hi8' : i = 8 := by omega
          have hpl := pad_length l
          have hzs := zeros_spec l.length
          rw [hi8', HZ.out, ← pad_eq] at hown
          have hpn : (pad l).length = l.length + 1 + j + 8 := by rw [hpl, ← HZ.out]; omega
          rw [← HZ.out] at hown
          have hp64 : (pad l).length % 64 = 0 := by rw [hpl]; exact hzs
          obtain ⟨A5, c5, rfl, hrd⟩ := own_rd hown
          have hrd' : Rd wr 1 A5 (pad l).length c5 ((pad l).map bv8) := by rw [hpn]; exact hrd
          have hpb : (pad l).length ≤ 140737488351232 + 72 := by rw [hpl]; have := zeros_lt l.length; omega
          have Hpn := Lib.hid hpn
          clear hpl hzs hi8' hrd hown hpn
          generalize hP : pad l = pd at *
          have HP := Lib.hid hP
          have Hp64 := Lib.hid hp64
          clear hP hp64
          rename World => wb
          go_wp2_with (go_at_call 43; (with_reducible refine (constants_any _).mono ?_); rintro e w5 ⟨kg, rfl, hkg, hkb, hb5⟩)
          have hbw := (hbel.alloc hbel.size (.cells (iniS.list.map wv).toArray 43))
          have hv0 : Blk w5 wb.heap.size 43 (iniS.list.map wv) := (Blk.new wb 43 (iniS.list.map wv)).below hb5 (by simp)
          have hk0 := blk_rd hkb (n := 64) (by rw [List.length_map, kon_length]) (by omega)
          have hb0 : Below w.heap.size w w5 := hbw.trans (hb5.mono (by simp; have := hbel.size; omega))
          have hr0 : Rd w5 1 A5 pd.length c5 (pd.map bv8) := (hrd'.below ((Below.refl wb.heap.size wb).alloc (Nat.le_refl _) _)).below hb5
          have hszb : wb.heap.size < w5.heap.size := hv0.lt
          have hszw : w.heap.size ≤ wb.heap.size := hbel.size
          obtain ⟨b5, o5, rfl, hb5l, _⟩ := hrd'.addr (by rw [hrd'.1]; have := Hpn.out; omega)
          have hkw : wb.heap.size < kg := by simp at hkg; omega
          clear hbw hkb hb5 hrd' hbel hkg
          go_loopw [3] (fun v wr => ∃ (j n' c' b' o' : Nat), v = .slice (some ⟨b', o', none⟩) n' c' ∧ n' + 64 * j ≤ pd.length ∧ pd.length ≤ n' + 64 * j ∧ b' < wb.heap.size ∧ Rd wr 1 (some ⟨b', o', none⟩) n' c' ((pd.drop (64 * j)).map bv8) ∧ Blk wr wb.heap.size 43 ((blocks j pd iniS).list.map wv) ∧ Rd wr 1 (some ⟨kg, 0, none⟩) 64 64 (kon.map wv) ∧ Below w.heap.size w wr) (fun v _ => match v with | .slice _ n _ => n | _ => 0)
          case atStart => exact ⟨0, _, _, _, _, rfl, by have := Hpn.out; omega, by have := Hpn.out; omega, hb5l, by rw [Nat.mul_zero, List.drop_zero, ← Hpn.out]; exact hr0, by rw [blocks_zero]; exact hv0, hk0, hb0⟩
          case round =>
            clear hr0 hv0 hk0 hb0
            obtain ⟨m, n', c', bb, oo, rfl, hn1, hn2, hbw, hrd, hv, hk, hbel⟩ := hrel
            by_cases hlt : 0 < n'
            · have hge : 64 ≤ n' := by have := Hp64.out; omega
              have hsn := Lib.hid (blocks_snoc m pd iniS)
              generalize blocks m pd iniS = v at *
              have hc1 := hrd.2.1
              have hc2 := hrd.2.2.1
              unfold maxLen at hc2
              have hlt' : (0 : Int) < (n' : Int) := by omega
              have hge' : (64 : Int) ≤ (n' : Int) := by omega
              obtain ⟨⟨y0, y1, y2, y3, y4, y5, y6, y7⟩, yf⟩ := hv.eight
              clear yf
              go_wp2_with fail
              with_reducible refine (hashed_ex v _ _ _ _ _ _ _ hrd hge hk).mono ?_
              rintro e w6 ⟨R, HR, rfl, hb6⟩
              clear y0 y1 y2 y3 y4 y5 y6 y7
              have hv6 := hv.below hb6 hv.lt
              have hk6 := hk.below hb6
              have hr6 := hrd.below hb6
              have hbe6 := hbel.trans (hb6.mono hbel.size)
              clear hv hk hrd hbel hb6
              obtain ⟨⟨y0, y1, y2, y3, y4, y5, y6, y7⟩, yf⟩ := hv6.eight
              have f0 := yf 0
              have f1 := yf 1
              have f2 := yf 2
              have f3 := yf 3
              have f4 := yf 4
              have f5 := yf 5
              have f6 := yf 6
              have f7 := yf 7
              have hvR := hv6.set8 R
              have hkR := hk6.set8 (g := wb.heap.size) (by omega) R
              have hrR := hr6.set8 (g := wb.heap.size) (by omega) R
              have hbR := below_set8 hbe6 hszw R
              clear hk6 hr6 hbe6 yf
              by_cases hc64 : c' = 64
              · subst hc64
                go_wp2
                go_roundw
                case rel => exact ⟨m + 1, _, _, _, _, rfl, by omega, by omega, hbw, (by rw [List.drop_of_length_le (by omega)]; exact Rd.empty _ _ (by simp [maxLen])), (by rw [hsn.out, ← HR.out]; exact hvR), hkR, hbR⟩
                case measure => simp; omega
              · have hrD := hrR.drop64 hge
                rw [List.drop_drop, show 64 * m + 64 = 64 * (m + 1) from by omega] at hrD
                go_wp2
                go_roundw
                case rel => exact ⟨m + 1, _, _, _, _, rfl, by omega, by omega, hbw, hrD, (by rw [hsn.out, ← HR.out]; exact hvR), hkR, hbR⟩
                case measure => simp; omega
            · have hm : m = pd.length / 64 := by omega
              have hR : sumS l = blocks m pd iniS := by unfold sumS; rw [HP.out, ← hm]
              rw [← hR] at hv
              have hdn : decide ((0 : Int) < (n' : Int)) = false := by simp; omega
              clear hm hR
              generalize hRR : sumS l = R at *
              have HRR := Lib.hid hRR
              clear hRR
              obtain ⟨⟨y0, y1, y2, y3, y4, y5, y6, y7⟩, yf⟩ := hv.eight
              clear yf
              go_wp2
              have HD := Lib.hid (hexW_length R)
              have hlist : R.list.length = 8 := rfl
              clear y0 y1 y2 y3 y4 y5 y6 y7 hv hk hrd
              go_loopw [8, 10, 11, 52] (fun v _ _ q wr => ∃ k : Nat, k ≤ 8 ∧ q = .int .i64 k ∧ wr.ownsRow w.heap.size 5 1 v (8 * k) (((hexT (bytesW R.list)).take (8 * k)).map bv8) ∧ Below w.heap.size w wr) (fun _ _ _ q _ => 8 - (intOf q).toNat)
              case atStart => exact ⟨0, by omega, rfl, World.ownsRow_nil _ _ _ _, hbel⟩
              case round =>
                clear hbel
                obtain ⟨k, hk8, rfl, hown, hbel⟩ := hrel
                by_cases hlt : k < 8
                · have hidx : ∀ W : World, (Instr.index 43 (.agg #[.int .u32 (u R.a), .int .u32 (u R.b), .int .u32 (u R.c), .int .u32 (u R.d), .int .u32 (u R.e), .int .u32 (u R.f), .int .u32 (u R.g), .int .u32 (u R.h)]) (.int .i64 (k : Int))).run Tryd.prog W = .ok (.int .u32 (u (R.list[k]'(by rw [hlist]; exact hlt)))) W := by
                    intro W
                    rcases (by omega : k = 0 ∨ k = 1 ∨ k = 2 ∨ k = 3 ∨ k = 4 ∨ k = 5 ∨ k = 6 ∨ k = 7) with rfl | rfl | rfl | rfl | rfl | rfl | rfl | rfl <;> rfl
                  have hat := Lib.hid (fun i hi => hexW_at R.list k i (by rw [hlist]; exact hlt) hi)
                  generalize R.list[k]'(by rw [hlist]; exact hlt) = x at *
                  rename World => wo
                  have hdk : decide ((k : Int) < 8) = true := by simp; omega
                  go_wp2
                  go_loopw [8, 11, 55] (fun v _ q wr => ∃ i : Nat, i ≤ 8 ∧ q = .int .i64 i ∧ wr.ownsRow w.heap.size 5 1 v (8 * k + i) (((hexT (bytesW R.list)).take (8 * k + i)).map bv8) ∧ Below w.heap.size w wr) (fun _ _ q _ => 8 - (intOf q).toNat)
                  case atStart => exact ⟨0, by omega, rfl, hown, hbel⟩
                  case round =>
                    clear hown hbel
                    obtain ⟨i, hi8, rfl, hown, hbel⟩ := hrel
                    by_cases hil : i < 8
                    · have hd := hat.out i hil
                      have hap : ((hexT (bytesW R.list)).take (8 * k + i)).map bv8 ++ [.int .u8 (y8 (dg (by8 ((x >>> (28 - 4 * i)) &&& 15#32))))] = ((hexT (bytesW R.list)).take (8 * k + (i + 1))).map bv8 := by
                        rw [← Nat.add_assoc, List.take_add_one, hd]; simp; rfl
                      have Ha := Lib.hid hap
                      have s0 : (0 : Int) ≤ 28 - 4 * (i : Int) := by omega
                      have s1 : (28 - 4 * (i : Int)).toNat = 28 - 4 * i := by omega
                      have s2 : (4 : Int) * (i : Int) ≤ 28 := by omega
                      have s3 : 28 - 4 * i < 32 := by omega
                      clear hap hd
                      go_wp2_with (at_builtin; refine wpList_append1 rfl (.tmp 58) (.tmp 66) _ rfl Tryd.underlying27 hi0 hz0 hz1 hz2 rfl (by omega) _ _ _ rfl hown [_] rfl (by intro y hy; rw [List.mem_singleton] at hy; subst hy; rfl) rfl (by omega) (by omega) hbel.size ?_; rintro v9 w9 ⟨hown9, hb9, hsz9, hfar9⟩)
                      rw [Ha.out] at hown9
                      go_roundw
                      case rel => exact ⟨i + 1, by omega, by go_num, hown9, hbel.trans hb9⟩
                      case measure => simp [intOf]; omega
                    · have hi : i = 8 := by omega
                      rw [hi, show 8 * k + 8 = 8 * (k + 1) from by omega] at hown
                      clear hi
                      go_wp2
                      go_roundw
                      case rel => exact ⟨k + 1, by omega, by go_num, hown, hbel⟩
                      case measure => simp [intOf]; omega
                · have hk : k = 8 := by omega
                  rw [hk, List.take_of_length_le (by rw [HD.out]; omega)] at hown
                  obtain ⟨A9, c9, rfl, hrd⟩ := own_rd hown
                  have k1 := run_bytes_str (P := Tryd.prog) Tryd.underlying27 Tryd.underlying5 Tryd.underlying9 hrd.as
                  rw [HD.out] at k1
                  clear hk hown hrd
                  go_wp2
                  go_ret
                  exact ⟨congrArg (fun s : St => Ending.returned (Value.string (str (hexT (bytesW s.list))))) HRR.out.symm, hbel⟩
theorem digest_ok (A : Option Addr) (n c : Nat) (l : List UInt8) (w : World) (hr : Rd w 1 A n c (l.map bv8)) (hz : n ≤ 140737488351232) :
    Calls Tryd.prog 21 #[.slice A n c] w fun e w' => e = .returned (.string (str (dig l))) ∧ Below w.heap.size w w' := digest_any A n c l w hr hz
end Go.Proofs.YtbadpiennobdmaaDoor

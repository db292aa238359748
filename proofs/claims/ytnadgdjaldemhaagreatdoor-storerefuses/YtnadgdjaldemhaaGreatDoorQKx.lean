/- The statements on the store: a variable that holds a store; the store's calls in letters; kept. -/
import Derived.Test.YtnadgdjaldemhaaGreatDoorQSal
import Derived.Test.YtnadgdjaldemhaaGreatDoorQKy
import Derived.Test.YtnadgdjaldemhaaGreatDoorQZn
import Derived.Test.YtnadgdjaldemhaaGreatDoorGSB
import Derived.Test.YtnadgdjaldemhaaGreatDoorGSC
import Derived.Test.YtnadgdjaldemhaaGreatDoorGSC
import Derived.Test.YtnadgdjaldemhaaGreatDoorGEE
namespace Go.Proofs.YtnadgdjaldemhaaGreatDoor
open Go.RowKit
/-- a variable of the call's own holds a store -/
def SVar (w0 : World) (L : List Bl) (M : List En) (r t : Int) (v : Value) (wx : World) : Prop :=
  ∃ g A c B d, v = .pointer (some ⟨g, 0, none⟩) ∧ Blk wx g 28 [.slice A L.length c, .slice B M.length d, .int .i64 r, .int .i64 t] ∧ KNew kBl wx w0.heap.size A L.length c L ∧ KNew kEn wx w0.heap.size B M.length d M ∧ w0.heap.size ≤ g ∧ Below w0.heap.size w0 wx
theorem st_new {w0 w3 : World} {base c d : Nat} {A B : Option Addr} {L : List Bl} {M : List En} {r t : Int} (hB : Below w0.heap.size w0 w3) (hN : KNew kBl w3 base A L.length c L) (hM : KNew kEn w3 base B M.length d M) (hb : w0.heap.size ≤ base) :
    SVar w0 L M r t (.pointer (some ⟨w3.heap.size, 0, none⟩)) (w3.alloc (.cells #[.slice A L.length c, .slice B M.length d, .int .i64 r, .int .i64 t] 28)) :=
  ⟨_, _, _, _, _, rfl, Blk.new w3 28 [.slice A L.length c, .slice B M.length d, .int .i64 r, .int .i64 t], (hN.below ((Below.refl _ _).alloc (Nat.le_refl _) _)).rebase hb, (hM.below ((Below.refl _ _).alloc (Nat.le_refl _) _)).rebase hb, hB.size, hB.alloc hB.size _⟩
theorem st_put {w0 w3 : World} {base c d g : Nat} {A B : Option Addr} {L : List Bl} {M : List En} {r t : Int} {x0 x1 x2 x3 : Value} (z : Blk w3 g 28 [x0, x1, x2, x3]) (hg : w0.heap.size ≤ g) (hgb : g < base) (hB : Below w0.heap.size w0 w3) (hN : KNew kBl w3 base A L.length c L) (hM : KNew kEn w3 base B M.length d M) (hb : w0.heap.size ≤ base) :
    SVar w0 L M r t (.pointer (some ⟨g, 0, none⟩)) ((((w3.setCell ⟨g, 0, none⟩ (.slice A L.length c)).setCell ⟨g, 1, none⟩ (.slice B M.length d)).setCell ⟨g, 2, none⟩ (.int .i64 r)).setCell ⟨g, 3, none⟩ (.int .i64 t)) :=
  ⟨_, _, _, _, _, rfl, z.put4s _ _ _ _, (hN.set4s hgb _ _ _ _).rebase hb, (hM.set4s hgb _ _ _ _).rebase hb, hg, below4s hB hg _ _ _ _⟩
/-- what two variables hold -/
theorem s8 {W : World} {g q : Nat} {t t' : TypeId} {a b c d a' b' c' d' : Value} (h : Blk W g t [a, b, c, d]) (k : Blk W q t' [a', b', c', d']) :
    W.cell? ⟨g, 0, none⟩ = some a ∧ W.cell? ⟨g, 1, none⟩ = some b ∧ W.cell? ⟨g, 2, none⟩ = some c ∧ W.cell? ⟨g, 3, none⟩ = some d ∧ W.cell? ⟨q, 0, none⟩ = some a' ∧ W.cell? ⟨q, 1, none⟩ = some b' ∧ W.cell? ⟨q, 2, none⟩ = some c' ∧ W.cell? ⟨q, 3, none⟩ = some d' :=
  ⟨h.cell 0, h.cell 1, h.cell 2, h.cell 3, k.cell 0, k.cell 1, k.cell 2, k.cell 3⟩
theorem sta_of {w : World} {A B : Option Addr} {n c m k : Nat} {L : List Bl} {M : List En} {r t : Int} (hK : Kon w) (hr : KRd kBl w A n c L) (he : KRd kEn w B m k M) (hA : A = none → c = 0) (hB : B = none → k = 0) (h : (⟨L, M, r, t⟩ : Sto).ok) : StA w A B n c m k ⟨L, M, r, t⟩ := by
  have hb := bsErr_zero.1 h.be
  have hx := xsErr_zero.1 h.xe
  have h1 := hr.len
  have h2 := he.len
  have h3 : L.length ≤ 24 := hb.1
  have h4 : M.length ≤ 10 := hx.1
  exact ⟨hK, hr, he, hA, hB, fun p hp => fine_good_bl (hb.2.1 p hp), fun p hp => fine_good_en (hx.2.1 p hp), by omega, by omega⟩
/-- what the store's calls hand back, in letters -/
def PBl (E : Int) (L : List Bl) (M : List En) (r t : Int) (dg : List UInt8) (w : World) (e : Ending) (w' : World) : Prop :=
  ∃ A c B d, e = .returned (.tuple #[.agg #[.slice A L.length c, .slice B M.length d, .int .i64 r, .int .i64 t], .string (str dg), .int .i64 E]) ∧ KNew kBl w' w.heap.size A L.length c L ∧ KNew kEn w' w.heap.size B M.length d M ∧ Below w.heap.size w w'
def S2l (E : Int) (L : List Bl) (M : List En) (r t : Int) (w : World) (e : Ending) (w' : World) : Prop :=
  ∃ A c B d, e = .returned (.tuple #[.agg #[.slice A L.length c, .slice B M.length d, .int .i64 r, .int .i64 t], .int .i64 E]) ∧ KNew kBl w' w.heap.size A L.length c L ∧ KNew kEn w' w.heap.size B M.length d M ∧ Below w.heap.size w w'
def SGl (E : Int) (L : List Bl) (M : List En) (r t : Int) (ps : List Prt) (w : World) (e : Ending) (w' : World) : Prop :=
  ∃ A c B d P n f, e = .returned (.tuple #[.agg #[.slice A L.length c, .slice B M.length d, .int .i64 r, .int .i64 t], .slice P n f, .int .i64 E]) ∧ KNew kBl w' w.heap.size A L.length c L ∧ KNew kEn w' w.heap.size B M.length d M ∧ Rd w' 3 P n f (pcs ps) ∧ (P = none → f = 0) ∧ Below w.heap.size w w'
theorem pb_at {W : World} {A B D : Option Addr} {n c m k q d : Nat} {L L2 : List Bl} {M M2 : List En} {r t r2 t2 E : Int} {b dg : List UInt8} (h : StA W A B n c m k ⟨L, M, r, t⟩) (hb : Rd W 1 D q d (b.map bv8)) (hD : D = none → d = 0) (hX : sPutBlob ⟨L, M, r, t⟩ b = (E, ⟨L2, M2, r2, t2⟩, dg)) :
    Calls Tryz.prog 14 #[.agg #[.slice A n c, .slice B m k, .int .i64 r, .int .i64 t], .slice D q d] W (PBl E L2 M2 r2 t2 dg W) := by
  have := lPutBlob_any h hb hD
  rw [hX] at this
  exact this
theorem gb_at {W : World} {A B : Option Addr} {n c m k : Nat} {L : List Bl} {M : List En} {r t E : Int} {dg D : List UInt8} (h : StA W A B n c m k ⟨L, M, r, t⟩) (hd : dg.length ≤ maxLen) (hX : sGetBlob ⟨L, M, r, t⟩ dg = (E, D)) :
    Calls Tryz.prog 23 #[.agg #[.slice A n c, .slice B m k, .int .i64 r, .int .i64 t], .string (str dg)] W fun e w' => ∃ A n c, e = .returned (.tuple #[.slice A n c, .int .i64 E]) ∧ Rd w' 1 A n c (D.map bv8) ∧ (A = none → c = 0) ∧ Below W.heap.size W w' := by
  have := lGetBlob_any h hd
  rw [hX] at this
  exact this
theorem check_at {W : World} {A B : Option Addr} {n c m k : Nat} {L : List Bl} {M : List En} {r t E : Int} (h : StA W A B n c m k ⟨L, M, r, t⟩) (hX : sErr ⟨L, M, r, t⟩ = E) :
    Calls Tryz.prog 12 #[.agg #[.slice A n c, .slice B m k, .int .i64 r, .int .i64 t]] W fun e w' => e = .returned (.int .i64 E) ∧ Below W.heap.size W w' := by
  have := lCheck_any h
  rw [hX] at this
  exact this
theorem abc_str : (⟨#[97, 98, 99]⟩ : ByteArray) = str [97, 98, 99] := rfl
set_option maxRecDepth 100000 in
set_option maxHeartbeats 2000000 in
/-- a closed fact of the statements -/
theorem kept_any (w : World) (hK : Kon w) : Calls Tryz.prog 11 #[] w fun e w' => e = .returned (.bool true) ∧ Below w.heap.size w w' := by
  have HSM := Lib.hid (small_any w)
  have HD : Hid (∀ (A : Option Addr) (n c : Nat) (W : World), Rd W 1 A n c (([97, 98, 99] : List UInt8).map bv8) → Calls Tryz.prog 21 #[.slice A n c] W fun e w' => e = .returned (.string (str (dig [97, 98, 99]))) ∧ Below W.heap.size W w') := fun A n c W h => digest_ok A n c _ W h (by have := h.len; simp at this; omega)
  have HG : Hid (∀ (W : World) (A : Option Addr) (c : Nat) (B : Option Addr) (d : Nat), Kon W → KRd kBl W A 2 c [smA, smM] → KRd kEn W B 1 d [smE] → (A = none → c = 0) → (B = none → d = 0) → Calls Tryz.prog 23 #[.agg #[.slice A 2 c, .slice B 1 d, .int .i64 200, .int .i64 1], .string (str (dig [97, 98, 99]))] W fun e w' => ∃ A n c, e = .returned (.tuple #[.slice A n c, .int .i64 0]) ∧ Rd w' 1 A n c (([97, 98, 99] : List UInt8).map bv8) ∧ (A = none → c = 0) ∧ Below W.heap.size W w') := fun W A c B d h1 h2 h3 h4 h5 => gb_at (sta_of h1 h2 h3 h4 h5 smS_ok) (by rw [sm_abc]; unfold maxLen; simp) smS_get
  have HC : Hid (∀ (W : World), Kon W → Calls Tryz.prog 12 #[.agg #[.slice none 0 0, .slice none 0 0, .int .i64 (-1), .int .i64 0]] W fun e w' => e = .returned (.int .i64 4) ∧ Below W.heap.size W w') := fun W h => check_at ⟨h, KRd.nil _, KRd.nil _, fun _ => rfl, fun _ => rfl, fun _ hp => (by cases hp), fun _ hp => (by cases hp), by omega, by omega⟩ less_room
  generalize dig [97, 98, 99] = dd at *
  go_enter Tryz.func11, Tryz.ntmps11
  go_wp2_with fail
  with_reducible refine HSM.out.mono ?_
  rintro e w1 ⟨A1, c1, B1, d1, rfl, hN1, hM1, hb1⟩
  have row : Rd (w1.alloc (.cells #[.int .u8 97, .int .u8 98, .int .u8 99] 5 (3, 4))) 1 (some ⟨w1.heap.size, 0, none⟩) 3 3 (([97, 98, 99] : List UInt8).map bv8) := new_rd w1 5 [97, 98, 99] (3, 4) (by unfold maxLen; simp)
  have hal := (Below.refl w1.heap.size w1).alloc (Nat.le_refl _) (.cells #[.int .u8 97, .int .u8 98, .int .u8 99] 5 (3, 4))
  have kc := head_run w1 #[.int .u8 97, .int .u8 98, .int .u8 99] 3 3
  go_wp2_with fail
  with_reducible refine (HD.out _ _ _ _ row).mono ?_
  rintro e w2 ⟨rfl, hb2⟩
  have hbB := below_step (below_step hb1 hal) hb2
  have hN2 := (hN1.rd.below hal).below hb2
  have hM2 := (hM1.rd.below hal).below hb2
  have HGG := Lib.hid (HG.out w2 A1 c1 B1 d1 (hK.below hbB) hN2 hM2 hN1.nilCap hM1.nilCap)
  go_wp2_with fail
  with_reducible refine HGG.out.mono ?_
  rintro e w3 ⟨A3, n3, c3, rfl, hr3, hA3, hb3⟩
  have hbC := below_step hbB hb3
  have HCC := Lib.hid (HC.out w3 (hK.below hbC))
  obtain rfl : n3 = 3 := hr3.len
  have hbs : (convert 36 9 (.slice A3 3 c3)).run Tryz.prog w3 = .ok (.string (str [97, 98, 99])) w3 := run_bytes_str (P := Tryz.prog) (l := [97, 98, 99]) Tryz.underlying36 Tryz.underlying5 Tryz.underlying9 hr3
  have hq : (str [97, 98, 99] == (⟨#[97, 98, 99]⟩ : ByteArray)) = true := by decide
  go_wp2_with fail
  with_reducible refine HCC.out.mono ?_
  rintro e w4 ⟨rfl, hb4⟩
  go_wp2
  go_ret
  exact ⟨by simp, below_step hbC hb4⟩
end Go.Proofs.YtnadgdjaldemhaaGreatDoor

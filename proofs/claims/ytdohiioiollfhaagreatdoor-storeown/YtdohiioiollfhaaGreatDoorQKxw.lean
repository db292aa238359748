/- The statements on the store: a variable that holds a store; the store's calls in letters. -/
import Derived.Test.YtdohiioiollfhaaGreatDoorQWb
import Derived.Test.YtdohiioiollfhaaGreatDoorQSal
import Derived.Test.YtdohiioiollfhaaGreatDoorQKy
import Derived.Test.YtdohiioiollfhaaGreatDoorGSB
import Derived.Test.YtdohiioiollfhaaGreatDoorGSC
import Derived.Test.YtdohiioiollfhaaGreatDoorGEE
namespace Go.Proofs.YtdohiioiollfhaaGreatDoor
open Go.RowKit
/-- a variable of the call's own holds a store -/
def SVar (w0 : World) (L : List Bl) (M : List En) (r t : Int) (v : Value) (wx : World) : Prop :=
  ∃ g A c B d, v = .pointer (some ⟨g, 0, none⟩) ∧ Blk wx g 28 [.slice A L.length c, .slice B M.length d, .int .i64 r, .int .i64 t] ∧ Nw kBlW wx w0.heap.size A L.length c L ∧ Nw kEnW wx w0.heap.size B M.length d M ∧ w0.heap.size ≤ g ∧ Below w0.heap.size w0 wx
theorem st_new {w0 w3 : World} {base c d : Nat} {A B : Option Addr} {L : List Bl} {M : List En} {r t : Int} (hB : Below w0.heap.size w0 w3) (hN : Nw kBlW w3 base A L.length c L) (hM : Nw kEnW w3 base B M.length d M) (hb : w0.heap.size ≤ base) :
    SVar w0 L M r t (.pointer (some ⟨w3.heap.size, 0, none⟩)) (w3.alloc (.cells #[.slice A L.length c, .slice B M.length d, .int .i64 r, .int .i64 t] 28)) :=
  ⟨_, _, _, _, _, rfl, Blk.new w3 28 [.slice A L.length c, .slice B M.length d, .int .i64 r, .int .i64 t], (hN.below ((Below.refl _ _).alloc (Nat.le_refl _) _)).rebase hb, (hM.below ((Below.refl _ _).alloc (Nat.le_refl _) _)).rebase hb, hB.size, hB.alloc hB.size _⟩
theorem st_put {w0 w3 : World} {base c d g : Nat} {A B : Option Addr} {L : List Bl} {M : List En} {r t : Int} {x0 x1 x2 x3 : Value} (z : Blk w3 g 28 [x0, x1, x2, x3]) (hg : w0.heap.size ≤ g) (hgb : g < base) (hB : Below w0.heap.size w0 w3) (hN : Nw kBlW w3 base A L.length c L) (hM : Nw kEnW w3 base B M.length d M) (hb : w0.heap.size ≤ base) :
    SVar w0 L M r t (.pointer (some ⟨g, 0, none⟩)) ((((w3.setCell ⟨g, 0, none⟩ (.slice A L.length c)).setCell ⟨g, 1, none⟩ (.slice B M.length d)).setCell ⟨g, 2, none⟩ (.int .i64 r)).setCell ⟨g, 3, none⟩ (.int .i64 t)) :=
  ⟨_, _, _, _, _, rfl, z.put4s _ _ _ _, (hN.set4s hgb _ _ _ _).rebase hb, (hM.set4s hgb _ _ _ _).rebase hb, hg, below4s hB hg _ _ _ _⟩
/-- what two variables hold -/
theorem s8 {W : World} {g q : Nat} {t t' : TypeId} {a b c d a' b' c' d' : Value} (h : Blk W g t [a, b, c, d]) (k : Blk W q t' [a', b', c', d']) :
    W.cell? ⟨g, 0, none⟩ = some a ∧ W.cell? ⟨g, 1, none⟩ = some b ∧ W.cell? ⟨g, 2, none⟩ = some c ∧ W.cell? ⟨g, 3, none⟩ = some d ∧ W.cell? ⟨q, 0, none⟩ = some a' ∧ W.cell? ⟨q, 1, none⟩ = some b' ∧ W.cell? ⟨q, 2, none⟩ = some c' ∧ W.cell? ⟨q, 3, none⟩ = some d' :=
  ⟨h.cell 0, h.cell 1, h.cell 2, h.cell 3, k.cell 0, k.cell 1, k.cell 2, k.cell 3⟩
theorem sta_of {w : World} {A B : Option Addr} {n c m k : Nat} {L : List Bl} {M : List En} {r t : Int} (hK : Kon w) (hr : KRd kBl w A n c L) (he : KRd kEn w B m k M) (hA : A = none → c = 0) (hB : B = none → k = 0) (h : (⟨L, M, r, t⟩ : Sto).ok) : StA w A B n c m k ⟨L, M, r, t⟩ := by
  have hb := bsErr_zero.1 h.be
  have hx := xsErr_zero.1 h.xe
  have h1 := hr.len
  have h2 := he.len
  have h3 : L.length ≤ 24 := hb.1
  have h4 : M.length ≤ 10 := hx.1
  exact ⟨hK, hr, he, hA, hB, fun p hp => fine_good_bl (hb.2.1 p hp), fun p hp => fine_good_en (hx.2.1 p hp), by omega, by omega⟩
/-- what the store's calls hand back, in letters -/
def PBl (E : Int) (L : List Bl) (M : List En) (r t : Int) (dg : List UInt8) (w : World) (e : Ending) (w' : World) : Prop :=
  ∃ A c B d, e = .returned (.tuple #[.agg #[.slice A L.length c, .slice B M.length d, .int .i64 r, .int .i64 t], .string (str dg), .int .i64 E]) ∧ Nw kBlW w' w.heap.size A L.length c L ∧ Nw kEnW w' w.heap.size B M.length d M ∧ Below w.heap.size w w'
def S2l (E : Int) (L : List Bl) (M : List En) (r t : Int) (w : World) (e : Ending) (w' : World) : Prop :=
  ∃ A c B d, e = .returned (.tuple #[.agg #[.slice A L.length c, .slice B M.length d, .int .i64 r, .int .i64 t], .int .i64 E]) ∧ Nw kBlW w' w.heap.size A L.length c L ∧ Nw kEnW w' w.heap.size B M.length d M ∧ Below w.heap.size w w'
def SGl (E : Int) (L : List Bl) (M : List En) (r t : Int) (ps : List Prt) (w : World) (e : Ending) (w' : World) : Prop :=
  ∃ A c B d P n f, e = .returned (.tuple #[.agg #[.slice A L.length c, .slice B M.length d, .int .i64 r, .int .i64 t], .slice P n f, .int .i64 E]) ∧ Nw kBlW w' w.heap.size A L.length c L ∧ Nw kEnW w' w.heap.size B M.length d M ∧ Rd w' 3 P n f (pcs ps) ∧ (P = none → f = 0) ∧ Below w.heap.size w w'
theorem pb_at {W : World} {A B D : Option Addr} {n c m k q d : Nat} {L L2 : List Bl} {M M2 : List En} {r t r2 t2 E : Int} {b dg : List UInt8} (h : StA W A B n c m k ⟨L, M, r, t⟩) (hb : Rd W 1 D q d (b.map bv8)) (hD : D = none → d = 0) (hX : sPutBlob ⟨L, M, r, t⟩ b = (E, ⟨L2, M2, r2, t2⟩, dg)) :
    Calls Tryz.prog 6 #[.agg #[.slice A n c, .slice B m k, .int .i64 r, .int .i64 t], .slice D q d] W (PBl E L2 M2 r2 t2 dg W) := by
  have := lPutBlob_any h hb hD
  rw [hX] at this
  exact this
end Go.Proofs.YtdohiioiollfhaaGreatDoor

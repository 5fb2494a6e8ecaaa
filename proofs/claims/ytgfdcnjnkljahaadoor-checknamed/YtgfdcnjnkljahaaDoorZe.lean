/-
  What a directory's entries tell, told plainly: names, buckets.
-/
import Derived.Test.YtgfdcnjnkljahaaDoorZb
import Derived.Test.YtgfdcnjnkljahaaDoorNb0
namespace Go.Proofs.YtgfdcnjnkljahaaDoor
open Go.RowKit Go.Lib Go.Maps
set_option linter.unusedVariables false

/-- The name ahead of a place. -/
def prevE (E : List En) (n : Nat) : Option ByteArray := if n = 0 then none else E[n - 1]?.map (·.1)

/-- Is a name not above another? -/
def leS (s z : ByteArray) : Bool := Op.bytesLess s.toList z.toList || s.toList == z.toList

/-- An entry of what is not there, or of the root. -/
def badE (g : Int → Option Int) (e : En) : Bool := !(g e.2).isSome || e.2 == 1

/-- A name that may not be, or does not stand in its row. -/
def badS (s : ByteArray) (pv : Option ByteArray) : Bool := !(chk s == 0) || (match pv with | some z => leS s z | none => false)

/-- What one entry tells. -/
def oneE (g : Int → Option Int) (num : Int) (e : En) (pv : Option ByteArray) (T : List Fi) : List Fi :=
  if badS e.1 pv then pushF (if badE g e then pushF T ⟨2, num, e.1⟩ else T) ⟨5, num, e.1⟩ else if badE g e then pushF T ⟨2, num, e.1⟩ else T

def namesL (g : Int → Option Int) (num : Int) : List En → Option ByteArray → List Fi → List Fi
  | [], _, T => T
  | e :: E, pv, T => namesL g num E (some e.1) (oneE g num e pv T)

/-- A name's bucket. -/
def bkS (s : ByteArray) : Nat := (hashL (rs s 0) 7 % 8).toNat

theorem bkS_int (s : ByteArray) : ((bkS s : Nat) : Int) = hashL (rs s 0) 7 % 8 := by unfold bkS; omega

theorem bkS_lt (s : ByteArray) : bkS s < 8 := by unfold bkS; omega

/-- A name more in a bucket. -/
def upS (B : List Int) (k : Nat) : List Int := B.set k (B.getD k 0 + 1)

def slotsL : List En → List Int → List Int
  | [], B => B
  | e :: E, B => slotsL E (upS B (bkS e.1))

/-- The greatest of some numbers. -/
def maxL : List Int → Int → Int
  | [], m => m
  | x :: L, m => maxL L (max m x)

/-- The greatest of a row of eight. -/
def max8 (B : List Int) : Int := maxL (B.drop 1) (B.getD 0 0)

def namesR (g : Int → Option Int) (x : Ino) (T : List Fi) : List Fi :=
  if 4 < max8 (slotsL (entsOfI x) (List.replicate 8 0)) then pushF (namesL g x.num (entsOfI x) none T) ⟨7, x.num, ⟨#[]⟩⟩ else namesL g x.num (entsOfI x) none T

/-- What an inode of its kind may not have. -/
def badC (x : Ino) : Bool := x.dir && !x.data.toList.isEmpty || !x.dir && decide (0 < x.ents.length) || decide (256 < x.data.size)

def inodesL (g : Int → Option Int) : List Ino → List Fi → List Fi
  | [], T => T
  | x :: L, T => inodesL g L (namesR g x (if badC x then pushF T ⟨6, x.num, ⟨#[]⟩⟩ else T))

def inodesR (S : Sta) (T : List Fi) : List Fi := inodesL (placeG S) S.ino T

/-- An inode of no entry, or of several, that is a directory. -/
def badL (g : Int → Option Int) (x : Ino) : Bool := x.dir && !(x.num == 1) && !((g x.num).getD 0 == 1)

/-- An inode that nothing leads to. -/
def badP (g : Int → Option Int) (f : Bool) (x : Ino) : Bool := !f && !(!x.dir && decide (0 < (g x.num).getD 0))

def holdsL (S : Sta) : List Ino → Nat → List Fi → List Fi
  | [], _, T => T
  | x :: L, i, T => holdsL S L (i + 1) (if badP (opensG S) ((foundL S).getD i true) x then pushF (if badL (entriesG S) x then pushF T ⟨3, x.num, ⟨#[]⟩⟩ else T) ⟨4, x.num, ⟨#[]⟩⟩ else if badL (entriesG S) x then pushF T ⟨3, x.num, ⟨#[]⟩⟩ else T)

def holdsR (S : Sta) (T : List Fi) : List Fi := holdsL S S.ino 0 T

/-- Was a core given a number? -/
def givenR (S : Sta) (num : Int) : Bool := decide (2 ≤ num) && (decide (((num - 2) % 8).toNat < S.made.length) && decide ((num - 2) / 8 < min (S.made.getD ((num - 2) % 8).toNat 0) 32))

def madeL : List Int → Nat → List Fi → List Fi
  | [], _, T => T
  | m :: M, i, T => madeL M (i + 1) (if decide (m < 0) || decide (32 < m) then pushF T ⟨8, (i : Int), ⟨#[]⟩⟩ else T)

def givenL (S : Sta) : List Ino → List Fi → List Fi
  | [], T => T
  | x :: L, T => givenL S L (if !(x.num == 1) && !givenR S x.num then pushF T ⟨8, x.num, ⟨#[]⟩⟩ else T)

def madeR (S : Sta) (T : List Fi) : List Fi := givenL S S.ino (madeL S.made 0 (if decide (S.made.length < 1) || decide (8 < S.made.length) then pushF T ⟨8, -1, ⟨#[]⟩⟩ else T))

/-- Is a number a file's? -/
def fileG (S : Sta) (num : Int) : Bool := match placeG S num with
  | none => false
  | some i => !(inoAt S.ino i.toNat).dir

/-- Does a descriptor stand ahead of another? -/
def aheadD (a b : Ds) : Bool := decide (a.1 < b.1) || a.1 == b.1 && decide (a.2.1 < b.2.1)

/-- The descriptor ahead of a place. -/
def prevD (D : List Ds) (n : Nat) : Option Ds := if n = 0 then none else D[n - 1]?

def mayD (S : Sta) (d : Ds) : Bool := decide (0 ≤ d.1) && decide (d.1 < (S.made.length : Int)) && decide (0 ≤ d.2.1) && decide (d.2.1 < 4)

def badD (S : Sta) (d : Ds) (pv : Option Ds) : Bool := !fileG S d.2.2 || !mayD S d || (match pv with | some z => !aheadD z d | none => false)

def openL (S : Sta) : List Ds → Option Ds → List Fi → List Fi
  | [], _, T => T
  | d :: D, pv, T => openL S D (some d) (if badD S d pv then pushF T ⟨9, d.2.2, ⟨#[]⟩⟩ else T)

def openR (S : Sta) (T : List Fi) : List Fi := openL S S.opn none T

/-- What is wrong with a state: the heap of it, and its row. -/
def heapR (S : Sta) : List Fi := openR S (madeR S (holdsR S (inodesR S (numsR S []))))

def findR (S : Sta) : List Fi := rowF ((heapR S).length + 1) (heapR S) []

end Go.Proofs.YtgfdcnjnkljahaaDoor

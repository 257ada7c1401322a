import Derived.Test.YtlhnlcbcikbokaaDoorRiP
import Derived.Test.YtlhnlcbcikbokaaDoorRiR
import Derived.Test.YtlhnlcbcikbokaaDoorProg
import Derived.KernelRfl
set_option linter.unusedVariables false
set_option maxRecDepth 100000
namespace Go.Proofs.YtlhnlcbcikbokaaDoor
open Go.Lift
def tab:List (TypeId×Ty):=[(2,(.int .i64)),(3,(.int .i64)),(4,.bool),(5,(.int .u8)),(9,.str),(22,(.slice (.pair (.int .u8) (.pair (.int .i64) (.pair (.int .i64) (.pair (.slice (.pair .str (.pair (.int .i64) .unit))) .unit)))))),(23,(.slice .str)),(24,(.slice (.pair .str (.pair (.int .i64) (.pair (.int .i64) (.pair (.slice (.pair .str (.pair (.int .i64) .unit))) (.pair (.slice (.pair (.int .u8) (.pair (.int .i64) (.pair (.int .i64) (.pair (.int .i64) .unit))))) (.pair (.slice (.pair (.int .i64) (.pair (.int .u64) .unit))) (.pair (.slice (.pair (.int .i64) (.pair (.int .u64) .unit))) .unit))))))))),(26,(.pair (.slice (.pair (.int .u8) (.pair (.int .i64) (.pair (.int .i64) (.pair (.slice (.pair .str (.pair (.int .i64) .unit))) .unit))))) (.pair (.slice .str) (.pair (.slice (.pair .str (.pair (.int .i64) (.pair (.int .i64) (.pair (.slice (.pair .str (.pair (.int .i64) .unit))) (.pair (.slice (.pair (.int .u8) (.pair (.int .i64) (.pair (.int .i64) (.pair (.int .i64) .unit))))) (.pair (.slice (.pair (.int .i64) (.pair (.int .u64) .unit))) (.pair (.slice (.pair (.int .i64) (.pair (.int .u64) .unit))) .unit)))))))) .unit)))),(27,(.int .u64)),(31,(.int .i64)),(37,(.slice (.int .u8))),(40,(.slice (.pair .str (.pair (.int .i64) .unit)))),(41,(.slice (.pair (.int .u8) (.pair (.int .i64) (.pair (.int .i64) (.pair (.int .i64) .unit)))))),(42,(.slice (.pair (.int .i64) (.pair (.int .u64) .unit)))),(44,(.pair .str (.pair (.int .i64) (.pair (.int .i64) (.pair (.slice (.pair .str (.pair (.int .i64) .unit))) (.pair (.slice (.pair (.int .u8) (.pair (.int .i64) (.pair (.int .i64) (.pair (.int .i64) .unit))))) (.pair (.slice (.pair (.int .i64) (.pair (.int .u64) .unit))) (.pair (.slice (.pair (.int .i64) (.pair (.int .u64) .unit))) .unit)))))))),(49,(.pair .str (.pair (.int .i64) .unit))),(56,(.pair (.int .u8) (.pair (.int .i64) (.pair (.int .i64) (.pair (.slice (.pair .str (.pair (.int .i64) .unit))) .unit))))),(63,(.pair (.int .u8) (.pair (.int .i64) (.pair (.int .i64) (.pair (.int .i64) .unit))))),(67,(.slice (.int .i64))),(73,(.pair (.int .i64) (.pair (.int .u64) .unit))),(75,(.arr 3 (.int .i64))),(89,.fn),(91,.fn),(93,.fn),(100,.fn),(103,.fn),(107,.fn),(109,(.slice (.pair (.int .i64) (.pair (.int .i64) .unit)))),(113,(.pair (.int .i64) (.pair (.int .i64) .unit))),(116,(.mp .str .bool)),(118,(.int .u64)),(124,.fn),(128,(.arr 10 (.int .u8))),(129,(.slice (.slice (.int .u8)))),(131,(.int .u8)),(133,.fn),(138,(.arr 3 (.int .u8))),(140,(.pair .str (.pair (.arr 3 (.int .u8)) .unit))),(141,(.arr 35 (.pair .str (.pair (.arr 3 (.int .u8)) .unit))))]
theorem mixed:Tryd.prog.follows .mixedOrders=true:=by kernel_rfl
theorem tabOk:TabOk Tryd.prog tab:=tabOk_of (by kernel_rfl) (by kernel_rfl) (by kernel_rfl)
abbrev Y0:Type:=(List Int)×(Int×(Int×((List ((List Int)×(Int×Unit)))×((List (Int×(Int×(Int×(Int×Unit)))))×((List (Int×(Int×Unit)))×((List (Int×(Int×Unit)))×Unit))))))
abbrev Y1:Type:=List (Int×(Int×(Int×((List ((List Int)×(Int×Unit)))×Unit))))
abbrev Y2:Type:=List Int
abbrev Y3:Type:=Y1×((List Y2)×((List Y0)×Unit))
abbrev Y4:Type:=Int×(Int×Unit)
abbrev Y5:Type:=List (Y2×(Int×Unit))
abbrev Y6:Type:=Int×(Int×(Int×(Y5×Unit)))
abbrev Y7:Type:=Int×(Int×Y4)
abbrev Y8:Type:=List Y2
abbrev Y9:Type:=List Y4
abbrev Y10:Type:=List Y0
abbrev Z0:Ty:=.pair .str (.pair (.int .i64) (.pair (.int .i64) (.pair (.slice (.pair .str (.pair (.int .i64) .unit))) (.pair (.slice (.pair (.int .u8) (.pair (.int .i64) (.pair (.int .i64) (.pair (.int .i64) .unit))))) (.pair (.slice (.pair (.int .i64) (.pair (.int .u64) .unit))) (.pair (.slice (.pair (.int .i64) (.pair (.int .u64) .unit))) .unit))))))
abbrev Z1:Ty:=.pair (.int .u8) (.pair (.int .i64) (.pair (.int .i64) (.pair (.slice (.pair .str (.pair (.int .i64) .unit))) .unit)))
abbrev Z2:Ty:=.int .i64
abbrev Z3:Ty:=.pair (.slice Z1) (.pair (.slice .str) (.pair (.slice Z0) .unit))
abbrev Z4:Ty:=.int .u8
abbrev Z5:Ty:=.pair Z2 (.pair Z2 .unit)
abbrev Z6:Ty:=.slice (.pair .str (.pair Z2 .unit))
abbrev Z7:Ty:=.pair Z2 (.pair (.int .u64) .unit)
abbrev Z8:Ty:=.slice Z4
abbrev Z9:Ty:=.slice Z2
abbrev Z10:Ty:=.slice Z1
abbrev Z11:Ty:=.pair Z4 (.pair Z2 Z5)
abbrev Y11:Type:=Int×Y3×Unit×Y1×Y8×Y10×Y1×Y8×Y10×Y3×Int
abbrev Y12:Type:=Y2×Int×Int×Y1×Int×Int×Y5×Int×Int×Y2
abbrev Y13:Type:=Int×Int×Int×Y3×Y1×Y8×Y10×Y0
abbrev Y14:Type:=Int×Int×Y3×Y1×Y8×Y10×Y0
abbrev Y15:Type:=Int×Y3×Y2
def Tz29:LT:={ live:=[],keep:=[] }
def Tz30:LT:={ live:=[],keep:=[] }
noncomputable def Ez30:Env2:={ tab:=tab,fs:=[],inl:=[] }
def nkinds_isIndex (x:Int×Int):Option (Bool):=
 (bif (decide (x.1≥(0:Int))) then (some (decide (x.1 < x.2))) else (some false))
def mkinds_isIndex (N:Nat) (x:Int×Int):Option (Bool):=nkinds_isIndex x
theorem jz30 (N:Nat) (x:Int×Int):rise (Ez30) Tz30 6 N Tryd.f95 [Z2,Z2] [.bool] [false] x=nkinds_isIndex x:=by kernel_rfl
theorem lz30 (N:Nat) (x:Int×Int):rise (Ez30) Tz30 6 N Tryd.f95 [Z2,Z2] [.bool] [false] x=mkinds_isIndex N x:=(jz30 N x).trans rfl
def ckinds_isIndex (x:Int×Int):Option (Bool):=mkinds_isIndex big x
def Gz30:Fn2:=⟨[Z2,Z2],[.bool],[false],fun x=>ckinds_isIndex x⟩
theorem Lz30:Rises Tryd.prog 95 Gz30:=rises_of (E:=Ez30) ⟨tabOk,fsNil2,fun _ _ _=>rfl,mixed,inlNil,rcsNil,owsNil⟩ Tryd.func95 rfl (by decide) (by kernel_rfl) (by kernel_rfl) (by kernel_rfl) (by kernel_rfl) (fun x r _ h=>⟨Tz30,6,big,(lz30 big x).trans h⟩)
def Tz31:LT:={ live:=[],keep:=[] }
noncomputable def Ez31:Env2:={ tab:=tab,fs:=[],inl:=[] }
def nkinds_isLetter (x:Int):Option (Bool):=
 (bif (decide (x≥(97:Int))) then (bif (decide (x≤(122:Int))) then (some true) else (bif (decide (x≥(65:Int))) then (some (decide (x≤(90:Int)))) else (some false))) else (bif (decide (x≥(65:Int))) then (some (decide (x≤(90:Int)))) else (some false)))
def mkinds_isLetter (N:Nat) (x:Int):Option (Bool):=nkinds_isLetter x
theorem jz31 (N:Nat) (x:Int):rise (Ez31) Tz31 6 N Tryd.f83 [Z4] [.bool] [false] x=nkinds_isLetter x:=by kernel_rfl
theorem lz31 (N:Nat) (x:Int):rise (Ez31) Tz31 6 N Tryd.f83 [Z4] [.bool] [false] x=mkinds_isLetter N x:=(jz31 N x).trans rfl
def ckinds_isLetter (x:Int):Option (Bool):=mkinds_isLetter big x
def Gz31:Fn2:=⟨[Z4],[.bool],[false],fun x=>ckinds_isLetter x⟩
theorem Lz31:Rises Tryd.prog 83 Gz31:=rises_of (E:=Ez31) ⟨tabOk,fsNil2,fun _ _ _=>rfl,mixed,inlNil,rcsNil,owsNil⟩ Tryd.func83 rfl (by decide) (by kernel_rfl) (by kernel_rfl) (by kernel_rfl) (by kernel_rfl) (fun x r _ h=>⟨Tz31,6,big,(lz31 big x).trans h⟩)
def Tz32:LT:={ live:=[],keep:=[] }
noncomputable def Ez32:Env2:={ tab:=tab,fs:=[],inl:=[] }
def nkinds_isDigit (x:Int):Option (Bool):=
 (bif (decide (x≥(48:Int))) then (some (decide (x≤(57:Int)))) else (some false))
def mkinds_isDigit (N:Nat) (x:Int):Option (Bool):=nkinds_isDigit x
theorem jz32 (N:Nat) (x:Int):rise (Ez32) Tz32 6 N Tryd.f84 [Z4] [.bool] [false] x=nkinds_isDigit x:=by kernel_rfl
theorem lz32 (N:Nat) (x:Int):rise (Ez32) Tz32 6 N Tryd.f84 [Z4] [.bool] [false] x=mkinds_isDigit N x:=(jz32 N x).trans rfl
def ckinds_isDigit (x:Int):Option (Bool):=mkinds_isDigit big x
def Gz32:Fn2:=⟨[Z4],[.bool],[false],fun x=>ckinds_isDigit x⟩
theorem Lz32:Rises Tryd.prog 84 Gz32:=rises_of (E:=Ez32) ⟨tabOk,fsNil2,fun _ _ _=>rfl,mixed,inlNil,rcsNil,owsNil⟩ Tryd.func84 rfl (by decide) (by kernel_rfl) (by kernel_rfl) (by kernel_rfl) (by kernel_rfl) (fun x r _ h=>⟨Tz32,6,big,(lz32 big x).trans h⟩)
def Tz33:LT:={ live:=[(4,[0,18,19])],keep:=[] }
noncomputable def Ez33:Env2:={ tab:=tab,fs:=[(83,Gz31),(84,Gz32)],inl:=[] }
noncomputable def ez33_0 (v:Y2×Int×Int):St:={ s:=[(0,(.val ⟨.str,v.1⟩)),(18,(.val ⟨Z2,v.2.1⟩)),(19,(.val ⟨Z2,v.2.2⟩))],l:=[],k:=[],b:=4096 }
def hkinds_Named_0 (self0:Y2×Int×Int→Option (Bool)) (v:Y2×Int×Int):Option (Bool):=
 (bif (decide (v.2.2 < v.2.1)) then ((getI v.1 v.2.2).bind fun x3=>((ckinds_isLetter x3).bind fun x4=>(bif (!x4) then ((getI v.1 v.2.2).bind fun x5=>((ckinds_isDigit x5).bind fun x6=>(bif (!x6) then (some false) else (let x7:Int:=(IntKind.i64.wrap (v.2.2+(1:Int)));(self0 (v.1,v.2.1,x7)))))) else (let x8:Int:=(IntKind.i64.wrap (v.2.2+(1:Int)));(self0 (v.1,v.2.1,x8)))))) else (some true))
def gkinds_Named_0 (N:Nat) (self0:Y2×Int×Int→Option (Bool)) (v:Y2×Int×Int):Option (Bool):=hkinds_Named_0 self0 v
theorem kz33_0 (N:Nat) (s0:St→Option (Bool)) (v):(floc (Ez33) Tz33 6 N Tryd.f70 [.bool] [false] [] 0 nowhereR) s0 (ez33_0 v)=hkinds_Named_0 (fun v=>s0 (ez33_0 v)) v:=by kernel_rfl
theorem bz33_0 (N:Nat) (s0:St→Option (Bool)) (v):(floc (Ez33) Tz33 6 N Tryd.f70 [.bool] [false] [] 0 nowhereR) s0 (ez33_0 v)=gkinds_Named_0 N (fun v=>s0 (ez33_0 v)) v:=kz33_0 N s0 v
def nkinds_Named (loop0:Y2×Int×Int→Option (Bool)) (x:Y2):Option (Bool):=
 (bif (eqD .str x ([]:List Int)) then (some false) else (bif (decide ((List.length x:Int) > (16:Int))) then (some false) else ((getI x (0:Int)).bind fun x1=>((ckinds_isLetter x1).bind fun x2=>(bif (!x2) then (some false) else (loop0 (x,(List.length x:Int),(0:Int))))))))
def mkinds_Named (N:Nat) (x:Y2):Option (Bool):=nkinds_Named (iterV (gkinds_Named_0 N) N) x
theorem jz33 (N:Nat) (x:Y2):rise (Ez33) Tz33 6 N Tryd.f70 [.str] [.bool] [false] x=nkinds_Named (fun v=>iterR (floc (Ez33) Tz33 6 N Tryd.f70 [.bool] [false] [] 0 nowhereR) N (ez33_0 v)) x:=by kernel_rfl
theorem lz33 (N:Nat) (x:Y2):rise (Ez33) Tz33 6 N Tryd.f70 [.str] [.bool] [false] x=mkinds_Named N x:=(jz33 N x).trans (by rw [funext (iterR_eq ez33_0 (bz33_0 N) N)];rfl)
def ckinds_Named (x:Y2):Option (Bool):=mkinds_Named big x
def Gz33:Fn2:=⟨[.str],[.bool],[false],fun x=>ckinds_Named x⟩
theorem Lz33:Rises Tryd.prog 70 Gz33:=rises_of (E:=Ez33) ⟨tabOk,(fsCons2 Lz31 (fsCons2 Lz32 fsNil2)),fun _ _ _=>rfl,mixed,inlNil,rcsNil,owsNil⟩ Tryd.func70 rfl (by decide) (by kernel_rfl) (by kernel_rfl) (by kernel_rfl) (by kernel_rfl) (fun x r _ h=>⟨Tz33,6,big,(lz33 big x).trans h⟩)
def Tz34:LT:={ live:=[(5,[1,5,17,18,19])],keep:=[] }
noncomputable def Ez34:Env2:={ tab:=tab,fs:=[(70,Gz33),(95,Gz30)],inl:=[] }
noncomputable def ez34_0 (v:Int×Y5×Int×Int×(List (Y2×Bool))):St:={ s:=[(1,(.val ⟨Z2,v.1⟩)),(5,(.mp 0)),(17,(.val ⟨Z6,v.2.1⟩)),(18,(.val ⟨Z2,v.2.2.1⟩)),(19,(.val ⟨Z2,v.2.2.2.1⟩))],l:=[(0,.mp .str .bool v.2.2.2.2)],k:=[],b:=4096 }
def hkinds_areBuilt_0 (self0:Int×Y5×Int×Int×(List (Y2×Bool))→Option (Bool)) (v:Int×Y5×Int×Int×(List (Y2×Bool))):Option (Bool):=
 (bif (decide (v.2.2.2.1 < v.2.2.1)) then ((getI v.2.1 v.2.2.2.1).bind fun x1=>((ckinds_Named x1.1).bind fun x2=>(bif (!x2) then (some false) else (bif (@atK .str .bool x1.1 false v.2.2.2.2).1 then (some false) else ((ckinds_isIndex (x1.2.1,v.1)).bind fun x3=>(bif (!x3) then (some false) else (let x4:(List (Y2×Bool)):=(@putK .str .bool x1.1 true v.2.2.2.2);(let x5:Int:=(IntKind.i64.wrap (v.2.2.2.1+(1:Int)));(self0 (v.1,v.2.1,v.2.2.1,x5,x4)))))))))) else (some true))
def gkinds_areBuilt_0 (N:Nat) (self0:Int×Y5×Int×Int×(List (Y2×Bool))→Option (Bool)) (v:Int×Y5×Int×Int×(List (Y2×Bool))):Option (Bool):=hkinds_areBuilt_0 self0 v
theorem kz34_0 (N:Nat) (s0:St→Option (Bool)) (v):(floc (Ez34) Tz34 6 N Tryd.f96 [.bool] [false] [] 0 nowhereR) s0 (ez34_0 v)=hkinds_areBuilt_0 (fun v=>s0 (ez34_0 v)) v:=by kernel_rfl
theorem bz34_0 (N:Nat) (s0:St→Option (Bool)) (v):(floc (Ez34) Tz34 6 N Tryd.f96 [.bool] [false] [] 0 nowhereR) s0 (ez34_0 v)=gkinds_areBuilt_0 N (fun v=>s0 (ez34_0 v)) v:=kz34_0 N s0 v
def nkinds_areBuilt (loop0:Int×Y5×Int×Int×(List (Y2×Bool))→Option (Bool)) (x:Y5×Int):Option (Bool):=
 (bif (decide ((List.length x.1:Int) < (1:Int))) then (some false) else (bif (decide ((List.length x.1:Int) > (8:Int))) then (some false) else (loop0 (x.2,x.1,(List.length x.1:Int),(0:Int),([]:List (Y2×Bool))))))
def mkinds_areBuilt (N:Nat) (x:Y5×Int):Option (Bool):=nkinds_areBuilt (iterV (gkinds_areBuilt_0 N) N) x
theorem jz34 (N:Nat) (x:Y5×Int):rise (Ez34) Tz34 6 N Tryd.f96 [Z6,Z2] [.bool] [false] x=nkinds_areBuilt (fun v=>iterR (floc (Ez34) Tz34 6 N Tryd.f96 [.bool] [false] [] 0 nowhereR) N (ez34_0 v)) x:=by kernel_rfl
theorem lz34 (N:Nat) (x:Y5×Int):rise (Ez34) Tz34 6 N Tryd.f96 [Z6,Z2] [.bool] [false] x=mkinds_areBuilt N x:=(jz34 N x).trans (by rw [funext (iterR_eq ez34_0 (bz34_0 N) N)];rfl)
def ckinds_areBuilt (x:Y5×Int):Option (Bool):=mkinds_areBuilt big x
def Gz34:Fn2:=⟨[Z6,Z2],[.bool],[false],fun x=>ckinds_areBuilt x⟩
theorem Lz34:Rises Tryd.prog 96 Gz34:=rises_of (E:=Ez34) ⟨tabOk,(fsCons2 Lz33 (fsCons2 Lz30 fsNil2)),fun _ _ _=>rfl,mixed,inlNil,rcsNil,owsNil⟩ Tryd.func96 rfl (by decide) (by kernel_rfl) (by kernel_rfl) (by kernel_rfl) (by kernel_rfl) (fun x r _ h=>⟨Tz34,6,big,(lz34 big x).trans h⟩)
def Tz35:LT:={ live:=[],keep:=[] }
noncomputable def Ez35:Env2:={ tab:=tab,fs:=[(95,Gz30),(96,Gz34)],inl:=[] }
def nkinds_isBuilt (x:Y6×Int×Int):Option (Bool):=
 (bif (x.1.1==(1:Int)) then (bif (x.1.1==(1:Int)) then (bif (x.1.2.1==(0:Int)) then (bif (x.1.2.2.1==(0:Int)) then (some ((List.length x.1.2.2.2.1:Int)==(0:Int))) else (some false)) else (some false)) else (bif (x.1.1==(4:Int)) then (bif (x.1.1==(4:Int)) then ((ckinds_isIndex (x.1.2.1,x.2.2)).bind fun x1=>(bif x1 then (bif (x.1.2.2.1==(0:Int)) then (some ((List.length x.1.2.2.2.1:Int)==(0:Int))) else (some false)) else (some false))) else (bif (x.1.1==(6:Int)) then ((ckinds_isIndex (x.1.2.1,x.2.1)).bind fun x2=>(bif x2 then (bif (decide (x.1.2.2.1≥(1:Int))) then (bif (decide (x.1.2.2.1≤(16:Int))) then (some ((List.length x.1.2.2.2.1:Int)==(0:Int))) else (some false)) else (some false)) else (some false))) else (bif (x.1.1==(5:Int)) then (bif (x.1.2.1==(0:Int)) then (bif (x.1.2.2.1==(0:Int)) then ((ckinds_areBuilt (x.1.2.2.2.1,x.2.1)).bind fun x3=>(some x3)) else (some false)) else (some false)) else (some false)))) else (bif (x.1.1==(7:Int)) then ((ckinds_isIndex (x.1.2.1,x.2.2)).bind fun x4=>(bif x4 then (bif (x.1.2.2.1==(0:Int)) then (some ((List.length x.1.2.2.2.1:Int)==(0:Int))) else (some false)) else (some false))) else (bif (x.1.1==(6:Int)) then ((ckinds_isIndex (x.1.2.1,x.2.1)).bind fun x5=>(bif x5 then (bif (decide (x.1.2.2.1≥(1:Int))) then (bif (decide (x.1.2.2.1≤(16:Int))) then (some ((List.length x.1.2.2.2.1:Int)==(0:Int))) else (some false)) else (some false)) else (some false))) else (bif (x.1.1==(5:Int)) then (bif (x.1.2.1==(0:Int)) then (bif (x.1.2.2.1==(0:Int)) then ((ckinds_areBuilt (x.1.2.2.2.1,x.2.1)).bind fun x6=>(some x6)) else (some false)) else (some false)) else (some false)))))) else (bif (x.1.1==(2:Int)) then (bif (x.1.1==(2:Int)) then (bif (x.1.2.1==(0:Int)) then (bif (x.1.2.2.1==(0:Int)) then (some ((List.length x.1.2.2.2.1:Int)==(0:Int))) else (some false)) else (some false)) else (bif (x.1.1==(4:Int)) then (bif (x.1.1==(4:Int)) then ((ckinds_isIndex (x.1.2.1,x.2.2)).bind fun x7=>(bif x7 then (bif (x.1.2.2.1==(0:Int)) then (some ((List.length x.1.2.2.2.1:Int)==(0:Int))) else (some false)) else (some false))) else (bif (x.1.1==(6:Int)) then ((ckinds_isIndex (x.1.2.1,x.2.1)).bind fun x8=>(bif x8 then (bif (decide (x.1.2.2.1≥(1:Int))) then (bif (decide (x.1.2.2.1≤(16:Int))) then (some ((List.length x.1.2.2.2.1:Int)==(0:Int))) else (some false)) else (some false)) else (some false))) else (bif (x.1.1==(5:Int)) then (bif (x.1.2.1==(0:Int)) then (bif (x.1.2.2.1==(0:Int)) then ((ckinds_areBuilt (x.1.2.2.2.1,x.2.1)).bind fun x9=>(some x9)) else (some false)) else (some false)) else (some false)))) else (bif (x.1.1==(7:Int)) then ((ckinds_isIndex (x.1.2.1,x.2.2)).bind fun x10=>(bif x10 then (bif (x.1.2.2.1==(0:Int)) then (some ((List.length x.1.2.2.2.1:Int)==(0:Int))) else (some false)) else (some false))) else (bif (x.1.1==(6:Int)) then ((ckinds_isIndex (x.1.2.1,x.2.1)).bind fun x11=>(bif x11 then (bif (decide (x.1.2.2.1≥(1:Int))) then (bif (decide (x.1.2.2.1≤(16:Int))) then (some ((List.length x.1.2.2.2.1:Int)==(0:Int))) else (some false)) else (some false)) else (some false))) else (bif (x.1.1==(5:Int)) then (bif (x.1.2.1==(0:Int)) then (bif (x.1.2.2.1==(0:Int)) then ((ckinds_areBuilt (x.1.2.2.2.1,x.2.1)).bind fun x12=>(some x12)) else (some false)) else (some false)) else (some false)))))) else (bif (x.1.1==(3:Int)) then (bif (x.1.2.1==(0:Int)) then (bif (x.1.2.2.1==(0:Int)) then (some ((List.length x.1.2.2.2.1:Int)==(0:Int))) else (some false)) else (some false)) else (bif (x.1.1==(4:Int)) then (bif (x.1.1==(4:Int)) then ((ckinds_isIndex (x.1.2.1,x.2.2)).bind fun x13=>(bif x13 then (bif (x.1.2.2.1==(0:Int)) then (some ((List.length x.1.2.2.2.1:Int)==(0:Int))) else (some false)) else (some false))) else (bif (x.1.1==(6:Int)) then ((ckinds_isIndex (x.1.2.1,x.2.1)).bind fun x14=>(bif x14 then (bif (decide (x.1.2.2.1≥(1:Int))) then (bif (decide (x.1.2.2.1≤(16:Int))) then (some ((List.length x.1.2.2.2.1:Int)==(0:Int))) else (some false)) else (some false)) else (some false))) else (bif (x.1.1==(5:Int)) then (bif (x.1.2.1==(0:Int)) then (bif (x.1.2.2.1==(0:Int)) then ((ckinds_areBuilt (x.1.2.2.2.1,x.2.1)).bind fun x15=>(some x15)) else (some false)) else (some false)) else (some false)))) else (bif (x.1.1==(7:Int)) then ((ckinds_isIndex (x.1.2.1,x.2.2)).bind fun x16=>(bif x16 then (bif (x.1.2.2.1==(0:Int)) then (some ((List.length x.1.2.2.2.1:Int)==(0:Int))) else (some false)) else (some false))) else (bif (x.1.1==(6:Int)) then ((ckinds_isIndex (x.1.2.1,x.2.1)).bind fun x17=>(bif x17 then (bif (decide (x.1.2.2.1≥(1:Int))) then (bif (decide (x.1.2.2.1≤(16:Int))) then (some ((List.length x.1.2.2.2.1:Int)==(0:Int))) else (some false)) else (some false)) else (some false))) else (bif (x.1.1==(5:Int)) then (bif (x.1.2.1==(0:Int)) then (bif (x.1.2.2.1==(0:Int)) then ((ckinds_areBuilt (x.1.2.2.2.1,x.2.1)).bind fun x18=>(some x18)) else (some false)) else (some false)) else (some false))))))))
def mkinds_isBuilt (N:Nat) (x:Y6×Int×Int):Option (Bool):=nkinds_isBuilt x
theorem jz35 (N:Nat) (x:Y6×Int×Int):rise (Ez35) Tz35 6 N Tryd.f88 [Z1,Z2,Z2] [.bool] [false] x=nkinds_isBuilt x:=by kernel_rfl
theorem lz35 (N:Nat) (x:Y6×Int×Int):rise (Ez35) Tz35 6 N Tryd.f88 [Z1,Z2,Z2] [.bool] [false] x=mkinds_isBuilt N x:=(jz35 N x).trans rfl
def ckinds_isBuilt (x:Y6×Int×Int):Option (Bool):=mkinds_isBuilt big x
def Gz35:Fn2:=⟨[Z1,Z2,Z2],[.bool],[false],fun x=>ckinds_isBuilt x⟩
theorem Lz35:Rises Tryd.prog 88 Gz35:=rises_of (E:=Ez35) ⟨tabOk,(fsCons2 Lz30 (fsCons2 Lz34 fsNil2)),fun _ _ _=>rfl,mixed,inlNil,rcsNil,owsNil⟩ Tryd.func88 rfl (by decide) (by kernel_rfl) (by kernel_rfl) (by kernel_rfl) (by kernel_rfl) (fun x r _ h=>⟨Tz35,6,big,(lz35 big x).trans h⟩)
def Tz36:LT:={ live:=[(3,[1,5,14,15,16]),(15,[1,5,6,8,14,15,16,57,58,59])],keep:=[] }
noncomputable def Ez36 (mk:(α:Type)→Nat→α→List α):Env2:={ tab:=tab,fs:=[],inl:=[],rep:=mk }
noncomputable def ez36_1 (v:Y12):St:={ s:=[(1,(.val ⟨Z9,v.1⟩)),(5,(.row 0)),(6,(.val ⟨Z2,v.2.1⟩)),(8,(.val ⟨Z2,v.2.2.1⟩)),(14,(.val ⟨Z10,v.2.2.2.1⟩)),(15,(.val ⟨Z2,v.2.2.2.2.1⟩)),(16,(.val ⟨Z2,v.2.2.2.2.2.1⟩)),(57,(.val ⟨Z6,v.2.2.2.2.2.2.1⟩)),(58,(.val ⟨Z2,v.2.2.2.2.2.2.2.1⟩)),(59,(.val ⟨Z2,v.2.2.2.2.2.2.2.2.1⟩))],l:=[(0,.row Z2 v.2.2.2.2.2.2.2.2.2)],k:=[],b:=4096 }
noncomputable def ez36_0 (v:Y2×Y1×Int×Int×Y2):St:={ s:=[(1,(.val ⟨Z9,v.1⟩)),(5,(.row 0)),(14,(.val ⟨Z10,v.2.1⟩)),(15,(.val ⟨Z2,v.2.2.1⟩)),(16,(.val ⟨Z2,v.2.2.2.1⟩))],l:=[(0,.row Z2 v.2.2.2.2)],k:=[],b:=4096 }
def hkinds_widened_1 (mk:(α:Type)→Nat→α→List α) (self0:Y2×Y1×Int×Int×Y2→Option (Y2)) (self1:Y12→Option (Y2)) (v:Y12):Option (Y2):=
 (bif (decide (v.2.2.2.2.2.2.2.2.1 < v.2.2.2.2.2.2.2.1)) then ((getI v.2.2.2.2.2.2.1 v.2.2.2.2.2.2.2.2.1).bind fun x20=>(bif (decide (0≤x20.2.1)&&decide (x20.2.1 < (List.length v.2.2.2.2.2.2.2.2.2:Int))) then ((nth v.2.2.2.2.2.2.2.2.2 (Int.toNat x20.2.1)).bind fun x21=>(let x22:Int:=(IntKind.i64.wrap (v.2.2.1+x21));(let x23:Int:=(IntKind.i64.wrap (v.2.2.2.2.2.2.2.2.1+(1:Int)));(self1 (v.1,v.2.1,x22,v.2.2.2.1,v.2.2.2.2.1,v.2.2.2.2.2.1,v.2.2.2.2.2.2.1,v.2.2.2.2.2.2.2.1,x23,v.2.2.2.2.2.2.2.2.2))))) else none)) else (let x24:Int:=(if (5001:Int) < v.2.2.1 then (5001:Int) else v.2.2.1);(bif (decide (0≤v.2.1)&&decide (v.2.1 < (List.length v.2.2.2.2.2.2.2.2.2:Int))) then (let x25:Y2:=(List.set v.2.2.2.2.2.2.2.2.2 (Int.toNat v.2.1) x24);(let x26:Int:=(IntKind.i64.wrap (v.2.2.2.2.2.1+(1:Int)));(self0 (v.1,v.2.2.2.1,v.2.2.2.2.1,x26,x25)))) else none)))
def gkinds_widened_1 (mk:(α:Type)→Nat→α→List α) (N:Nat) (self0:Y2×Y1×Int×Int×Y2→Option (Y2)) (self1:Y12→Option (Y2)) (v:Y12):Option (Y2):=hkinds_widened_1 mk self0 self1 v
theorem kz36_1 (mk:(α:Type)→Nat→α→List α) (N:Nat) (s0:St→Option (Y2)) (s1:St→Option (Y2)) (v):(floc (Ez36 mk) Tz36 6 N Tryd.f98 [Z9] [true] [] 1 (outerR s0 nowhereR)) s1 (ez36_1 v)=hkinds_widened_1 mk (fun v=>s0 (ez36_0 v)) (fun v=>s1 (ez36_1 v)) v:=by kernel_rfl
theorem bz36_1 (mk:(α:Type)→Nat→α→List α) (N:Nat) (s0:St→Option (Y2)) (s1:St→Option (Y2)) (v):(floc (Ez36 mk) Tz36 6 N Tryd.f98 [Z9] [true] [] 1 (outerR s0 nowhereR)) s1 (ez36_1 v)=gkinds_widened_1 mk N (fun v=>s0 (ez36_0 v)) (fun v=>s1 (ez36_1 v)) v:=kz36_1 mk N s0 s1 v
def hkinds_widened_0 (mk:(α:Type)→Nat→α→List α) (loop1:Y12→Option (Y2)) (self0:Y2×Y1×Int×Int×Y2→Option (Y2)) (v:Y2×Y1×Int×Int×Y2):Option (Y2):=
 (bif (decide (v.2.2.2.1 < v.2.2.1)) then ((getI v.2.1 v.2.2.2.1).bind fun x2=>(bif (x2.1==(4:Int)) then ((getI v.1 x2.2.1).bind fun x3=>(let x4:Int:=(IntKind.i64.wrap ((1:Int)+x3));(let x5:Int:=(if (5001:Int) < x4 then (5001:Int) else x4);(bif (decide (0≤v.2.2.2.1)&&decide (v.2.2.2.1 < (List.length v.2.2.2.2:Int))) then (let x6:Y2:=(List.set v.2.2.2.2 (Int.toNat v.2.2.2.1) x5);(let x7:Int:=(IntKind.i64.wrap (v.2.2.2.1+(1:Int)));(self0 (v.1,v.2.1,v.2.2.1,x7,x6)))) else none)))) else (bif (x2.1==(7:Int)) then ((getI v.1 x2.2.1).bind fun x8=>(let x9:Int:=(IntKind.i64.wrap ((16:Int) * x8));(let x10:Int:=(IntKind.i64.wrap ((1:Int)+x9));(let x11:Int:=(if (5001:Int) < x10 then (5001:Int) else x10);(bif (decide (0≤v.2.2.2.1)&&decide (v.2.2.2.1 < (List.length v.2.2.2.2:Int))) then (let x12:Y2:=(List.set v.2.2.2.2 (Int.toNat v.2.2.2.1) x11);(let x13:Int:=(IntKind.i64.wrap (v.2.2.2.1+(1:Int)));(self0 (v.1,v.2.1,v.2.2.1,x13,x12)))) else none))))) else (bif (x2.1==(6:Int)) then (bif (decide (0≤x2.2.1)&&decide (x2.2.1 < (List.length v.2.2.2.2:Int))) then ((nth v.2.2.2.2 (Int.toNat x2.2.1)).bind fun x14=>(let x15:Int:=(IntKind.i64.wrap (x2.2.2.1 * x14));(let x16:Int:=(IntKind.i64.wrap ((1:Int)+x15));(let x17:Int:=(if (5001:Int) < x16 then (5001:Int) else x16);(bif (decide (0≤v.2.2.2.1)&&decide (v.2.2.2.1 < (List.length v.2.2.2.2:Int))) then (let x18:Y2:=(List.set v.2.2.2.2 (Int.toNat v.2.2.2.1) x17);(let x19:Int:=(IntKind.i64.wrap (v.2.2.2.1+(1:Int)));(self0 (v.1,v.2.1,v.2.2.1,x19,x18)))) else none))))) else none) else (bif (x2.1==(5:Int)) then (loop1 (v.1,v.2.2.2.1,(1:Int),v.2.1,v.2.2.1,v.2.2.2.1,x2.2.2.2.1,(List.length x2.2.2.2.1:Int),(0:Int),v.2.2.2.2)) else (let x27:Int:=(if (5001:Int) < (1:Int) then (5001:Int) else (1:Int));(bif (decide (0≤v.2.2.2.1)&&decide (v.2.2.2.1 < (List.length v.2.2.2.2:Int))) then (let x28:Y2:=(List.set v.2.2.2.2 (Int.toNat v.2.2.2.1) x27);(let x29:Int:=(IntKind.i64.wrap (v.2.2.2.1+(1:Int)));(self0 (v.1,v.2.1,v.2.2.1,x29,x28)))) else none))))))) else (some v.2.2.2.2))
def gkinds_widened_0 (mk:(α:Type)→Nat→α→List α) (N:Nat) (self0:Y2×Y1×Int×Int×Y2→Option (Y2)) (v:Y2×Y1×Int×Int×Y2):Option (Y2):=hkinds_widened_0 mk (iterV (gkinds_widened_1 mk N self0) N) self0 v
theorem kz36_0 (mk:(α:Type)→Nat→α→List α) (N:Nat) (s0:St→Option (Y2)) (v):(floc (Ez36 mk) Tz36 6 N Tryd.f98 [Z9] [true] [] 0 nowhereR) s0 (ez36_0 v)=hkinds_widened_0 mk (fun v=>iterR (floc (Ez36 mk) Tz36 6 N Tryd.f98 [Z9] [true] [] 1 (outerR s0 nowhereR)) N (ez36_1 v)) (fun v=>s0 (ez36_0 v)) v:=by kernel_rfl
theorem bz36_0 (mk:(α:Type)→Nat→α→List α) (N:Nat) (s0:St→Option (Y2)) (v):(floc (Ez36 mk) Tz36 6 N Tryd.f98 [Z9] [true] [] 0 nowhereR) s0 (ez36_0 v)=gkinds_widened_0 mk N (fun v=>s0 (ez36_0 v)) v:=(kz36_0 mk N s0 v).trans (by rw [funext (iterR_eq ez36_1 (bz36_1 mk N s0) N)];rfl)
def nkinds_widened (mk:(α:Type)→Nat→α→List α) (loop0:Y2×Y1×Int×Int×Y2→Option (Y2)) (x:Y1×Y2):Option (Y2):=
 (bif (decide (0≤(List.length x.1:Int))&&(decide ((List.length x.1:Int)≤(List.length x.1:Int))&&(decide ((List.length x.1:Int)≤68719476736)&&true))) then (let x1:Y2:=(mk Int (Int.toNat (List.length x.1:Int)) (0:Int));(loop0 (x.2,x.1,(List.length x.1:Int),(0:Int),x1))) else none)
def mkinds_widened (mk:(α:Type)→Nat→α→List α) (N:Nat) (x:Y1×Y2):Option (Y2):=nkinds_widened mk (iterV (gkinds_widened_0 mk N) N) x
theorem jz36 (mk:(α:Type)→Nat→α→List α) (N:Nat) (x:Y1×Y2):rise (Ez36 mk) Tz36 6 N Tryd.f98 [Z10,Z9] [Z9] [true] x=nkinds_widened mk (fun v=>iterR (floc (Ez36 mk) Tz36 6 N Tryd.f98 [Z9] [true] [] 0 nowhereR) N (ez36_0 v)) x:=by kernel_rfl
theorem lz36 (mk:(α:Type)→Nat→α→List α) (N:Nat) (x:Y1×Y2):rise (Ez36 mk) Tz36 6 N Tryd.f98 [Z10,Z9] [Z9] [true] x=mkinds_widened mk N x:=(jz36 mk N x).trans (by rw [funext (iterR_eq ez36_0 (bz36_0 mk N) N)];rfl)
def ckinds_widened (x:Y1×Y2):Option (Y2):=mkinds_widened (fun _=>List.replicate) big x
def Gz36:Fn2:=⟨[Z10,Z9],[Z9],[true],fun x=>ckinds_widened x⟩
theorem Lz36:Rises Tryd.prog 98 Gz36:=rises_of (E:=Ez36 (fun _=>List.replicate)) ⟨tabOk,fsNil2,fun _ _ _=>rfl,mixed,inlNil,rcsNil,owsNil⟩ Tryd.func98 rfl (by decide) (by kernel_rfl) (by kernel_rfl) (by kernel_rfl) (by kernel_rfl) (fun x r _ h=>⟨Tz36,6,big,(lz36 (fun _=>List.replicate) big x).trans h⟩)
def Tz37:LT:={ live:=[(3,[0,3,7])],keep:=[] }
noncomputable def Ez37 (mk:(α:Type)→Nat→α→List α):Env2:={ tab:=tab,fs:=[(98,Gz36)],inl:=[],rep:=mk }
noncomputable def ez37_0 (v:Y1×Int×Y2):St:={ s:=[(0,(.val ⟨Z10,v.1⟩)),(3,(.row 0)),(7,(.val ⟨Z2,v.2.1⟩))],l:=[(0,.row Z2 v.2.2)],k:=[],b:=4096 }
def hkinds_widths_0 (mk:(α:Type)→Nat→α→List α) (self0:Y1×Int×Y2→Option (Y2)) (v:Y1×Int×Y2):Option (Y2):=
 (bif (decide (v.2.1 < (4:Int))) then ((ckinds_widened (v.1,v.2.2)).bind fun x2=>(let x3:Int:=(IntKind.i64.wrap (v.2.1+(1:Int)));(self0 (v.1,x3,x2)))) else (some v.2.2))
def gkinds_widths_0 (mk:(α:Type)→Nat→α→List α) (N:Nat) (self0:Y1×Int×Y2→Option (Y2)) (v:Y1×Int×Y2):Option (Y2):=hkinds_widths_0 mk self0 v
theorem kz37_0 (mk:(α:Type)→Nat→α→List α) (N:Nat) (s0:St→Option (Y2)) (v):(floc (Ez37 mk) Tz37 6 N Tryd.f90 [Z9] [true] [] 0 nowhereR) s0 (ez37_0 v)=hkinds_widths_0 mk (fun v=>s0 (ez37_0 v)) v:=by kernel_rfl
theorem bz37_0 (mk:(α:Type)→Nat→α→List α) (N:Nat) (s0:St→Option (Y2)) (v):(floc (Ez37 mk) Tz37 6 N Tryd.f90 [Z9] [true] [] 0 nowhereR) s0 (ez37_0 v)=gkinds_widths_0 mk N (fun v=>s0 (ez37_0 v)) v:=kz37_0 mk N s0 v
def nkinds_widths (mk:(α:Type)→Nat→α→List α) (loop0:Y1×Int×Y2→Option (Y2)) (x:Y1):Option (Y2):=
 (bif (decide (0≤(List.length x:Int))&&(decide ((List.length x:Int)≤(List.length x:Int))&&(decide ((List.length x:Int)≤68719476736)&&true))) then (let x1:Y2:=(mk Int (Int.toNat (List.length x:Int)) (0:Int));(loop0 (x,(0:Int),x1))) else none)
def mkinds_widths (mk:(α:Type)→Nat→α→List α) (N:Nat) (x:Y1):Option (Y2):=nkinds_widths mk (iterV (gkinds_widths_0 mk N) N) x
theorem jz37 (mk:(α:Type)→Nat→α→List α) (N:Nat) (x:Y1):rise (Ez37 mk) Tz37 6 N Tryd.f90 [Z10] [Z9] [true] x=nkinds_widths mk (fun v=>iterR (floc (Ez37 mk) Tz37 6 N Tryd.f90 [Z9] [true] [] 0 nowhereR) N (ez37_0 v)) x:=by kernel_rfl
theorem lz37 (mk:(α:Type)→Nat→α→List α) (N:Nat) (x:Y1):rise (Ez37 mk) Tz37 6 N Tryd.f90 [Z10] [Z9] [true] x=mkinds_widths mk N x:=(jz37 mk N x).trans (by rw [funext (iterR_eq ez37_0 (bz37_0 mk N) N)];rfl)
def ckinds_widths (x:Y1):Option (Y2):=mkinds_widths (fun _=>List.replicate) big x
def Gz37:Fn2:=⟨[Z10],[Z9],[true],fun x=>ckinds_widths x⟩
theorem Lz37:Rises Tryd.prog 90 Gz37:=rises_of (E:=Ez37 (fun _=>List.replicate)) ⟨tabOk,(fsCons2 Lz36 fsNil2),fun _ _ _=>rfl,mixed,inlNil,rcsNil,owsNil⟩ Tryd.func90 rfl (by decide) (by kernel_rfl) (by kernel_rfl) (by kernel_rfl) (by kernel_rfl) (fun x r _ h=>⟨Tz37,6,big,(lz37 (fun _=>List.replicate) big x).trans h⟩)
def Tz38:LT:={ live:=[(2,[0,1,7,8])],keep:=[] }
noncomputable def Ez38:Env2:={ tab:=tab,fs:=[],inl:=[] }
noncomputable def ez38_0 (v:Y2×Int×Int×Int):St:={ s:=[(0,(.val ⟨Z9,v.1⟩)),(1,(.val ⟨Z2,v.2.1⟩)),(7,(.val ⟨Z2,v.2.2.1⟩)),(8,(.val ⟨Z2,v.2.2.2⟩))],l:=[],k:=[],b:=4096 }
def hslices_Index_int_int_0 (self0:Y2×Int×Int×Int→Option (Int)) (v:Y2×Int×Int×Int):Option (Int):=
 (bif (decide (v.2.2.2 < v.2.2.1)) then ((getI v.1 v.2.2.2).bind fun x1=>(bif (v.2.1==x1) then (some v.2.2.2) else (let x2:Int:=(IntKind.i64.wrap (v.2.2.2+(1:Int)));(self0 (v.1,v.2.1,v.2.2.1,x2))))) else (some (-1:Int)))
def gslices_Index_int_int_0 (N:Nat) (self0:Y2×Int×Int×Int→Option (Int)) (v:Y2×Int×Int×Int):Option (Int):=hslices_Index_int_int_0 self0 v
theorem kz38_0 (N:Nat) (s0:St→Option (Int)) (v):(floc (Ez38) Tz38 6 N Tryd.f97 [Z2] [false] [] 0 nowhereR) s0 (ez38_0 v)=hslices_Index_int_int_0 (fun v=>s0 (ez38_0 v)) v:=by kernel_rfl
theorem bz38_0 (N:Nat) (s0:St→Option (Int)) (v):(floc (Ez38) Tz38 6 N Tryd.f97 [Z2] [false] [] 0 nowhereR) s0 (ez38_0 v)=gslices_Index_int_int_0 N (fun v=>s0 (ez38_0 v)) v:=kz38_0 N s0 v
def nslices_Index_int_int (loop0:Y2×Int×Int×Int→Option (Int)) (x:Y2×Int):Option (Int):=
 (loop0 (x.1,x.2,(List.length x.1:Int),(0:Int)))
def mslices_Index_int_int (N:Nat) (x:Y2×Int):Option (Int):=nslices_Index_int_int (iterV (gslices_Index_int_int_0 N) N) x
theorem jz38 (N:Nat) (x:Y2×Int):rise (Ez38) Tz38 6 N Tryd.f97 [Z9,Z2] [Z2] [false] x=nslices_Index_int_int (fun v=>iterR (floc (Ez38) Tz38 6 N Tryd.f97 [Z2] [false] [] 0 nowhereR) N (ez38_0 v)) x:=by kernel_rfl
theorem lz38 (N:Nat) (x:Y2×Int):rise (Ez38) Tz38 6 N Tryd.f97 [Z9,Z2] [Z2] [false] x=mslices_Index_int_int N x:=(jz38 N x).trans (by rw [funext (iterR_eq ez38_0 (bz38_0 N) N)];rfl)
def cslices_Index_int_int (x:Y2×Int):Option (Int):=mslices_Index_int_int big x
def Gz38:Fn2:=⟨[Z9,Z2],[Z2],[false],fun x=>cslices_Index_int_int x⟩
theorem Lz38:Rises Tryd.prog 97 Gz38:=rises_of (E:=Ez38) ⟨tabOk,fsNil2,fun _ _ _=>rfl,mixed,inlNil,rcsNil,owsNil⟩ Tryd.func97 rfl (by decide) (by kernel_rfl) (by kernel_rfl) (by kernel_rfl) (by kernel_rfl) (fun x r _ h=>⟨Tz38,6,big,(lz38 big x).trans h⟩)
def Tz39:LT:={ live:=[],keep:=[] }
noncomputable def Ez39:Env2:={ tab:=tab,fs:=[(97,Gz38)],inl:=[] }
def nslices_Contains_int_int (x:Y2×Int):Option (Bool):=
 ((cslices_Index_int_int (x.1,x.2)).bind fun x1=>(some (decide (x1≥(0:Int)))))
def mslices_Contains_int_int (N:Nat) (x:Y2×Int):Option (Bool):=nslices_Contains_int_int x
theorem jz39 (N:Nat) (x:Y2×Int):rise (Ez39) Tz39 6 N Tryd.f89 [Z9,Z2] [.bool] [false] x=nslices_Contains_int_int x:=by kernel_rfl
theorem lz39 (N:Nat) (x:Y2×Int):rise (Ez39) Tz39 6 N Tryd.f89 [Z9,Z2] [.bool] [false] x=mslices_Contains_int_int N x:=(jz39 N x).trans rfl
def cslices_Contains_int_int (x:Y2×Int):Option (Bool):=mslices_Contains_int_int big x
def Gz39:Fn2:=⟨[Z9,Z2],[.bool],[false],fun x=>cslices_Contains_int_int x⟩
theorem Lz39:Rises Tryd.prog 89 Gz39:=rises_of (E:=Ez39) ⟨tabOk,(fsCons2 Lz38 fsNil2),fun _ _ _=>rfl,mixed,inlNil,rcsNil,owsNil⟩ Tryd.func89 rfl (by decide) (by kernel_rfl) (by kernel_rfl) (by kernel_rfl) (by kernel_rfl) (fun x r _ h=>⟨Tz39,6,big,(lz39 big x).trans h⟩)
def Tz40:LT:={ live:=[(4,[0,8,9,10])],keep:=[] }
noncomputable def Ez40:Env2:={ tab:=tab,fs:=[(88,Gz35),(89,Gz39),(90,Gz37)],inl:=[] }
noncomputable def ez40_0 (v:Y1×Y1×Int×Int):St:={ s:=[(0,(.val ⟨Z10,v.1⟩)),(8,(.val ⟨Z10,v.2.1⟩)),(9,(.val ⟨Z2,v.2.2.1⟩)),(10,(.val ⟨Z2,v.2.2.2⟩))],l:=[],k:=[],b:=4096 }
def hkinds_Check_0 (self0:Y1×Y1×Int×Int→Option (Int)) (v:Y1×Y1×Int×Int):Option (Int):=
 (bif (decide (v.2.2.2 < v.2.2.1)) then ((getI v.2.1 v.2.2.2).bind fun x1=>((ckinds_isBuilt (x1,v.2.2.2,(List.length v.1:Int))).bind fun x2=>(bif (!x2) then (some (8:Int)) else (let x3:Int:=(IntKind.i64.wrap (v.2.2.2+(1:Int)));(self0 (v.1,v.2.1,v.2.2.1,x3)))))) else ((ckinds_widths v.1).bind fun x4=>((cslices_Contains_int_int (x4,(5001:Int))).bind fun x5=>(bif x5 then (some (8:Int)) else (some (0:Int))))))
def gkinds_Check_0 (N:Nat) (self0:Y1×Y1×Int×Int→Option (Int)) (v:Y1×Y1×Int×Int):Option (Int):=hkinds_Check_0 self0 v
theorem kz40_0 (N:Nat) (s0:St→Option (Int)) (v):(floc (Ez40) Tz40 6 N Tryd.f75 [Z2] [false] [] 0 nowhereR) s0 (ez40_0 v)=hkinds_Check_0 (fun v=>s0 (ez40_0 v)) v:=by kernel_rfl
theorem bz40_0 (N:Nat) (s0:St→Option (Int)) (v):(floc (Ez40) Tz40 6 N Tryd.f75 [Z2] [false] [] 0 nowhereR) s0 (ez40_0 v)=gkinds_Check_0 N (fun v=>s0 (ez40_0 v)) v:=kz40_0 N s0 v
def nkinds_Check (loop0:Y1×Y1×Int×Int→Option (Int)) (x:Y1):Option (Int):=
 (bif (decide ((List.length x:Int) > (32:Int))) then (some (8:Int)) else (loop0 (x,x,(List.length x:Int),(0:Int))))
def mkinds_Check (N:Nat) (x:Y1):Option (Int):=nkinds_Check (iterV (gkinds_Check_0 N) N) x
theorem jz40 (N:Nat) (x:Y1):rise (Ez40) Tz40 6 N Tryd.f75 [Z10] [Z2] [false] x=nkinds_Check (fun v=>iterR (floc (Ez40) Tz40 6 N Tryd.f75 [Z2] [false] [] 0 nowhereR) N (ez40_0 v)) x:=by kernel_rfl
theorem lz40 (N:Nat) (x:Y1):rise (Ez40) Tz40 6 N Tryd.f75 [Z10] [Z2] [false] x=mkinds_Check N x:=(jz40 N x).trans (by rw [funext (iterR_eq ez40_0 (bz40_0 N) N)];rfl)
def ckinds_Check (x:Y1):Option (Int):=mkinds_Check big x
def Gz40:Fn2:=⟨[Z10],[Z2],[false],fun x=>ckinds_Check x⟩
theorem Lz40:Rises Tryd.prog 75 Gz40:=rises_of (E:=Ez40) ⟨tabOk,(fsCons2 Lz35 (fsCons2 Lz39 (fsCons2 Lz37 fsNil2))),fun _ _ _=>rfl,mixed,inlNil,rcsNil,owsNil⟩ Tryd.func75 rfl (by decide) (by kernel_rfl) (by kernel_rfl) (by kernel_rfl) (by kernel_rfl) (fun x r _ h=>⟨Tz40,6,big,(lz40 big x).trans h⟩)
def Tz41:LT:={ live:=[],keep:=[] }
noncomputable def Ez41:Env2:={ tab:=tab,fs:=[],inl:=[] }
def nlayout_isIndex (x:Int×Int):Option (Bool):=
 (bif (decide (x.1≥(0:Int))) then (some (decide (x.1 < x.2))) else (some false))
def mlayout_isIndex (N:Nat) (x:Int×Int):Option (Bool):=nlayout_isIndex x
theorem jz41 (N:Nat) (x:Int×Int):rise (Ez41) Tz41 6 N Tryd.f76 [Z2,Z2] [.bool] [false] x=nlayout_isIndex x:=by kernel_rfl
theorem lz41 (N:Nat) (x:Int×Int):rise (Ez41) Tz41 6 N Tryd.f76 [Z2,Z2] [.bool] [false] x=mlayout_isIndex N x:=(jz41 N x).trans rfl
def clayout_isIndex (x:Int×Int):Option (Bool):=mlayout_isIndex big x
def Gz41:Fn2:=⟨[Z2,Z2],[.bool],[false],fun x=>clayout_isIndex x⟩
theorem Lz41:Rises Tryd.prog 76 Gz41:=rises_of (E:=Ez41) ⟨tabOk,fsNil2,fun _ _ _=>rfl,mixed,inlNil,rcsNil,owsNil⟩ Tryd.func76 rfl (by decide) (by kernel_rfl) (by kernel_rfl) (by kernel_rfl) (by kernel_rfl) (fun x r _ h=>⟨Tz41,6,big,(lz41 big x).trans h⟩)
def Tz42:LT:={ live:=[],keep:=[] }
noncomputable def Ez42:Env2:={ tab:=tab,fs:=[],inl:=[] }
def nlayout_multiple (x:Int×Int):Option (Int):=
 (let x1:Int:=(IntKind.i64.wrap (x.1+x.2));(let x2:Int:=(IntKind.i64.wrap (x1 - (1:Int)));(bif (x.2==0) then none else (let x3:Int:=(IntKind.i64.wrap (x2.tdiv x.2));(let x4:Int:=(IntKind.i64.wrap (x3 * x.2));(some x4))))))
def mlayout_multiple (N:Nat) (x:Int×Int):Option (Int):=nlayout_multiple x
theorem jz42 (N:Nat) (x:Int×Int):rise (Ez42) Tz42 6 N Tryd.f101 [Z2,Z2] [Z2] [false] x=nlayout_multiple x:=by kernel_rfl
theorem lz42 (N:Nat) (x:Int×Int):rise (Ez42) Tz42 6 N Tryd.f101 [Z2,Z2] [Z2] [false] x=mlayout_multiple N x:=(jz42 N x).trans rfl
def clayout_multiple (x:Int×Int):Option (Int):=mlayout_multiple big x
def Gz42:Fn2:=⟨[Z2,Z2],[Z2],[false],fun x=>clayout_multiple x⟩
theorem Lz42:Rises Tryd.prog 101 Gz42:=rises_of (E:=Ez42) ⟨tabOk,fsNil2,fun _ _ _=>rfl,mixed,inlNil,rcsNil,owsNil⟩ Tryd.func101 rfl (by decide) (by kernel_rfl) (by kernel_rfl) (by kernel_rfl) (by kernel_rfl) (fun x r _ h=>⟨Tz42,6,big,(lz42 big x).trans h⟩)
def Tz43:LT:={ live:=[(4,[0,5,6,7,15,16,17])],keep:=[] }
noncomputable def Ez43 (mk:(α:Type)→Nat→α→List α):Env2:={ tab:=tab,fs:=[(101,Gz42)],inl:=[],rep:=mk }
noncomputable def ez43_0 (v:Y9×Y5×Int×Int×Y4×Y2×Y4):St:={ s:=[(0,(.val ⟨(.slice Z5),v.1⟩)),(5,(.loc 0 [])),(6,(.row 1)),(7,(.loc 2 [])),(15,(.val ⟨Z6,v.2.1⟩)),(16,(.val ⟨Z2,v.2.2.1⟩)),(17,(.val ⟨Z2,v.2.2.2.1⟩))],l:=[(0,.var Z5 (.val ⟨Z5,v.2.2.2.2.1⟩)),(1,.row Z2 v.2.2.2.2.2.1),(2,.var Z5 (.val ⟨Z5,v.2.2.2.2.2.2⟩))],k:=[],b:=4096 }
def hlayout_together_0 (mk:(α:Type)→Nat→α→List α) (self0:Y9×Y5×Int×Int×Y4×Y2×Y4→Option (Y2×Y4)) (v:Y9×Y5×Int×Int×Y4×Y2×Y4):Option (Y2×Y4):=
 (bif (decide (v.2.2.2.1 < v.2.2.1)) then ((getI v.2.1 v.2.2.2.1).bind fun x3=>((getI v.1 x3.2.1).bind fun x4=>((clayout_multiple (v.2.2.2.2.2.2.1,x4.2.1)).bind fun x5=>(bif (decide (0≤v.2.2.2.1)&&decide (v.2.2.2.1 < (List.length v.2.2.2.2.2.1:Int))) then (let x6:Y2:=(List.set v.2.2.2.2.2.1 (Int.toNat v.2.2.2.1) x5);(bif (decide (0≤v.2.2.2.1)&&decide (v.2.2.2.1 < (List.length x6:Int))) then ((nth x6 (Int.toNat v.2.2.2.1)).bind fun x7=>(let x8:Int:=(IntKind.i64.wrap (x7+x4.1));(let x9:Int:=(if x4.2.1 > (x8,v.2.2.2.2.2.2.2).2.1 then x4.2.1 else (x8,v.2.2.2.2.2.2.2).2.1);(let x10:Y4:=((x8,v.2.2.2.2.2.2.2).1,(x9,(x8,v.2.2.2.2.2.2.2).2.2));(let x11:Int:=(IntKind.i64.wrap (v.2.2.2.1+(1:Int)));(self0 (v.1,v.2.1,v.2.2.1,x11,v.2.2.2.2.1,x6,x10))))))) else none)) else none)))) else ((clayout_multiple (v.2.2.2.2.2.2.1,v.2.2.2.2.2.2.2.1)).bind fun x12=>(some (v.2.2.2.2.2.1,(x12,v.2.2.2.2.2.2.2)))))
def glayout_together_0 (mk:(α:Type)→Nat→α→List α) (N:Nat) (self0:Y9×Y5×Int×Int×Y4×Y2×Y4→Option (Y2×Y4)) (v:Y9×Y5×Int×Int×Y4×Y2×Y4):Option (Y2×Y4):=hlayout_together_0 mk self0 v
theorem kz43_0 (mk:(α:Type)→Nat→α→List α) (N:Nat) (s0:St→Option (Y2×Y4)) (v):(floc (Ez43 mk) Tz43 6 N Tryd.f99 [Z9,Z5] [true,false] [] 0 nowhereR) s0 (ez43_0 v)=hlayout_together_0 mk (fun v=>s0 (ez43_0 v)) v:=by kernel_rfl
theorem bz43_0 (mk:(α:Type)→Nat→α→List α) (N:Nat) (s0:St→Option (Y2×Y4)) (v):(floc (Ez43 mk) Tz43 6 N Tryd.f99 [Z9,Z5] [true,false] [] 0 nowhereR) s0 (ez43_0 v)=glayout_together_0 mk N (fun v=>s0 (ez43_0 v)) v:=kz43_0 mk N s0 v
def nlayout_together (mk:(α:Type)→Nat→α→List α) (loop0:Y9×Y5×Int×Int×Y4×Y2×Y4→Option (Y2×Y4)) (x:Y9×Y5):Option (Y2×Y4):=
 (bif (decide (0≤(List.length x.2:Int))&&(decide ((List.length x.2:Int)≤(List.length x.2:Int))&&(decide ((List.length x.2:Int)≤68719476736)&&true))) then (let x1:Y2:=(mk Int (Int.toNat (List.length x.2:Int)) (0:Int));(let x2:Y4:=((0:Int),((1:Int),()));(loop0 (x.1,x.2,(List.length x.2:Int),(0:Int),((0:Int),((0:Int),())),x1,x2)))) else none)
def mlayout_together (mk:(α:Type)→Nat→α→List α) (N:Nat) (x:Y9×Y5):Option (Y2×Y4):=nlayout_together mk (iterV (glayout_together_0 mk N) N) x
theorem jz43 (mk:(α:Type)→Nat→α→List α) (N:Nat) (x:Y9×Y5):rise (Ez43 mk) Tz43 6 N Tryd.f99 [(.slice Z5),Z6] [Z9,Z5] [true,false] x=nlayout_together mk (fun v=>iterR (floc (Ez43 mk) Tz43 6 N Tryd.f99 [Z9,Z5] [true,false] [] 0 nowhereR) N (ez43_0 v)) x:=by kernel_rfl
theorem lz43 (mk:(α:Type)→Nat→α→List α) (N:Nat) (x:Y9×Y5):rise (Ez43 mk) Tz43 6 N Tryd.f99 [(.slice Z5),Z6] [Z9,Z5] [true,false] x=mlayout_together mk N x:=(jz43 mk N x).trans (by rw [funext (iterR_eq ez43_0 (bz43_0 mk N) N)];rfl)
def clayout_together (x:Y9×Y5):Option (Y2×Y4):=mlayout_together (fun _=>List.replicate) big x
def Gz43:Fn2:=⟨[(.slice Z5),Z6],[Z9,Z5],[true,false],fun x=>clayout_together x⟩
theorem Lz43:Rises Tryd.prog 99 Gz43:=rises_of (E:=Ez43 (fun _=>List.replicate)) ⟨tabOk,(fsCons2 Lz42 fsNil2),fun _ _ _=>rfl,mixed,inlNil,rcsNil,owsNil⟩ Tryd.func99 rfl (by decide) (by kernel_rfl) (by kernel_rfl) (by kernel_rfl) (by kernel_rfl) (fun x r _ h=>⟨Tz43,6,big,(lz43 (fun _=>List.replicate) big x).trans h⟩)
def Tz44:LT:={ live:=[],keep:=[] }
noncomputable def Ez44:Env2:={ tab:=tab,fs:=[(99,Gz43)],inl:=[] }
def nlayout_extentOf (x:Y6×Y9):Option (Y4):=
 (bif (x.1.1==(2:Int)) then (bif (x.1.1==(2:Int)) then (let x1:Y4:=((8:Int),((8:Int),()));(some x1)) else (bif (x.1.1==(3:Int)) then (let x2:Y4:=((16:Int),((8:Int),()));(some x2)) else (bif (x.1.1==(7:Int)) then (let x3:Y4:=((24:Int),((8:Int),()));(some x3)) else (bif (x.1.1==(6:Int)) then ((getI x.2 x.1.2.1).bind fun x4=>(let x5:Int:=(IntKind.i64.wrap (x.1.2.2.1 * x4.1));(some (x5,(x4.2.1,()))))) else (bif (x.1.1==(5:Int)) then ((clayout_together (x.2,x.1.2.2.2.1)).bind fun x6=>(some x6.2)) else (let x7:Y4:=((1:Int),((1:Int),()));(some x7))))))) else (bif (x.1.1==(4:Int)) then (let x8:Y4:=((8:Int),((8:Int),()));(some x8)) else (bif (x.1.1==(3:Int)) then (let x9:Y4:=((16:Int),((8:Int),()));(some x9)) else (bif (x.1.1==(7:Int)) then (let x10:Y4:=((24:Int),((8:Int),()));(some x10)) else (bif (x.1.1==(6:Int)) then ((getI x.2 x.1.2.1).bind fun x11=>(let x12:Int:=(IntKind.i64.wrap (x.1.2.2.1 * x11.1));(some (x12,(x11.2.1,()))))) else (bif (x.1.1==(5:Int)) then ((clayout_together (x.2,x.1.2.2.2.1)).bind fun x13=>(some x13.2)) else (let x14:Y4:=((1:Int),((1:Int),()));(some x14))))))))
def mlayout_extentOf (N:Nat) (x:Y6×Y9):Option (Y4):=nlayout_extentOf x
theorem jz44 (N:Nat) (x:Y6×Y9):rise (Ez44) Tz44 6 N Tryd.f91 [Z1,(.slice Z5)] [Z5] [false] x=nlayout_extentOf x:=by kernel_rfl
theorem lz44 (N:Nat) (x:Y6×Y9):rise (Ez44) Tz44 6 N Tryd.f91 [Z1,(.slice Z5)] [Z5] [false] x=mlayout_extentOf N x:=(jz44 N x).trans rfl
def clayout_extentOf (x:Y6×Y9):Option (Y4):=mlayout_extentOf big x
def Gz44:Fn2:=⟨[Z1,(.slice Z5)],[Z5],[false],fun x=>clayout_extentOf x⟩
theorem Lz44:Rises Tryd.prog 91 Gz44:=rises_of (E:=Ez44) ⟨tabOk,(fsCons2 Lz43 fsNil2),fun _ _ _=>rfl,mixed,inlNil,rcsNil,owsNil⟩ Tryd.func91 rfl (by decide) (by kernel_rfl) (by kernel_rfl) (by kernel_rfl) (by kernel_rfl) (fun x r _ h=>⟨Tz44,6,big,(lz44 big x).trans h⟩)
def Tz45:LT:={ live:=[(3,[3,6,7,8])],keep:=[] }
noncomputable def Ez45:Env2:={ tab:=tab,fs:=[(91,Gz44)],inl:=[] }
noncomputable def ez45_0 (v:Y1×Int×Int×Y9):St:={ s:=[(3,(.row 0)),(6,(.val ⟨Z10,v.1⟩)),(7,(.val ⟨Z2,v.2.1⟩)),(8,(.val ⟨Z2,v.2.2.1⟩))],l:=[(0,.row Z5 v.2.2.2)],k:=[],b:=4096 }
def hlayout_extents_0 (self0:Y1×Int×Int×Y9→Option (Y9)) (v:Y1×Int×Int×Y9):Option (Y9):=
 (bif (decide (v.2.2.1 < v.2.1)) then ((getI v.1 v.2.2.1).bind fun x1=>((clayout_extentOf (x1,v.2.2.2)).bind fun x2=>(let x3:Y9:=([x2]:Y9);(bif (Nat.ble 1 2&&Nat.ble (List.length v.2.2.2+List.length x3) lim) then (let x4:Int:=(IntKind.i64.wrap (v.2.2.1+(1:Int)));(self0 (v.1,v.2.1,x4,(List.append v.2.2.2 x3)))) else none)))) else (some v.2.2.2))
def glayout_extents_0 (N:Nat) (self0:Y1×Int×Int×Y9→Option (Y9)) (v:Y1×Int×Int×Y9):Option (Y9):=hlayout_extents_0 self0 v
theorem kz45_0 (N:Nat) (s0:St→Option (Y9)) (v):(floc (Ez45) Tz45 6 N Tryd.f77 [(.slice Z5)] [true] [] 0 nowhereR) s0 (ez45_0 v)=hlayout_extents_0 (fun v=>s0 (ez45_0 v)) v:=by kernel_rfl
theorem bz45_0 (N:Nat) (s0:St→Option (Y9)) (v):(floc (Ez45) Tz45 6 N Tryd.f77 [(.slice Z5)] [true] [] 0 nowhereR) s0 (ez45_0 v)=glayout_extents_0 N (fun v=>s0 (ez45_0 v)) v:=kz45_0 N s0 v
def nlayout_extents (loop0:Y1×Int×Int×Y9→Option (Y9)) (x:Y1):Option (Y9):=
 (loop0 (x,(List.length x:Int),(0:Int),([]:List Y4)))
def mlayout_extents (N:Nat) (x:Y1):Option (Y9):=nlayout_extents (iterV (glayout_extents_0 N) N) x
theorem jz45 (N:Nat) (x:Y1):rise (Ez45) Tz45 6 N Tryd.f77 [Z10] [(.slice Z5)] [true] x=nlayout_extents (fun v=>iterR (floc (Ez45) Tz45 6 N Tryd.f77 [(.slice Z5)] [true] [] 0 nowhereR) N (ez45_0 v)) x:=by kernel_rfl
theorem lz45 (N:Nat) (x:Y1):rise (Ez45) Tz45 6 N Tryd.f77 [Z10] [(.slice Z5)] [true] x=mlayout_extents N x:=(jz45 N x).trans (by rw [funext (iterR_eq ez45_0 (bz45_0 N) N)];rfl)
def clayout_extents (x:Y1):Option (Y9):=mlayout_extents big x
def Gz45:Fn2:=⟨[Z10],[(.slice Z5)],[true],fun x=>clayout_extents x⟩
theorem Lz45:Rises Tryd.prog 77 Gz45:=rises_of (E:=Ez45) ⟨tabOk,(fsCons2 Lz44 fsNil2),fun _ _ _=>rfl,mixed,inlNil,rcsNil,owsNil⟩ Tryd.func77 rfl (by decide) (by kernel_rfl) (by kernel_rfl) (by kernel_rfl) (by kernel_rfl) (fun x r _ h=>⟨Tz45,6,big,(lz45 big x).trans h⟩)
def Tz46:LT:={ live:=[],keep:=[] }
noncomputable def Ez46:Env2:={ tab:=tab,fs:=[(75,Gz40),(76,Gz41),(77,Gz45)],inl:=[] }
def nlayout_measured (x:Y1×Int):Option (Y9×Int):=
 ((ckinds_Check x.1).bind fun x1=>(bif (x1 != (0:Int)) then (some (([]:List Y4),x1)) else ((clayout_isIndex (x.2,(List.length x.1:Int))).bind fun x2=>(bif (!x2) then (some (([]:List Y4),(2:Int))) else ((clayout_extents x.1).bind fun x3=>(bif (decide (0≤x.2)&&decide (x.2 < (List.length x3:Int))) then ((nth x3 (Int.toNat x.2)).bind fun x4=>(bif (decide (x4.1 > (256:Int))) then (some (([]:List Y4),(16:Int))) else (some (x3,(0:Int))))) else none))))))
def mlayout_measured (N:Nat) (x:Y1×Int):Option (Y9×Int):=nlayout_measured x
theorem jz46 (N:Nat) (x:Y1×Int):rise (Ez46) Tz46 6 N Tryd.f66 [Z10,Z2] [(.slice Z5),Z2] [true,false] x=nlayout_measured x:=by kernel_rfl
theorem lz46 (N:Nat) (x:Y1×Int):rise (Ez46) Tz46 6 N Tryd.f66 [Z10,Z2] [(.slice Z5),Z2] [true,false] x=mlayout_measured N x:=(jz46 N x).trans rfl
def clayout_measured (x:Y1×Int):Option (Y9×Int):=mlayout_measured big x
def Gz46:Fn2:=⟨[Z10,Z2],[(.slice Z5),Z2],[true,false],fun x=>clayout_measured x⟩
theorem Lz46:Rises Tryd.prog 66 Gz46:=rises_of (E:=Ez46) ⟨tabOk,(fsCons2 Lz40 (fsCons2 Lz41 (fsCons2 Lz45 fsNil2))),fun _ _ _=>rfl,mixed,inlNil,rcsNil,owsNil⟩ Tryd.func66 rfl (by decide) (by kernel_rfl) (by kernel_rfl) (by kernel_rfl) (by kernel_rfl) (fun x r _ h=>⟨Tz46,6,big,(lz46 big x).trans h⟩)
def Tz47:LT:={ live:=[],keep:=[] }
noncomputable def Ez47:Env2:={ tab:=tab,fs:=[(66,Gz46)],inl:=[] }
def nlayout_Size (x:Y1×Int):Option (Int×Int×Int):=
 ((clayout_measured (x.1,x.2)).bind fun x1=>(bif (x1.2 != (0:Int)) then (some ((0:Int),(0:Int),x1.2)) else (bif (decide (0≤x.2)&&decide (x.2 < (List.length x1.1:Int))) then ((nth x1.1 (Int.toNat x.2)).bind fun x2=>(bif (decide (0≤x.2)&&decide (x.2 < (List.length x1.1:Int))) then ((nth x1.1 (Int.toNat x.2)).bind fun x3=>(some (x2.1,x3.2.1,(0:Int)))) else none)) else none)))
def mlayout_Size (N:Nat) (x:Y1×Int):Option (Int×Int×Int):=nlayout_Size x
theorem jz47 (N:Nat) (x:Y1×Int):rise (Ez47) Tz47 6 N Tryd.f54 [Z10,Z2] [Z2,Z2,Z2] [false,false,false] x=nlayout_Size x:=by kernel_rfl
theorem lz47 (N:Nat) (x:Y1×Int):rise (Ez47) Tz47 6 N Tryd.f54 [Z10,Z2] [Z2,Z2,Z2] [false,false,false] x=mlayout_Size N x:=(jz47 N x).trans rfl
def clayout_Size (x:Y1×Int):Option (Int×Int×Int):=mlayout_Size big x
def Gz47:Fn2:=⟨[Z10,Z2],[Z2,Z2,Z2],[false,false,false],fun x=>clayout_Size x⟩
theorem Lz47:Rises Tryd.prog 54 Gz47:=rises_of (E:=Ez47) ⟨tabOk,(fsCons2 Lz46 fsNil2),fun _ _ _=>rfl,mixed,inlNil,rcsNil,owsNil⟩ Tryd.func54 rfl (by decide) (by kernel_rfl) (by kernel_rfl) (by kernel_rfl) (by kernel_rfl) (fun x r _ h=>⟨Tz47,6,big,(lz47 big x).trans h⟩)
def Tz48:LT:={ live:=[(2,[0,8,9])],keep:=[] }
noncomputable def Ez48:Env2:={ tab:=tab,fs:=[(54,Gz47)],inl:=[] }
noncomputable def ez48_0 (v:Y1×Int×Int):St:={ s:=[(0,(.val ⟨Z10,v.1⟩)),(8,(.val ⟨Z2,v.2.1⟩)),(9,(.val ⟨Z2,v.2.2⟩))],l:=[],k:=[],b:=4096 }
def himage_areTypes_0 (self0:Y1×Int×Int→Option (Bool)) (v:Y1×Int×Int):Option (Bool):=
 (bif (decide (v.2.2 < v.2.1)) then ((clayout_Size (v.1,v.2.2)).bind fun x1=>(bif (x1.2.2 != (0:Int)) then (some false) else (let x2:Int:=(IntKind.i64.wrap (v.2.2+(1:Int)));(self0 (v.1,v.2.1,x2))))) else (some true))
def gimage_areTypes_0 (N:Nat) (self0:Y1×Int×Int→Option (Bool)) (v:Y1×Int×Int):Option (Bool):=himage_areTypes_0 self0 v
theorem kz48_0 (N:Nat) (s0:St→Option (Bool)) (v):(floc (Ez48) Tz48 6 N Tryd.f41 [.bool] [false] [] 0 nowhereR) s0 (ez48_0 v)=himage_areTypes_0 (fun v=>s0 (ez48_0 v)) v:=by kernel_rfl
theorem bz48_0 (N:Nat) (s0:St→Option (Bool)) (v):(floc (Ez48) Tz48 6 N Tryd.f41 [.bool] [false] [] 0 nowhereR) s0 (ez48_0 v)=gimage_areTypes_0 N (fun v=>s0 (ez48_0 v)) v:=kz48_0 N s0 v
def nimage_areTypes (loop0:Y1×Int×Int→Option (Bool)) (x:Y1):Option (Bool):=
 (loop0 (x,(List.length x:Int),(0:Int)))
def mimage_areTypes (N:Nat) (x:Y1):Option (Bool):=nimage_areTypes (iterV (gimage_areTypes_0 N) N) x
theorem jz48 (N:Nat) (x:Y1):rise (Ez48) Tz48 6 N Tryd.f41 [Z10] [.bool] [false] x=nimage_areTypes (fun v=>iterR (floc (Ez48) Tz48 6 N Tryd.f41 [.bool] [false] [] 0 nowhereR) N (ez48_0 v)) x:=by kernel_rfl
theorem lz48 (N:Nat) (x:Y1):rise (Ez48) Tz48 6 N Tryd.f41 [Z10] [.bool] [false] x=mimage_areTypes N x:=(jz48 N x).trans (by rw [funext (iterR_eq ez48_0 (bz48_0 N) N)];rfl)
def cimage_areTypes (x:Y1):Option (Bool):=mimage_areTypes big x
def Gz48:Fn2:=⟨[Z10],[.bool],[false],fun x=>cimage_areTypes x⟩
theorem Lz48:Rises Tryd.prog 41 Gz48:=rises_of (E:=Ez48) ⟨tabOk,(fsCons2 Lz47 fsNil2),fun _ _ _=>rfl,mixed,inlNil,rcsNil,owsNil⟩ Tryd.func41 rfl (by decide) (by kernel_rfl) (by kernel_rfl) (by kernel_rfl) (by kernel_rfl) (fun x r _ h=>⟨Tz48,6,big,(lz48 big x).trans h⟩)
def Tz49:LT:={ live:=[(4,[8,9,10])],keep:=[] }
noncomputable def Ez49:Env2:={ tab:=tab,fs:=[],inl:=[] }
noncomputable def ez49_0 (v:Y8×Int×Int):St:={ s:=[(8,(.val ⟨(.slice .str),v.1⟩)),(9,(.val ⟨Z2,v.2.1⟩)),(10,(.val ⟨Z2,v.2.2⟩))],l:=[],k:=[],b:=4096 }
def himage_areTexts_0 (self0:Y8×Int×Int→Option (Bool)) (v:Y8×Int×Int):Option (Bool):=
 (bif (decide (v.2.2 < v.2.1)) then ((getI v.1 v.2.2).bind fun x1=>(bif (decide ((List.length x1:Int) > (64:Int))) then (some false) else (let x2:Int:=(IntKind.i64.wrap (v.2.2+(1:Int)));(self0 (v.1,v.2.1,x2))))) else (some true))
def gimage_areTexts_0 (N:Nat) (self0:Y8×Int×Int→Option (Bool)) (v:Y8×Int×Int):Option (Bool):=himage_areTexts_0 self0 v
theorem kz49_0 (N:Nat) (s0:St→Option (Bool)) (v):(floc (Ez49) Tz49 6 N Tryd.f42 [.bool] [false] [] 0 nowhereR) s0 (ez49_0 v)=himage_areTexts_0 (fun v=>s0 (ez49_0 v)) v:=by kernel_rfl
theorem bz49_0 (N:Nat) (s0:St→Option (Bool)) (v):(floc (Ez49) Tz49 6 N Tryd.f42 [.bool] [false] [] 0 nowhereR) s0 (ez49_0 v)=gimage_areTexts_0 N (fun v=>s0 (ez49_0 v)) v:=kz49_0 N s0 v
def nimage_areTexts (loop0:Y8×Int×Int→Option (Bool)) (x:Y8):Option (Bool):=
 (bif (decide ((List.length x:Int) > (32:Int))) then (some false) else (loop0 (x,(List.length x:Int),(0:Int))))
def mimage_areTexts (N:Nat) (x:Y8):Option (Bool):=nimage_areTexts (iterV (gimage_areTexts_0 N) N) x
theorem jz49 (N:Nat) (x:Y8):rise (Ez49) Tz49 6 N Tryd.f42 [(.slice .str)] [.bool] [false] x=nimage_areTexts (fun v=>iterR (floc (Ez49) Tz49 6 N Tryd.f42 [.bool] [false] [] 0 nowhereR) N (ez49_0 v)) x:=by kernel_rfl
theorem lz49 (N:Nat) (x:Y8):rise (Ez49) Tz49 6 N Tryd.f42 [(.slice .str)] [.bool] [false] x=mimage_areTexts N x:=(jz49 N x).trans (by rw [funext (iterR_eq ez49_0 (bz49_0 N) N)];rfl)
def cimage_areTexts (x:Y8):Option (Bool):=mimage_areTexts big x
def Gz49:Fn2:=⟨[(.slice .str)],[.bool],[false],fun x=>cimage_areTexts x⟩
theorem Lz49:Rises Tryd.prog 42 Gz49:=rises_of (E:=Ez49) ⟨tabOk,fsNil2,fun _ _ _=>rfl,mixed,inlNil,rcsNil,owsNil⟩ Tryd.func42 rfl (by decide) (by kernel_rfl) (by kernel_rfl) (by kernel_rfl) (by kernel_rfl) (fun x r _ h=>⟨Tz49,6,big,(lz49 big x).trans h⟩)
def Tz50:LT:={ live:=[],keep:=[] }
noncomputable def Ez50:Env2:={ tab:=tab,fs:=[],inl:=[] }
def nimage_isIndex (x:Int×Int):Option (Bool):=
 (bif (decide (x.1≥(0:Int))) then (some (decide (x.1 < x.2))) else (some false))
def mimage_isIndex (N:Nat) (x:Int×Int):Option (Bool):=nimage_isIndex x
theorem jz50 (N:Nat) (x:Int×Int):rise (Ez50) Tz50 6 N Tryd.f17 [Z2,Z2] [.bool] [false] x=nimage_isIndex x:=by kernel_rfl
theorem lz50 (N:Nat) (x:Int×Int):rise (Ez50) Tz50 6 N Tryd.f17 [Z2,Z2] [.bool] [false] x=mimage_isIndex N x:=(jz50 N x).trans rfl
def cimage_isIndex (x:Int×Int):Option (Bool):=mimage_isIndex big x
def Gz50:Fn2:=⟨[Z2,Z2],[.bool],[false],fun x=>cimage_isIndex x⟩
theorem Lz50:Rises Tryd.prog 17 Gz50:=rises_of (E:=Ez50) ⟨tabOk,fsNil2,fun _ _ _=>rfl,mixed,inlNil,rcsNil,owsNil⟩ Tryd.func17 rfl (by decide) (by kernel_rfl) (by kernel_rfl) (by kernel_rfl) (by kernel_rfl) (fun x r _ h=>⟨Tz50,6,big,(lz50 big x).trans h⟩)
def Tz51:LT:={ live:=[(3,[1,5,10,11,12])],keep:=[] }
def Tz52:LT:={ live:=[],keep:=[] }
noncomputable def Ez52:Env2:={ tab:=tab,fs:=[],inl:=[] }
def nimage_areSlots_1 (x:(Y2×(Int×Unit))):Option (Y2):=
 (some x.1)
def mimage_areSlots_1 (N:Nat) (x:(Y2×(Int×Unit))):Option (Y2):=nimage_areSlots_1 x
theorem jz52 (N:Nat) (x:(Y2×(Int×Unit))):rise (Ez52) Tz52 6 N Tryd.f79 [(.pair .str (.pair Z2 .unit))] [.str] [false] x=nimage_areSlots_1 x:=by kernel_rfl
theorem lz52 (N:Nat) (x:(Y2×(Int×Unit))):rise (Ez52) Tz52 6 N Tryd.f79 [(.pair .str (.pair Z2 .unit))] [.str] [false] x=mimage_areSlots_1 N x:=(jz52 N x).trans rfl
def cimage_areSlots_1 (x:(Y2×(Int×Unit))):Option (Y2):=mimage_areSlots_1 big x
def Gz52:Fn2:=⟨[(.pair .str (.pair Z2 .unit))],[.str],[false],fun x=>cimage_areSlots_1 x⟩
theorem Lz52:Rises Tryd.prog 79 Gz52:=rises_of (E:=Ez52) ⟨tabOk,fsNil2,fun _ _ _=>rfl,mixed,inlNil,rcsNil,owsNil⟩ Tryd.func79 rfl (by decide) (by kernel_rfl) (by kernel_rfl) (by kernel_rfl) (by kernel_rfl) (fun x r _ h=>⟨Tz52,6,big,(lz52 big x).trans h⟩)
def Tz53:LT:={ live:=[(4,[0,1,10,11,12])],keep:=[(23,[])] }
noncomputable def Ez53:Env2:={ tab:=tab,fs:=[(17,Gz50),(70,Gz33),(79,Gz52)],inl:=[(78,Tryd.f78,Tz51)] }
noncomputable def ez52 (v:Y5×Int×Int×(List (Y2×Bool))):St:={ s:=[(1,(.clo 79 .unit)),(5,(.mp 0)),(10,(.val ⟨Z6,v.1⟩)),(11,(.val ⟨Z2,v.2.1⟩)),(12,(.val ⟨Z2,v.2.2.1⟩))],l:=[(0,.mp .str .bool v.2.2.2)],k:=[(4096,[])],b:=16875520 }
noncomputable def ez53_0 (v:Y5×Int×Y5×Int×Int):St:={ s:=[(0,(.val ⟨Z6,v.1⟩)),(1,(.val ⟨Z2,v.2.1⟩)),(10,(.val ⟨Z6,v.2.2.1⟩)),(11,(.val ⟨Z2,v.2.2.2.1⟩)),(12,(.val ⟨Z2,v.2.2.2.2⟩))],l:=[],k:=[],b:=4096 }
def himage_areSlots_1 (self0:Y5×Int×Y5×Int×Int→Option (Bool)) (self1:Y5×Int×Int×(List (Y2×Bool))→Option (Bool)) (v:Y5×Int×Int×(List (Y2×Bool))):Option (Bool):=
 (bif (decide (v.2.2.1 < v.2.1)) then ((getI v.1 v.2.2.1).bind fun x4=>((cimage_areSlots_1 x4).bind fun x5=>((ckinds_Named x5).bind fun x6=>(bif (!x6) then (some false) else (bif (@atK .str .bool x5 false v.2.2.2).1 then (some false) else (let x7:(List (Y2×Bool)):=(@putK .str .bool x5 true v.2.2.2);(let x8:Int:=(IntKind.i64.wrap (v.2.2.1+(1:Int)));(self1 (v.1,v.2.1,x8,x7))))))))) else (some true))
def gimage_areSlots_1 (N:Nat) (self0:Y5×Int×Y5×Int×Int→Option (Bool)) (self1:Y5×Int×Int×(List (Y2×Bool))→Option (Bool)) (v:Y5×Int×Int×(List (Y2×Bool))):Option (Bool):=himage_areSlots_1 self0 self1 v
theorem kz52 (N:Nat) (s0:St→Option (Bool)) (s1:St→Option (Bool)) (v):(floc (Ez53) Tz53 6 N Tryd.f67 [.bool] [false] [.call 9 1 78] 0 nowhereR) s1 (ez52 v)=himage_areSlots_1 (fun v=>s0 (ez53_0 v)) (fun v=>s1 (ez52 v)) v:=by kernel_rfl
theorem bz52 (N:Nat) (s0:St→Option (Bool)) (s1:St→Option (Bool)) (v):(floc (Ez53) Tz53 6 N Tryd.f67 [.bool] [false] [.call 9 1 78] 0 nowhereR) s1 (ez52 v)=gimage_areSlots_1 N (fun v=>s0 (ez53_0 v)) (fun v=>s1 (ez52 v)) v:=kz52 N s0 s1 v
def himage_areSlots_0 (loop1:Y5×Int×Int×(List (Y2×Bool))→Option (Bool)) (self0:Y5×Int×Y5×Int×Int→Option (Bool)) (v:Y5×Int×Y5×Int×Int):Option (Bool):=
 (bif (decide (v.2.2.2.2 < v.2.2.2.1)) then ((getI v.2.2.1 v.2.2.2.2).bind fun x1=>((cimage_isIndex (x1.2.1,v.2.1)).bind fun x2=>(bif (!x2) then (some false) else (let x3:Int:=(IntKind.i64.wrap (v.2.2.2.2+(1:Int)));(self0 (v.1,v.2.1,v.2.2.1,v.2.2.2.1,x3)))))) else (loop1 (v.1,(List.length v.1:Int),(0:Int),([]:List (Y2×Bool)))))
def gimage_areSlots_0 (N:Nat) (self0:Y5×Int×Y5×Int×Int→Option (Bool)) (v:Y5×Int×Y5×Int×Int):Option (Bool):=himage_areSlots_0 (iterV (gimage_areSlots_1 N self0) N) self0 v
theorem kz53_0 (N:Nat) (s0:St→Option (Bool)) (v):(floc (Ez53) Tz53 6 N Tryd.f67 [.bool] [false] [] 0 nowhereR) s0 (ez53_0 v)=himage_areSlots_0 (fun v=>iterR (floc (Ez53) Tz53 6 N Tryd.f67 [.bool] [false] [.call 9 1 78] 0 nowhereR) N (ez52 v)) (fun v=>s0 (ez53_0 v)) v:=by kernel_rfl
theorem bz53_0 (N:Nat) (s0:St→Option (Bool)) (v):(floc (Ez53) Tz53 6 N Tryd.f67 [.bool] [false] [] 0 nowhereR) s0 (ez53_0 v)=gimage_areSlots_0 N (fun v=>s0 (ez53_0 v)) v:=(kz53_0 N s0 v).trans (by rw [funext (iterR_eq ez52 (bz52 N s0) N)];rfl)
def nimage_areSlots (loop0:Y5×Int×Y5×Int×Int→Option (Bool)) (x:Y5×Int):Option (Bool):=
 (bif (decide ((List.length x.1:Int) > (16:Int))) then (some false) else (loop0 (x.1,x.2,x.1,(List.length x.1:Int),(0:Int))))
def mimage_areSlots (N:Nat) (x:Y5×Int):Option (Bool):=nimage_areSlots (iterV (gimage_areSlots_0 N) N) x
theorem jz53 (N:Nat) (x:Y5×Int):rise (Ez53) Tz53 6 N Tryd.f67 [Z6,Z2] [.bool] [false] x=nimage_areSlots (fun v=>iterR (floc (Ez53) Tz53 6 N Tryd.f67 [.bool] [false] [] 0 nowhereR) N (ez53_0 v)) x:=by kernel_rfl
theorem lz53 (N:Nat) (x:Y5×Int):rise (Ez53) Tz53 6 N Tryd.f67 [Z6,Z2] [.bool] [false] x=mimage_areSlots N x:=(jz53 N x).trans (by rw [funext (iterR_eq ez53_0 (bz53_0 N) N)];rfl)
def cimage_areSlots (x:Y5×Int):Option (Bool):=mimage_areSlots big x
def Gz53:Fn2:=⟨[Z6,Z2],[.bool],[false],fun x=>cimage_areSlots x⟩
theorem Lz53:Rises Tryd.prog 67 Gz53:=rises_of (E:=Ez53) ⟨tabOk,(fsCons2 Lz50 (fsCons2 Lz33 (fsCons2 Lz52 fsNil2))),fun _ _ _=>rfl,mixed,(inlCons (inlB_of Tryd.func78 rfl rfl (by kernel_rfl)) inlNil),rcsNil,owsNil⟩ Tryd.func67 rfl (by decide) (by kernel_rfl) (by kernel_rfl) (by kernel_rfl) (by kernel_rfl) (fun x r _ h=>⟨Tz53,6,big,(lz53 big x).trans h⟩)
def Tz54:LT:={ live:=[],keep:=[] }
noncomputable def Ez54:Env2:={ tab:=tab,fs:=[],inl:=[] }
def nops_isOperation (x:Int):Option (Bool):=
 (bif (decide (x≥(1:Int))) then (some (decide (x≤(34:Int)))) else (some false))
def mops_isOperation (N:Nat) (x:Int):Option (Bool):=nops_isOperation x
theorem jz54 (N:Nat) (x:Int):rise (Ez54) Tz54 6 N Tryd.f92 [Z4] [.bool] [false] x=nops_isOperation x:=by kernel_rfl
theorem lz54 (N:Nat) (x:Int):rise (Ez54) Tz54 6 N Tryd.f92 [Z4] [.bool] [false] x=mops_isOperation N x:=(jz54 N x).trans rfl
def cops_isOperation (x:Int):Option (Bool):=mops_isOperation big x
def Gz54:Fn2:=⟨[Z4],[.bool],[false],fun x=>cops_isOperation x⟩
theorem Lz54:Rises Tryd.prog 92 Gz54:=rises_of (E:=Ez54) ⟨tabOk,fsNil2,fun _ _ _=>rfl,mixed,inlNil,rcsNil,owsNil⟩ Tryd.func92 rfl (by decide) (by kernel_rfl) (by kernel_rfl) (by kernel_rfl) (by kernel_rfl) (fun x r _ h=>⟨Tz54,6,big,(lz54 big x).trans h⟩)
def Tz55:LT:={ live:=[],keep:=[] }
noncomputable def Ez55:Env2:={ tab:=tab,fs:=[],inl:=[] }
def nops_operands (x:Y7):Option (Y2):=
 (let x1:Y2:=[x.2.1,x.2.2.1,x.2.2.2.1];(some x1))
def mops_operands (N:Nat) (x:Y7):Option (Y2):=nops_operands x
theorem jz55 (N:Nat) (x:Y7):rise (Ez55) Tz55 6 N Tryd.f93 [Z11] [(.arr 3 Z2)] [false] x=nops_operands x:=by kernel_rfl
theorem lz55 (N:Nat) (x:Y7):rise (Ez55) Tz55 6 N Tryd.f93 [Z11] [(.arr 3 Z2)] [false] x=mops_operands N x:=(jz55 N x).trans rfl
def cops_operands (x:Y7):Option (Y2):=mops_operands big x
def Gz55:Fn2:=⟨[Z11],[(.arr 3 Z2)],[false],fun x=>cops_operands x⟩
theorem Lz55:Rises Tryd.prog 93 Gz55:=rises_of (E:=Ez55) ⟨tabOk,fsNil2,fun _ _ _=>rfl,mixed,inlNil,rcsNil,owsNil⟩ Tryd.func93 rfl (by decide) (by kernel_rfl) (by kernel_rfl) (by kernel_rfl) (by kernel_rfl) (fun x r _ h=>⟨Tz55,6,big,(lz55 big x).trans h⟩)
def Tz56:LT:={ live:=[],keep:=[] }
noncomputable def Ez56:Env2:={ tab:=tab,fs:=[],inl:=[] }
def nops_isIndex (x:Int×Int):Option (Bool):=
 (bif (decide (x.1≥(0:Int))) then (some (decide (x.1 < x.2))) else (some false))
def mops_isIndex (N:Nat) (x:Int×Int):Option (Bool):=nops_isIndex x
theorem jz56 (N:Nat) (x:Int×Int):rise (Ez56) Tz56 6 N Tryd.f100 [Z2,Z2] [.bool] [false] x=nops_isIndex x:=by kernel_rfl
theorem lz56 (N:Nat) (x:Int×Int):rise (Ez56) Tz56 6 N Tryd.f100 [Z2,Z2] [.bool] [false] x=mops_isIndex N x:=(jz56 N x).trans rfl
def cops_isIndex (x:Int×Int):Option (Bool):=mops_isIndex big x
def Gz56:Fn2:=⟨[Z2,Z2],[.bool],[false],fun x=>cops_isIndex x⟩
theorem Lz56:Rises Tryd.prog 100 Gz56:=rises_of (E:=Ez56) ⟨tabOk,fsNil2,fun _ _ _=>rfl,mixed,inlNil,rcsNil,owsNil⟩ Tryd.func100 rfl (by decide) (by kernel_rfl) (by kernel_rfl) (by kernel_rfl) (by kernel_rfl) (fun x r _ h=>⟨Tz56,6,big,(lz56 big x).trans h⟩)
def Tz57:LT:={ live:=[],keep:=[] }
noncomputable def Ez57:Env2:={ tab:=tab,fs:=[(100,Gz56)],inl:=[] }
def nops_fits (x:Int×Int):Option (Bool):=
 (bif (x.1==(5:Int)) then (some true) else (bif (x.1==(3:Int)) then (bif (x.1==(3:Int)) then (bif (x.2==(-1:Int)) then (some true) else ((cops_isIndex (x.2,(16:Int))).bind fun x1=>(some x1))) else (bif (x.1==(1:Int)) then (bif (x.1==(1:Int)) then ((cops_isIndex (x.2,(16:Int))).bind fun x2=>(some x2)) else (bif (x.1==(6:Int)) then ((cops_isIndex (x.2,(2:Int))).bind fun x3=>(some x3)) else (bif (x.1==(7:Int)) then ((cops_isIndex (x.2,(32:Int))).bind fun x4=>(some x4)) else (bif (x.1==(8:Int)) then ((cops_isIndex (x.2,(8:Int))).bind fun x5=>(some x5)) else (bif (x.1==(9:Int)) then ((cops_isIndex (x.2,(32:Int))).bind fun x6=>(some x6)) else (bif (x.1==(10:Int)) then ((cops_isIndex (x.2,(200:Int))).bind fun x7=>(some x7)) else (some (x.2==(0:Int))))))))) else (bif (x.1==(2:Int)) then ((cops_isIndex (x.2,(16:Int))).bind fun x8=>(some x8)) else (bif (x.1==(6:Int)) then ((cops_isIndex (x.2,(2:Int))).bind fun x9=>(some x9)) else (bif (x.1==(7:Int)) then ((cops_isIndex (x.2,(32:Int))).bind fun x10=>(some x10)) else (bif (x.1==(8:Int)) then ((cops_isIndex (x.2,(8:Int))).bind fun x11=>(some x11)) else (bif (x.1==(9:Int)) then ((cops_isIndex (x.2,(32:Int))).bind fun x12=>(some x12)) else (bif (x.1==(10:Int)) then ((cops_isIndex (x.2,(200:Int))).bind fun x13=>(some x13)) else (some (x.2==(0:Int))))))))))) else (bif (x.1==(4:Int)) then (bif (x.2==(-1:Int)) then (some true) else ((cops_isIndex (x.2,(16:Int))).bind fun x14=>(some x14))) else (bif (x.1==(1:Int)) then (bif (x.1==(1:Int)) then ((cops_isIndex (x.2,(16:Int))).bind fun x15=>(some x15)) else (bif (x.1==(6:Int)) then ((cops_isIndex (x.2,(2:Int))).bind fun x16=>(some x16)) else (bif (x.1==(7:Int)) then ((cops_isIndex (x.2,(32:Int))).bind fun x17=>(some x17)) else (bif (x.1==(8:Int)) then ((cops_isIndex (x.2,(8:Int))).bind fun x18=>(some x18)) else (bif (x.1==(9:Int)) then ((cops_isIndex (x.2,(32:Int))).bind fun x19=>(some x19)) else (bif (x.1==(10:Int)) then ((cops_isIndex (x.2,(200:Int))).bind fun x20=>(some x20)) else (some (x.2==(0:Int))))))))) else (bif (x.1==(2:Int)) then ((cops_isIndex (x.2,(16:Int))).bind fun x21=>(some x21)) else (bif (x.1==(6:Int)) then ((cops_isIndex (x.2,(2:Int))).bind fun x22=>(some x22)) else (bif (x.1==(7:Int)) then ((cops_isIndex (x.2,(32:Int))).bind fun x23=>(some x23)) else (bif (x.1==(8:Int)) then ((cops_isIndex (x.2,(8:Int))).bind fun x24=>(some x24)) else (bif (x.1==(9:Int)) then ((cops_isIndex (x.2,(32:Int))).bind fun x25=>(some x25)) else (bif (x.1==(10:Int)) then ((cops_isIndex (x.2,(200:Int))).bind fun x26=>(some x26)) else (some (x.2==(0:Int)))))))))))))
def mops_fits (N:Nat) (x:Int×Int):Option (Bool):=nops_fits x
theorem jz57 (N:Nat) (x:Int×Int):rise (Ez57) Tz57 6 N Tryd.f94 [Z4,Z2] [.bool] [false] x=nops_fits x:=by kernel_rfl
theorem lz57 (N:Nat) (x:Int×Int):rise (Ez57) Tz57 6 N Tryd.f94 [Z4,Z2] [.bool] [false] x=mops_fits N x:=(jz57 N x).trans rfl
def cops_fits (x:Int×Int):Option (Bool):=mops_fits big x
def Gz57:Fn2:=⟨[Z4,Z2],[.bool],[false],fun x=>cops_fits x⟩
theorem Lz57:Rises Tryd.prog 94 Gz57:=rises_of (E:=Ez57) ⟨tabOk,(fsCons2 Lz56 fsNil2),fun _ _ _=>rfl,mixed,inlNil,rcsNil,owsNil⟩ Tryd.func94 rfl (by decide) (by kernel_rfl) (by kernel_rfl) (by kernel_rfl) (by kernel_rfl) (fun x r _ h=>⟨Tz57,6,big,(lz57 big x).trans h⟩)
def Tz58:LT:={ live:=[(5,[3,16,17])],keep:=[] }
noncomputable def Ez58:Env2:={ tab:=tab,fs:=[(92,Gz54),(93,Gz55),(94,Gz57)],inl:=[] }
noncomputable def ez58_0 (v:Y2×Int×Y2):St:={ s:=[(3,(.loc 0 [])),(16,(.val ⟨(.arr 3 Z4),v.1⟩)),(17,(.val ⟨Z2,v.2.1⟩))],l:=[(0,.var (.arr 3 Z2) (.val ⟨(.arr 3 Z2),v.2.2⟩))],k:=[],b:=4096 }
def hops_Check_0 (self0:Y2×Int×Y2→Option (Int)) (v:Y2×Int×Y2):Option (Int):=
 (bif (decide (v.2.1 < (3:Int))) then ((getI v.1 v.2.1).bind fun x4=>(bif (decide (0≤v.2.1)&&decide (v.2.1 < (3:Int))) then ((nth v.2.2 (Int.toNat v.2.1)).bind fun x5=>((cops_fits (x4,x5)).bind fun x6=>(bif (!x6) then (some (8:Int)) else (let x7:Int:=(IntKind.i64.wrap (v.2.1+(1:Int)));(self0 (v.1,x7,v.2.2)))))) else none)) else (some (0:Int)))
def gops_Check_0 (N:Nat) (self0:Y2×Int×Y2→Option (Int)) (v:Y2×Int×Y2):Option (Int):=hops_Check_0 self0 v
theorem kz58_0 (N:Nat) (s0:St→Option (Int)) (v):(floc (Ez58) Tz58 6 N Tryd.f80 [Z2] [false] [] 0 nowhereR) s0 (ez58_0 v)=hops_Check_0 (fun v=>s0 (ez58_0 v)) v:=by kernel_rfl
theorem bz58_0 (N:Nat) (s0:St→Option (Int)) (v):(floc (Ez58) Tz58 6 N Tryd.f80 [Z2] [false] [] 0 nowhereR) s0 (ez58_0 v)=gops_Check_0 N (fun v=>s0 (ez58_0 v)) v:=kz58_0 N s0 v
def nops_Check (loop0:Y2×Int×Y2→Option (Int)) (x:Y7):Option (Int):=
 ((cops_isOperation x.1).bind fun x1=>(bif (!x1) then (some (8:Int)) else ((cops_operands x).bind fun x2=>((getI gl0 x.1).bind fun x3=>(loop0 (x3.2.1,(0:Int),x2))))))
def mops_Check (N:Nat) (x:Y7):Option (Int):=nops_Check (iterV (gops_Check_0 N) N) x
theorem jz58 (N:Nat) (x:Y7):rise (Ez58) Tz58 6 N Tryd.f80 [Z11] [Z2] [false] x=nops_Check (fun v=>iterR (floc (Ez58) Tz58 6 N Tryd.f80 [Z2] [false] [] 0 nowhereR) N (ez58_0 v)) x:=by kernel_rfl
theorem lz58 (N:Nat) (x:Y7):rise (Ez58) Tz58 6 N Tryd.f80 [Z11] [Z2] [false] x=mops_Check N x:=(jz58 N x).trans (by rw [funext (iterR_eq ez58_0 (bz58_0 N) N)];rfl)
def cops_Check (x:Y7):Option (Int):=mops_Check big x
def Gz58:Fn2:=⟨[Z11],[Z2],[false],fun x=>cops_Check x⟩
theorem Lz58:Rises Tryd.prog 80 Gz58:=rises_of (E:=Ez58) ⟨tabOk,(fsCons2 Lz54 (fsCons2 Lz55 (fsCons2 Lz57 fsNil2))),fun _ _ _=>rfl,mixed,inlNil,rcsNil,owsNil⟩ Tryd.func80 rfl (by decide) (by kernel_rfl) (by kernel_rfl) (by kernel_rfl) (by kernel_rfl) (fun x r _ h=>⟨Tz58,6,big,(lz58 big x).trans h⟩)
def Tz59:LT:={ live:=[(4,[13,14,15])],keep:=[] }
noncomputable def Ez59:Env2:={ tab:=tab,fs:=[(80,Gz58)],inl:=[] }
noncomputable def ez59_0 (v:(List Y7)×Int×Int):St:={ s:=[(13,(.val ⟨(.slice Z11),v.1⟩)),(14,(.val ⟨Z2,v.2.1⟩)),(15,(.val ⟨Z2,v.2.2⟩))],l:=[],k:=[],b:=4096 }
def himage_isCode_0 (self0:(List Y7)×Int×Int→Option (Bool)) (v:(List Y7)×Int×Int):Option (Bool):=
 (bif (decide (v.2.2 < v.2.1)) then ((getI v.1 v.2.2).bind fun x1=>((cops_Check x1).bind fun x2=>(bif (x2 != (0:Int)) then (some false) else (let x3:Int:=(IntKind.i64.wrap (v.2.2+(1:Int)));(self0 (v.1,v.2.1,x3)))))) else (some true))
def gimage_isCode_0 (N:Nat) (self0:(List Y7)×Int×Int→Option (Bool)) (v:(List Y7)×Int×Int):Option (Bool):=himage_isCode_0 self0 v
theorem kz59_0 (N:Nat) (s0:St→Option (Bool)) (v):(floc (Ez59) Tz59 6 N Tryd.f68 [.bool] [false] [] 0 nowhereR) s0 (ez59_0 v)=himage_isCode_0 (fun v=>s0 (ez59_0 v)) v:=by kernel_rfl
theorem bz59_0 (N:Nat) (s0:St→Option (Bool)) (v):(floc (Ez59) Tz59 6 N Tryd.f68 [.bool] [false] [] 0 nowhereR) s0 (ez59_0 v)=gimage_isCode_0 N (fun v=>s0 (ez59_0 v)) v:=kz59_0 N s0 v
def nimage_isCode (loop0:(List Y7)×Int×Int→Option (Bool)) (x:(List Y7)):Option (Bool):=
 (bif (decide ((List.length x:Int) < (1:Int))) then (some false) else (bif (decide ((List.length x:Int) > (200:Int))) then (some false) else (loop0 (x,(List.length x:Int),(0:Int)))))
def mimage_isCode (N:Nat) (x:(List Y7)):Option (Bool):=nimage_isCode (iterV (gimage_isCode_0 N) N) x
theorem jz59 (N:Nat) (x:(List Y7)):rise (Ez59) Tz59 6 N Tryd.f68 [(.slice Z11)] [.bool] [false] x=nimage_isCode (fun v=>iterR (floc (Ez59) Tz59 6 N Tryd.f68 [.bool] [false] [] 0 nowhereR) N (ez59_0 v)) x:=by kernel_rfl
theorem lz59 (N:Nat) (x:(List Y7)):rise (Ez59) Tz59 6 N Tryd.f68 [(.slice Z11)] [.bool] [false] x=mimage_isCode N x:=(jz59 N x).trans (by rw [funext (iterR_eq ez59_0 (bz59_0 N) N)];rfl)
def cimage_isCode (x:(List Y7)):Option (Bool):=mimage_isCode big x
def Gz59:Fn2:=⟨[(.slice Z11)],[.bool],[false],fun x=>cimage_isCode x⟩
theorem Lz59:Rises Tryd.prog 68 Gz59:=rises_of (E:=Ez59) ⟨tabOk,(fsCons2 Lz58 fsNil2),fun _ _ _=>rfl,mixed,inlNil,rcsNil,owsNil⟩ Tryd.func68 rfl (by decide) (by kernel_rfl) (by kernel_rfl) (by kernel_rfl) (by kernel_rfl) (fun x r _ h=>⟨Tz59,6,big,(lz59 big x).trans h⟩)
def Tz60:LT:={ live:=[],keep:=[] }
noncomputable def Ez60:Env2:={ tab:=tab,fs:=[],inl:=[] }
def ntables_isCount (x:Int):Option (Bool):=
 (bif (decide (x≥(1:Int))) then (some (decide (x≤(200:Int)))) else (some false))
def mtables_isCount (N:Nat) (x:Int):Option (Bool):=ntables_isCount x
theorem jz60 (N:Nat) (x:Int):rise (Ez60) Tz60 6 N Tryd.f81 [Z2] [.bool] [false] x=ntables_isCount x:=by kernel_rfl
theorem lz60 (N:Nat) (x:Int):rise (Ez60) Tz60 6 N Tryd.f81 [Z2] [.bool] [false] x=mtables_isCount N x:=(jz60 N x).trans rfl
def ctables_isCount (x:Int):Option (Bool):=mtables_isCount big x
def Gz60:Fn2:=⟨[Z2],[.bool],[false],fun x=>ctables_isCount x⟩
theorem Lz60:Rises Tryd.prog 81 Gz60:=rises_of (E:=Ez60) ⟨tabOk,fsNil2,fun _ _ _=>rfl,mixed,inlNil,rcsNil,owsNil⟩ Tryd.func81 rfl (by decide) (by kernel_rfl) (by kernel_rfl) (by kernel_rfl) (by kernel_rfl) (fun x r _ h=>⟨Tz60,6,big,(lz60 big x).trans h⟩)
def Tz61:LT:={ live:=[],keep:=[] }
noncomputable def Ez61:Env2:={ tab:=tab,fs:=[],inl:=[] }
def ntables_sameValue (x:Y4×Y4):Option (Bool):=
 (some (eqD Z7 (x.2.1,x.1.2) x.2))
def mtables_sameValue (N:Nat) (x:Y4×Y4):Option (Bool):=ntables_sameValue x
theorem jz61 (N:Nat) (x:Y4×Y4):rise (Ez61) Tz61 6 N Tryd.f82 [Z7,Z7] [.bool] [false] x=ntables_sameValue x:=by kernel_rfl
theorem lz61 (N:Nat) (x:Y4×Y4):rise (Ez61) Tz61 6 N Tryd.f82 [Z7,Z7] [.bool] [false] x=mtables_sameValue N x:=(jz61 N x).trans rfl
def ctables_sameValue (x:Y4×Y4):Option (Bool):=mtables_sameValue big x
def Gz61:Fn2:=⟨[Z7,Z7],[.bool],[false],fun x=>ctables_sameValue x⟩
theorem Lz61:Rises Tryd.prog 82 Gz61:=rises_of (E:=Ez61) ⟨tabOk,fsNil2,fun _ _ _=>rfl,mixed,inlNil,rcsNil,owsNil⟩ Tryd.func82 rfl (by decide) (by kernel_rfl) (by kernel_rfl) (by kernel_rfl) (by kernel_rfl) (fun x r _ h=>⟨Tz61,6,big,(lz61 big x).trans h⟩)
def Tz62:LT:={ live:=[(6,[0,32,33])],keep:=[] }
noncomputable def Ez62:Env2:={ tab:=tab,fs:=[(81,Gz60),(82,Gz61)],inl:=[] }
noncomputable def ez62_0 (v:Y9×Int×Int):St:={ s:=[(0,(.val ⟨(.slice Z7),v.1⟩)),(32,(.val ⟨Z2,v.2.1⟩)),(33,(.val ⟨Z2,v.2.2⟩))],l:=[],k:=[],b:=4096 }
def htables_Check_0 (self0:Y9×Int×Int→Option (Int)) (v:Y9×Int×Int):Option (Int):=
 (bif (decide (v.2.2 < v.2.1)) then ((getI v.1 v.2.2).bind fun x6=>(let x7:Int:=(IntKind.i64.wrap (v.2.2+(1:Int)));((getI v.1 x7).bind fun x8=>(bif (decide (x6.1≥x8.1)) then (some (8:Int)) else ((getI v.1 v.2.2).bind fun x9=>(let x10:Int:=(IntKind.i64.wrap (v.2.2+(1:Int)));((getI v.1 x10).bind fun x11=>((ctables_sameValue (x9,x11)).bind fun x12=>(bif x12 then (some (8:Int)) else (let x13:Int:=(IntKind.i64.wrap (v.2.2+(1:Int)));(self0 (v.1,v.2.1,x13)))))))))))) else (some (0:Int)))
def gtables_Check_0 (N:Nat) (self0:Y9×Int×Int→Option (Int)) (v:Y9×Int×Int):Option (Int):=htables_Check_0 self0 v
theorem kz62_0 (N:Nat) (s0:St→Option (Int)) (v):(floc (Ez62) Tz62 6 N Tryd.f69 [Z2] [false] [] 0 nowhereR) s0 (ez62_0 v)=htables_Check_0 (fun v=>s0 (ez62_0 v)) v:=by kernel_rfl
theorem bz62_0 (N:Nat) (s0:St→Option (Int)) (v):(floc (Ez62) Tz62 6 N Tryd.f69 [Z2] [false] [] 0 nowhereR) s0 (ez62_0 v)=gtables_Check_0 N (fun v=>s0 (ez62_0 v)) v:=kz62_0 N s0 v
def ntables_Check (loop0:Y9×Int×Int→Option (Int)) (x:Y9×Int):Option (Int):=
 ((ctables_isCount x.2).bind fun x1=>(bif (!x1) then (some (2:Int)) else (bif ((List.length x.1:Int)==(0:Int)) then (some (8:Int)) else ((getI x.1 (0:Int)).bind fun x2=>(bif (x2.1 != (0:Int)) then (some (8:Int)) else (let x3:Int:=(IntKind.i64.wrap ((List.length x.1:Int) - (1:Int)));((getI x.1 x3).bind fun x4=>(bif (decide (x4.1≥x.2)) then (some (8:Int)) else (let x5:Int:=(IntKind.i64.wrap ((List.length x.1:Int) - (1:Int)));(loop0 (x.1,x5,(0:Int))))))))))))
def mtables_Check (N:Nat) (x:Y9×Int):Option (Int):=ntables_Check (iterV (gtables_Check_0 N) N) x
theorem jz62 (N:Nat) (x:Y9×Int):rise (Ez62) Tz62 6 N Tryd.f69 [(.slice Z7),Z2] [Z2] [false] x=ntables_Check (fun v=>iterR (floc (Ez62) Tz62 6 N Tryd.f69 [Z2] [false] [] 0 nowhereR) N (ez62_0 v)) x:=by kernel_rfl
theorem lz62 (N:Nat) (x:Y9×Int):rise (Ez62) Tz62 6 N Tryd.f69 [(.slice Z7),Z2] [Z2] [false] x=mtables_Check N x:=(jz62 N x).trans (by rw [funext (iterR_eq ez62_0 (bz62_0 N) N)];rfl)
def ctables_Check (x:Y9×Int):Option (Int):=mtables_Check big x
def Gz62:Fn2:=⟨[(.slice Z7),Z2],[Z2],[false],fun x=>ctables_Check x⟩
theorem Lz62:Rises Tryd.prog 69 Gz62:=rises_of (E:=Ez62) ⟨tabOk,(fsCons2 Lz60 (fsCons2 Lz61 fsNil2)),fun _ _ _=>rfl,mixed,inlNil,rcsNil,owsNil⟩ Tryd.func69 rfl (by decide) (by kernel_rfl) (by kernel_rfl) (by kernel_rfl) (by kernel_rfl) (fun x r _ h=>⟨Tz62,6,big,(lz62 big x).trans h⟩)
def Tz63:LT:={ live:=[],keep:=[] }
noncomputable def Ez63:Env2:={ tab:=tab,fs:=[(17,Gz50),(67,Gz53),(68,Gz59),(69,Gz62)],inl:=[] }
def nimage_isFunc (x:Y0×Int):Option (Bool):=
 ((cimage_areSlots (x.1.2.2.2.1,x.2)).bind fun x1=>(bif (!x1) then (some false) else (bif (decide (x.1.2.1 < (0:Int))) then (some false) else (bif (decide (x.1.2.1 > (List.length x.1.2.2.2.1:Int))) then (some false) else (bif (x.1.2.2.1 != (-1:Int)) then ((cimage_isIndex (x.1.2.2.1,x.2)).bind fun x2=>(bif (!x2) then (some false) else ((cimage_isCode x.1.2.2.2.2.1).bind fun x3=>(bif x3 then ((ctables_Check (x.1.2.2.2.2.2.1,(List.length x.1.2.2.2.2.1:Int))).bind fun x4=>(bif (x4==(0:Int)) then ((ctables_Check (x.1.2.2.2.2.2.2.1,(List.length x.1.2.2.2.2.1:Int))).bind fun x5=>(some (x5==(0:Int)))) else (some false))) else (some false))))) else ((cimage_isCode x.1.2.2.2.2.1).bind fun x6=>(bif x6 then ((ctables_Check (x.1.2.2.2.2.2.1,(List.length x.1.2.2.2.2.1:Int))).bind fun x7=>(bif (x7==(0:Int)) then ((ctables_Check (x.1.2.2.2.2.2.2.1,(List.length x.1.2.2.2.2.1:Int))).bind fun x8=>(some (x8==(0:Int)))) else (some false))) else (some false))))))))
def mimage_isFunc (N:Nat) (x:Y0×Int):Option (Bool):=nimage_isFunc x
theorem jz63 (N:Nat) (x:Y0×Int):rise (Ez63) Tz63 6 N Tryd.f55 [Z0,Z2] [.bool] [false] x=nimage_isFunc x:=by kernel_rfl
theorem lz63 (N:Nat) (x:Y0×Int):rise (Ez63) Tz63 6 N Tryd.f55 [Z0,Z2] [.bool] [false] x=mimage_isFunc N x:=(jz63 N x).trans rfl
def cimage_isFunc (x:Y0×Int):Option (Bool):=mimage_isFunc big x
def Gz63:Fn2:=⟨[Z0,Z2],[.bool],[false],fun x=>cimage_isFunc x⟩
theorem Lz63:Rises Tryd.prog 55 Gz63:=rises_of (E:=Ez63) ⟨tabOk,(fsCons2 Lz50 (fsCons2 Lz53 (fsCons2 Lz59 (fsCons2 Lz62 fsNil2)))),fun _ _ _=>rfl,mixed,inlNil,rcsNil,owsNil⟩ Tryd.func55 rfl (by decide) (by kernel_rfl) (by kernel_rfl) (by kernel_rfl) (by kernel_rfl) (fun x r _ h=>⟨Tz63,6,big,(lz63 big x).trans h⟩)
def Tz64:LT:={ live:=[(3,[1,5,10,11,12])],keep:=[] }
def Tz65:LT:={ live:=[],keep:=[] }
noncomputable def Ez65:Env2:={ tab:=tab,fs:=[],inl:=[] }
def nimage_areFuncs_1 (x:Y0):Option (Y2):=
 (some x.1)
def mimage_areFuncs_1 (N:Nat) (x:Y0):Option (Y2):=nimage_areFuncs_1 x
theorem jz65 (N:Nat) (x:Y0):rise (Ez65) Tz65 6 N Tryd.f57 [Z0] [.str] [false] x=nimage_areFuncs_1 x:=by kernel_rfl
theorem lz65 (N:Nat) (x:Y0):rise (Ez65) Tz65 6 N Tryd.f57 [Z0] [.str] [false] x=mimage_areFuncs_1 N x:=(jz65 N x).trans rfl
def cimage_areFuncs_1 (x:Y0):Option (Y2):=mimage_areFuncs_1 big x
def Gz65:Fn2:=⟨[Z0],[.str],[false],fun x=>cimage_areFuncs_1 x⟩
theorem Lz65:Rises Tryd.prog 57 Gz65:=rises_of (E:=Ez65) ⟨tabOk,fsNil2,fun _ _ _=>rfl,mixed,inlNil,rcsNil,owsNil⟩ Tryd.func57 rfl (by decide) (by kernel_rfl) (by kernel_rfl) (by kernel_rfl) (by kernel_rfl) (fun x r _ h=>⟨Tz65,6,big,(lz65 big x).trans h⟩)
def Tz66:LT:={ live:=[(4,[0,1,15,16,17])],keep:=[(27,[])] }
noncomputable def Ez66:Env2:={ tab:=tab,fs:=[(55,Gz63),(57,Gz65),(70,Gz33)],inl:=[(56,Tryd.f56,Tz64)] }
noncomputable def ez65 (v:Y10×Int×Int×(List (Y2×Bool))):St:={ s:=[(1,(.clo 57 .unit)),(5,(.mp 0)),(10,(.val ⟨(.slice Z0),v.1⟩)),(11,(.val ⟨Z2,v.2.1⟩)),(12,(.val ⟨Z2,v.2.2.1⟩))],l:=[(0,.mp .str .bool v.2.2.2)],k:=[(4096,[])],b:=16891904 }
noncomputable def ez66_0 (v:Y10×Int×Y10×Int×Int):St:={ s:=[(0,(.val ⟨(.slice Z0),v.1⟩)),(1,(.val ⟨Z2,v.2.1⟩)),(15,(.val ⟨(.slice Z0),v.2.2.1⟩)),(16,(.val ⟨Z2,v.2.2.2.1⟩)),(17,(.val ⟨Z2,v.2.2.2.2⟩))],l:=[],k:=[],b:=4096 }
def himage_areFuncs_1 (self0:Y10×Int×Y10×Int×Int→Option (Bool)) (self1:Y10×Int×Int×(List (Y2×Bool))→Option (Bool)) (v:Y10×Int×Int×(List (Y2×Bool))):Option (Bool):=
 (bif (decide (v.2.2.1 < v.2.1)) then ((getI v.1 v.2.2.1).bind fun x4=>((cimage_areFuncs_1 x4).bind fun x5=>((ckinds_Named x5).bind fun x6=>(bif (!x6) then (some false) else (bif (@atK .str .bool x5 false v.2.2.2).1 then (some false) else (let x7:(List (Y2×Bool)):=(@putK .str .bool x5 true v.2.2.2);(let x8:Int:=(IntKind.i64.wrap (v.2.2.1+(1:Int)));(self1 (v.1,v.2.1,x8,x7))))))))) else (some true))
def gimage_areFuncs_1 (N:Nat) (self0:Y10×Int×Y10×Int×Int→Option (Bool)) (self1:Y10×Int×Int×(List (Y2×Bool))→Option (Bool)) (v:Y10×Int×Int×(List (Y2×Bool))):Option (Bool):=himage_areFuncs_1 self0 self1 v
theorem kz65 (N:Nat) (s0:St→Option (Bool)) (s1:St→Option (Bool)) (v):(floc (Ez66) Tz66 6 N Tryd.f43 [.bool] [false] [.call 9 1 56] 0 nowhereR) s1 (ez65 v)=himage_areFuncs_1 (fun v=>s0 (ez66_0 v)) (fun v=>s1 (ez65 v)) v:=by kernel_rfl
theorem bz65 (N:Nat) (s0:St→Option (Bool)) (s1:St→Option (Bool)) (v):(floc (Ez66) Tz66 6 N Tryd.f43 [.bool] [false] [.call 9 1 56] 0 nowhereR) s1 (ez65 v)=gimage_areFuncs_1 N (fun v=>s0 (ez66_0 v)) (fun v=>s1 (ez65 v)) v:=kz65 N s0 s1 v
def himage_areFuncs_0 (loop1:Y10×Int×Int×(List (Y2×Bool))→Option (Bool)) (self0:Y10×Int×Y10×Int×Int→Option (Bool)) (v:Y10×Int×Y10×Int×Int):Option (Bool):=
 (bif (decide (v.2.2.2.2 < v.2.2.2.1)) then ((getI v.2.2.1 v.2.2.2.2).bind fun x1=>((cimage_isFunc (x1,v.2.1)).bind fun x2=>(bif (!x2) then (some false) else (let x3:Int:=(IntKind.i64.wrap (v.2.2.2.2+(1:Int)));(self0 (v.1,v.2.1,v.2.2.1,v.2.2.2.1,x3)))))) else (loop1 (v.1,(List.length v.1:Int),(0:Int),([]:List (Y2×Bool)))))
def gimage_areFuncs_0 (N:Nat) (self0:Y10×Int×Y10×Int×Int→Option (Bool)) (v:Y10×Int×Y10×Int×Int):Option (Bool):=himage_areFuncs_0 (iterV (gimage_areFuncs_1 N self0) N) self0 v
theorem kz66_0 (N:Nat) (s0:St→Option (Bool)) (v):(floc (Ez66) Tz66 6 N Tryd.f43 [.bool] [false] [] 0 nowhereR) s0 (ez66_0 v)=himage_areFuncs_0 (fun v=>iterR (floc (Ez66) Tz66 6 N Tryd.f43 [.bool] [false] [.call 9 1 56] 0 nowhereR) N (ez65 v)) (fun v=>s0 (ez66_0 v)) v:=by kernel_rfl
theorem bz66_0 (N:Nat) (s0:St→Option (Bool)) (v):(floc (Ez66) Tz66 6 N Tryd.f43 [.bool] [false] [] 0 nowhereR) s0 (ez66_0 v)=gimage_areFuncs_0 N (fun v=>s0 (ez66_0 v)) v:=(kz66_0 N s0 v).trans (by rw [funext (iterR_eq ez65 (bz65 N s0) N)];rfl)
def nimage_areFuncs (loop0:Y10×Int×Y10×Int×Int→Option (Bool)) (x:Y10×Int):Option (Bool):=
 (bif (decide ((List.length x.1:Int) < (1:Int))) then (some false) else (bif (decide ((List.length x.1:Int) > (32:Int))) then (some false) else (loop0 (x.1,x.2,x.1,(List.length x.1:Int),(0:Int)))))
def mimage_areFuncs (N:Nat) (x:Y10×Int):Option (Bool):=nimage_areFuncs (iterV (gimage_areFuncs_0 N) N) x
theorem jz66 (N:Nat) (x:Y10×Int):rise (Ez66) Tz66 6 N Tryd.f43 [(.slice Z0),Z2] [.bool] [false] x=nimage_areFuncs (fun v=>iterR (floc (Ez66) Tz66 6 N Tryd.f43 [.bool] [false] [] 0 nowhereR) N (ez66_0 v)) x:=by kernel_rfl
theorem lz66 (N:Nat) (x:Y10×Int):rise (Ez66) Tz66 6 N Tryd.f43 [(.slice Z0),Z2] [.bool] [false] x=mimage_areFuncs N x:=(jz66 N x).trans (by rw [funext (iterR_eq ez66_0 (bz66_0 N) N)];rfl)
def cimage_areFuncs (x:Y10×Int):Option (Bool):=mimage_areFuncs big x
def Gz66:Fn2:=⟨[(.slice Z0),Z2],[.bool],[false],fun x=>cimage_areFuncs x⟩
theorem Lz66:Rises Tryd.prog 43 Gz66:=rises_of (E:=Ez66) ⟨tabOk,(fsCons2 Lz63 (fsCons2 Lz65 (fsCons2 Lz33 fsNil2))),fun _ _ _=>rfl,mixed,(inlCons (inlB_of Tryd.func56 rfl rfl (by kernel_rfl)) inlNil),rcsNil,owsNil⟩ Tryd.func43 rfl (by decide) (by kernel_rfl) (by kernel_rfl) (by kernel_rfl) (by kernel_rfl) (fun x r _ h=>⟨Tz66,6,big,(lz66 big x).trans h⟩)
def Tz67:LT:={ live:=[],keep:=[] }
noncomputable def Ez67:Env2:={ tab:=tab,fs:=[(41,Gz48),(42,Gz49),(43,Gz66)],inl:=[] }
def nimage_isValid (x:Y3):Option (Bool):=
 ((cimage_areTypes x.1).bind fun x1=>(bif x1 then ((cimage_areTexts x.2.1).bind fun x2=>(bif x2 then ((cimage_areFuncs (x.2.2.1,(List.length x.1:Int))).bind fun x3=>(some x3)) else (some false))) else (some false)))
def mimage_isValid (N:Nat) (x:Y3):Option (Bool):=nimage_isValid x
theorem jz67 (N:Nat) (x:Y3):rise (Ez67) Tz67 6 N Tryd.f29 [Z3] [.bool] [false] x=nimage_isValid x:=by kernel_rfl
theorem lz67 (N:Nat) (x:Y3):rise (Ez67) Tz67 6 N Tryd.f29 [Z3] [.bool] [false] x=mimage_isValid N x:=(jz67 N x).trans rfl
def cimage_isValid (x:Y3):Option (Bool):=mimage_isValid big x
def Gz67:Fn2:=⟨[Z3],[.bool],[false],fun x=>cimage_isValid x⟩
theorem Lz67:Rises Tryd.prog 29 Gz67:=rises_of (E:=Ez67) ⟨tabOk,(fsCons2 Lz48 (fsCons2 Lz49 (fsCons2 Lz66 fsNil2))),fun _ _ _=>rfl,mixed,inlNil,rcsNil,owsNil⟩ Tryd.func29 rfl (by decide) (by kernel_rfl) (by kernel_rfl) (by kernel_rfl) (by kernel_rfl) (fun x r _ h=>⟨Tz67,6,big,(lz67 big x).trans h⟩)
def Tz68:LT:={ live:=[(3,[0,3,9,10,11]),(9,[6,22,23,24])],keep:=[] }
noncomputable def Ez68 (mk:(α:Type)→Nat→α→List α):Env2:={ tab:=tab,fs:=[],inl:=[],rep:=mk }
noncomputable def ez68_1 (v:Y8×Int×Int×Y2):St:={ s:=[(6,(.row 0)),(22,(.val ⟨(.slice Z8),v.1⟩)),(23,(.val ⟨Z2,v.2.1⟩)),(24,(.val ⟨Z2,v.2.2.1⟩))],l:=[(0,.row Z4 v.2.2.2)],k:=[],b:=4096 }
noncomputable def ez68_0 (v:Y8×Int×Y8×Int×Int):St:={ s:=[(0,(.val ⟨(.slice Z8),v.1⟩)),(3,(.val ⟨Z2,v.2.1⟩)),(9,(.val ⟨(.slice Z8),v.2.2.1⟩)),(10,(.val ⟨Z2,v.2.2.2.1⟩)),(11,(.val ⟨Z2,v.2.2.2.2⟩))],l:=[],k:=[],b:=4096 }
def hwire_joined_1 (mk:(α:Type)→Nat→α→List α) (self0:Y8×Int×Y8×Int×Int→Option (Y2)) (self1:Y8×Int×Int×Y2→Option (Y2)) (v:Y8×Int×Int×Y2):Option (Y2):=
 (bif (decide (v.2.2.1 < v.2.1)) then ((getI v.1 v.2.2.1).bind fun x5=>(bif (Nat.ble 1 1&&Nat.ble (List.length v.2.2.2+List.length x5) lim) then (let x6:Int:=(IntKind.i64.wrap (v.2.2.1+(1:Int)));(self1 (v.1,v.2.1,x6,(List.append v.2.2.2 x5)))) else none)) else (some v.2.2.2))
def gwire_joined_1 (mk:(α:Type)→Nat→α→List α) (N:Nat) (self0:Y8×Int×Y8×Int×Int→Option (Y2)) (self1:Y8×Int×Int×Y2→Option (Y2)) (v:Y8×Int×Int×Y2):Option (Y2):=hwire_joined_1 mk self0 self1 v
theorem kz68_1 (mk:(α:Type)→Nat→α→List α) (N:Nat) (s0:St→Option (Y2)) (s1:St→Option (Y2)) (v):(floc (Ez68 mk) Tz68 6 N Tryd.f72 [Z8] [true] [] 1 nowhereR) s1 (ez68_1 v)=hwire_joined_1 mk (fun v=>s0 (ez68_0 v)) (fun v=>s1 (ez68_1 v)) v:=by kernel_rfl
theorem bz68_1 (mk:(α:Type)→Nat→α→List α) (N:Nat) (s0:St→Option (Y2)) (s1:St→Option (Y2)) (v):(floc (Ez68 mk) Tz68 6 N Tryd.f72 [Z8] [true] [] 1 nowhereR) s1 (ez68_1 v)=gwire_joined_1 mk N (fun v=>s0 (ez68_0 v)) (fun v=>s1 (ez68_1 v)) v:=kz68_1 mk N s0 s1 v
def hwire_joined_0 (mk:(α:Type)→Nat→α→List α) (loop1:Y8×Int×Int×Y2→Option (Y2)) (self0:Y8×Int×Y8×Int×Int→Option (Y2)) (v:Y8×Int×Y8×Int×Int):Option (Y2):=
 (bif (decide (v.2.2.2.2 < v.2.2.2.1)) then ((getI v.2.2.1 v.2.2.2.2).bind fun x1=>(let x2:Int:=(IntKind.i64.wrap (v.2.1+(List.length x1:Int)));(let x3:Int:=(IntKind.i64.wrap (v.2.2.2.2+(1:Int)));(self0 (v.1,x2,v.2.2.1,v.2.2.2.1,x3))))) else (bif (decide (0≤(0:Int))&&(decide ((0:Int)≤v.2.1)&&(decide (v.2.1≤68719476736)&&true))) then (let x4:Y2:=(mk Int (Int.toNat (0:Int)) (0:Int));(loop1 (v.1,(List.length v.1:Int),(0:Int),x4))) else none))
def gwire_joined_0 (mk:(α:Type)→Nat→α→List α) (N:Nat) (self0:Y8×Int×Y8×Int×Int→Option (Y2)) (v:Y8×Int×Y8×Int×Int):Option (Y2):=hwire_joined_0 mk (iterV (gwire_joined_1 mk N self0) N) self0 v
theorem kz68_0 (mk:(α:Type)→Nat→α→List α) (N:Nat) (s0:St→Option (Y2)) (v):(floc (Ez68 mk) Tz68 6 N Tryd.f72 [Z8] [true] [] 0 nowhereR) s0 (ez68_0 v)=hwire_joined_0 mk (fun v=>iterR (floc (Ez68 mk) Tz68 6 N Tryd.f72 [Z8] [true] [] 1 nowhereR) N (ez68_1 v)) (fun v=>s0 (ez68_0 v)) v:=by kernel_rfl
theorem bz68_0 (mk:(α:Type)→Nat→α→List α) (N:Nat) (s0:St→Option (Y2)) (v):(floc (Ez68 mk) Tz68 6 N Tryd.f72 [Z8] [true] [] 0 nowhereR) s0 (ez68_0 v)=gwire_joined_0 mk N (fun v=>s0 (ez68_0 v)) v:=(kz68_0 mk N s0 v).trans (by rw [funext (iterR_eq ez68_1 (bz68_1 mk N s0) N)];rfl)
def nwire_joined (mk:(α:Type)→Nat→α→List α) (loop0:Y8×Int×Y8×Int×Int→Option (Y2)) (x:Y8):Option (Y2):=
 (loop0 (x,(0:Int),x,(List.length x:Int),(0:Int)))
def mwire_joined (mk:(α:Type)→Nat→α→List α) (N:Nat) (x:Y8):Option (Y2):=nwire_joined mk (iterV (gwire_joined_0 mk N) N) x
theorem jz68 (mk:(α:Type)→Nat→α→List α) (N:Nat) (x:Y8):rise (Ez68 mk) Tz68 6 N Tryd.f72 [(.slice Z8)] [Z8] [true] x=nwire_joined mk (fun v=>iterR (floc (Ez68 mk) Tz68 6 N Tryd.f72 [Z8] [true] [] 0 nowhereR) N (ez68_0 v)) x:=by kernel_rfl
theorem lz68 (mk:(α:Type)→Nat→α→List α) (N:Nat) (x:Y8):rise (Ez68 mk) Tz68 6 N Tryd.f72 [(.slice Z8)] [Z8] [true] x=mwire_joined mk N x:=(jz68 mk N x).trans (by rw [funext (iterR_eq ez68_0 (bz68_0 mk N) N)];rfl)
def cwire_joined (x:Y8):Option (Y2):=mwire_joined (fun _=>List.replicate) big x
def Gz68:Fn2:=⟨[(.slice Z8)],[Z8],[true],fun x=>cwire_joined x⟩
theorem Lz68:Rises Tryd.prog 72 Gz68:=rises_of (E:=Ez68 (fun _=>List.replicate)) ⟨tabOk,fsNil2,fun _ _ _=>rfl,mixed,inlNil,rcsNil,owsNil⟩ Tryd.func72 rfl (by decide) (by kernel_rfl) (by kernel_rfl) (by kernel_rfl) (by kernel_rfl) (fun x r _ h=>⟨Tz68,6,big,(lz68 (fun _=>List.replicate) big x).trans h⟩)
def Tz69:LT:={ live:=[(3,[0,3,4])],keep:=[] }
noncomputable def Ez69:Env2:={ tab:=tab,fs:=[(72,Gz68)],inl:=[] }
noncomputable def ez69_0 (v:Int×Int×Y2):St:={ s:=[(0,(.val ⟨(.int .u64),v.1⟩)),(3,(.loc 0 [])),(4,(.val ⟨Z2,v.2.1⟩))],l:=[(0,.var (.arr 10 Z4) (.val ⟨(.arr 10 Z4),v.2.2⟩))],k:=[],b:=4096 }
def hwire_Vary_0 (self0:Int×Int×Y2→Option (Y2)) (v:Int×Int×Y2):Option (Y2):=
 (bif (decide (v.1≥(128:Int))) then (let x1:Int:=(bits .or .u8 (IntKind.u8.wrap v.1) (128:Int));(bif (decide (0≤v.2.1)&&decide (v.2.1 < (10:Int))) then (let x2:Y2:=(List.set v.2.2 (Int.toNat v.2.1) x1);(let x3:Int:=(IntKind.i64.wrap (v.2.1+(1:Int)));(self0 ((v.1.fdiv (2 ^ 7)),x3,x2)))) else none)) else (bif (decide (0≤v.2.1)&&decide (v.2.1 < (10:Int))) then (let x4:Y2:=(List.set v.2.2 (Int.toNat v.2.1) (IntKind.u8.wrap v.1));(let x5:Int:=(IntKind.i64.wrap (v.2.1+(1:Int)));(bif (decide (0≤x5)&&decide (x5≤(List.length x4:Int))) then (let x6:Y2:=(List.take (Int.toNat x5) x4);(let x7:Y8:=([x6]:Y8);((cwire_joined x7).bind fun x8=>(some x8)))) else none))) else none))
def gwire_Vary_0 (N:Nat) (self0:Int×Int×Y2→Option (Y2)) (v:Int×Int×Y2):Option (Y2):=hwire_Vary_0 self0 v
theorem kz69_0 (N:Nat) (s0:St→Option (Y2)) (v):(floc (Ez69) Tz69 6 N Tryd.f71 [Z8] [true] [] 0 nowhereR) s0 (ez69_0 v)=hwire_Vary_0 (fun v=>s0 (ez69_0 v)) v:=by kernel_rfl
theorem bz69_0 (N:Nat) (s0:St→Option (Y2)) (v):(floc (Ez69) Tz69 6 N Tryd.f71 [Z8] [true] [] 0 nowhereR) s0 (ez69_0 v)=gwire_Vary_0 N (fun v=>s0 (ez69_0 v)) v:=kz69_0 N s0 v
def nwire_Vary (loop0:Int×Int×Y2→Option (Y2)) (x:Int):Option (Y2):=
 (loop0 (x,(0:Int),(List.replicate 10 (0:Int))))
def mwire_Vary (N:Nat) (x:Int):Option (Y2):=nwire_Vary (iterV (gwire_Vary_0 N) N) x
theorem jz69 (N:Nat) (x:Int):rise (Ez69) Tz69 6 N Tryd.f71 [(.int .u64)] [Z8] [true] x=nwire_Vary (fun v=>iterR (floc (Ez69) Tz69 6 N Tryd.f71 [Z8] [true] [] 0 nowhereR) N (ez69_0 v)) x:=by kernel_rfl
theorem lz69 (N:Nat) (x:Int):rise (Ez69) Tz69 6 N Tryd.f71 [(.int .u64)] [Z8] [true] x=mwire_Vary N x:=(jz69 N x).trans (by rw [funext (iterR_eq ez69_0 (bz69_0 N) N)];rfl)
def cwire_Vary (x:Int):Option (Y2):=mwire_Vary big x
def Gz69:Fn2:=⟨[(.int .u64)],[Z8],[true],fun x=>cwire_Vary x⟩
theorem Lz69:Rises Tryd.prog 71 Gz69:=rises_of (E:=Ez69) ⟨tabOk,(fsCons2 Lz68 fsNil2),fun _ _ _=>rfl,mixed,inlNil,rcsNil,owsNil⟩ Tryd.func71 rfl (by decide) (by kernel_rfl) (by kernel_rfl) (by kernel_rfl) (by kernel_rfl) (fun x r _ h=>⟨Tz69,6,big,(lz69 big x).trans h⟩)
def Tz70:LT:={ live:=[],keep:=[] }
noncomputable def Ez70:Env2:={ tab:=tab,fs:=[(71,Gz69)],inl:=[] }
def nimage_appendNumber (x:Y2) (y:(Int×Unit)):Option (Y2):=
 ((cwire_Vary (IntKind.u64.wrap y.1)).bind fun x1=>(bif (Nat.ble 1 1&&Nat.ble (List.length x+List.length x1) lim) then (some (List.append x x1)) else none))
def mimage_appendNumber (N:Nat) (x:Y2) (y:(Int×Unit)):Option (Y2):=nimage_appendNumber x y
theorem jz70 (N:Nat) (x:Y2) (y:(Int×Unit)):riseO (Ez70) Tz70 6 N Tryd.f58 Z4 [.hole Z2] x y=nimage_appendNumber x y:=by kernel_rfl
theorem lz70 (N:Nat) (x:Y2) (y:(Int×Unit)):riseO (Ez70) Tz70 6 N Tryd.f58 Z4 [.hole Z2] x y=mimage_appendNumber N x y:=(jz70 N x y).trans rfl
def cimage_appendNumber (x:Y2) (y:(Int×Unit)):Option (Y2):=mimage_appendNumber big x y
@[reducible] def Oz70:OwnC:=⟨Z4,[.hole Z2],fun x y=>cimage_appendNumber x y⟩
theorem Lz70:OwnOk Tryd.prog 58 Oz70:=own_of (c:=Oz70) (E:=Ez70) ⟨tabOk,(fsCons2 Lz69 fsNil2),fun _ _ _=>rfl,mixed,inlNil,rcsNil,owsNil⟩ Tryd.func58 rfl (by decide) (by kernel_rfl) (by kernel_rfl) (fun x y z h=>⟨Tz70,6,big,(lz70 big x y).trans h⟩)
def Tz71:LT:={ live:=[(3,[0,2,13,14,15])],keep:=[] }
def Tz72:LT:={ live:=[(3,[0,2,13,14,15])],keep:=[] }
def Tz73:LT:={ live:=[],keep:=[] }
noncomputable def Ez73:Env2:={ tab:=tab,fs:=[(71,Gz69),(72,Gz68)],inl:=[] }
def nwire_Text (x:Y2):Option (Y2×Int):=
 (bif (decide ((List.length x:Int) > (200000:Int))) then (some (([]:List Int),(4:Int))) else (let x1:Int:=(IntKind.u64.wrap (List.length x:Int));((cwire_Vary x1).bind fun x2=>(let x3:Y8:=([x2,x]:Y8);((cwire_joined x3).bind fun x4=>(some (x4,(0:Int))))))))
def mwire_Text (N:Nat) (x:Y2):Option (Y2×Int):=nwire_Text x
theorem jz73 (N:Nat) (x:Y2):rise (Ez73) Tz73 6 N Tryd.f61 [.str] [Z8,Z2] [true,false] x=nwire_Text x:=by kernel_rfl
theorem lz73 (N:Nat) (x:Y2):rise (Ez73) Tz73 6 N Tryd.f61 [.str] [Z8,Z2] [true,false] x=mwire_Text N x:=(jz73 N x).trans rfl
def cwire_Text (x:Y2):Option (Y2×Int):=mwire_Text big x
def Gz73:Fn2:=⟨[.str],[Z8,Z2],[true,false],fun x=>cwire_Text x⟩
theorem Lz73:Rises Tryd.prog 61 Gz73:=rises_of (E:=Ez73) ⟨tabOk,(fsCons2 Lz69 (fsCons2 Lz68 fsNil2)),fun _ _ _=>rfl,mixed,inlNil,rcsNil,owsNil⟩ Tryd.func61 rfl (by decide) (by kernel_rfl) (by kernel_rfl) (by kernel_rfl) (by kernel_rfl) (fun x r _ h=>⟨Tz73,6,big,(lz73 big x).trans h⟩)
def Tz74:LT:={ live:=[],keep:=[] }
noncomputable def Ez74:Env2:={ tab:=tab,fs:=[(61,Gz73)],inl:=[] }
def nimage_appendText (x:Y2) (y:(Y2×Unit)):Option (Y2):=
 ((cwire_Text y.1).bind fun x1=>(bif (Nat.ble 1 1&&Nat.ble (List.length x+List.length x1.1) lim) then (some (List.append x x1.1)) else none))
def mimage_appendText (N:Nat) (x:Y2) (y:(Y2×Unit)):Option (Y2):=nimage_appendText x y
theorem jz74 (N:Nat) (x:Y2) (y:(Y2×Unit)):riseO (Ez74) Tz74 6 N Tryd.f47 Z4 [.hole .str] x y=nimage_appendText x y:=by kernel_rfl
theorem lz74 (N:Nat) (x:Y2) (y:(Y2×Unit)):riseO (Ez74) Tz74 6 N Tryd.f47 Z4 [.hole .str] x y=mimage_appendText N x y:=(jz74 N x y).trans rfl
def cimage_appendText (x:Y2) (y:(Y2×Unit)):Option (Y2):=mimage_appendText big x y
@[reducible] def Oz74:OwnC:=⟨Z4,[.hole .str],fun x y=>cimage_appendText x y⟩
theorem Lz74:OwnOk Tryd.prog 47 Oz74:=own_of (c:=Oz74) (E:=Ez74) ⟨tabOk,(fsCons2 Lz73 fsNil2),fun _ _ _=>rfl,mixed,inlNil,rcsNil,owsNil⟩ Tryd.func47 rfl (by decide) (by kernel_rfl) (by kernel_rfl) (fun x y z h=>⟨Tz74,6,big,(lz74 big x y).trans h⟩)
def Tz75:LT:={ live:=[],keep:=[] }
noncomputable def Ez75:Env2:={ tab:=tab,fs:=[],inl:=[],ow:=[(47,Oz74),(58,Oz70)] }
def nimage_appendField (x:Y2) (y:((Y2×(Int×Unit))×Unit)):Option (Y2):=
 ((cimage_appendText x (y.1.1,())).bind fun x1=>((cimage_appendNumber x1 (y.1.2.1,())).bind fun x2=>(some x2)))
def mimage_appendField (N:Nat) (x:Y2) (y:((Y2×(Int×Unit))×Unit)):Option (Y2):=nimage_appendField x y
theorem jz75 (N:Nat) (x:Y2) (y:((Y2×(Int×Unit))×Unit)):riseO (Ez75) Tz75 6 N Tryd.f60 Z4 [.hole (.pair .str (.pair Z2 .unit))] x y=nimage_appendField x y:=by kernel_rfl
theorem lz75 (N:Nat) (x:Y2) (y:((Y2×(Int×Unit))×Unit)):riseO (Ez75) Tz75 6 N Tryd.f60 Z4 [.hole (.pair .str (.pair Z2 .unit))] x y=mimage_appendField N x y:=(jz75 N x y).trans rfl
def cimage_appendField (x:Y2) (y:((Y2×(Int×Unit))×Unit)):Option (Y2):=mimage_appendField big x y
@[reducible] def Oz75:OwnC:=⟨Z4,[.hole (.pair .str (.pair Z2 .unit))],fun x y=>cimage_appendField x y⟩
theorem Lz75:OwnOk Tryd.prog 60 Oz75:=own_of (c:=Oz75) (E:=Ez75) ⟨tabOk,fsNil2,fun _ _ _=>rfl,mixed,inlNil,rcsNil,(owsCons Lz74 (owsCons Lz70 owsNil))⟩ Tryd.func60 rfl (by decide) (by kernel_rfl) (by kernel_rfl) (fun x y z h=>⟨Tz75,6,big,(lz75 big x y).trans h⟩)
def Tz76:LT:={ live:=[],keep:=[(34,[])] }
noncomputable def Ez76:Env2:={ tab:=tab,fs:=[],inl:=[(59,Tryd.f59,Tz72)],ow:=[(58,Oz70),(60,Oz75)] }
noncomputable def ez76_0 (v:Y5×Int×Int×Y2):St:={ s:=[(0,(.row 0)),(2,(.clo 60 .unit)),(13,(.val ⟨Z6,v.1⟩)),(14,(.val ⟨Z2,v.2.1⟩)),(15,(.val ⟨Z2,v.2.2.1⟩))],l:=[(0,.row Z4 v.2.2.2)],k:=[(4096,[])],b:=16920576 }
def himage_appendType_0 (self0:Y5×Int×Int×Y2→Option (Y2)) (v:Y5×Int×Int×Y2):Option (Y2):=
 (bif (decide (v.2.2.1 < v.2.1)) then ((getI v.1 v.2.2.1).bind fun x6=>((cimage_appendField v.2.2.2 (x6,())).bind fun x7=>(let x8:Int:=(IntKind.i64.wrap (v.2.2.1+(1:Int)));(self0 (v.1,v.2.1,x8,x7))))) else (some v.2.2.2))
def gimage_appendType_0 (N:Nat) (self0:Y5×Int×Int×Y2→Option (Y2)) (v:Y5×Int×Int×Y2):Option (Y2):=himage_appendType_0 self0 v
theorem kz76_0 (N:Nat) (s0:St→Option (Y2)) (v):(flocO (Ez76) Tz76 6 N Tryd.f45 Z4 [.call 10 3 59] 0 nowhereR) s0 (ez76_0 v)=himage_appendType_0 (fun v=>s0 (ez76_0 v)) v:=by kernel_rfl
theorem bz76_0 (N:Nat) (s0:St→Option (Y2)) (v):(flocO (Ez76) Tz76 6 N Tryd.f45 Z4 [.call 10 3 59] 0 nowhereR) s0 (ez76_0 v)=gimage_appendType_0 N (fun v=>s0 (ez76_0 v)) v:=kz76_0 N s0 v
def nimage_appendType (loop0:Y5×Int×Int×Y2→Option (Y2)) (x:Y2) (y:(Y6×Unit)):Option (Y2):=
 (bif (Nat.ble 1 1&&Nat.ble (List.length x+List.length ([y.1.1]:Y2)) lim) then (let x1:Y2:=(List.append x ([y.1.1]:Y2));(bif (y.1.1==(4:Int)) then (bif (y.1.1==(4:Int)) then ((cimage_appendNumber x1 (y.1.2.1,())).bind fun x2=>(some x2)) else (bif (y.1.1==(6:Int)) then ((cimage_appendNumber x1 (y.1.2.1,())).bind fun x3=>((cimage_appendNumber x3 (y.1.2.2.1,())).bind fun x4=>(some x4))) else (bif (y.1.1==(5:Int)) then ((cimage_appendNumber x1 ((List.length y.1.2.2.2.1:Int),())).bind fun x5=>(loop0 (y.1.2.2.2.1,(List.length y.1.2.2.2.1:Int),(0:Int),x5))) else (some x1)))) else (bif (y.1.1==(7:Int)) then ((cimage_appendNumber x1 (y.1.2.1,())).bind fun x9=>(some x9)) else (bif (y.1.1==(6:Int)) then ((cimage_appendNumber x1 (y.1.2.1,())).bind fun x10=>((cimage_appendNumber x10 (y.1.2.2.1,())).bind fun x11=>(some x11))) else (bif (y.1.1==(5:Int)) then ((cimage_appendNumber x1 ((List.length y.1.2.2.2.1:Int),())).bind fun x12=>(loop0 (y.1.2.2.2.1,(List.length y.1.2.2.2.1:Int),(0:Int),x12))) else (some x1)))))) else none)
def mimage_appendType (N:Nat) (x:Y2) (y:(Y6×Unit)):Option (Y2):=nimage_appendType (iterV (gimage_appendType_0 N) N) x y
theorem jz76 (N:Nat) (x:Y2) (y:(Y6×Unit)):riseO (Ez76) Tz76 6 N Tryd.f45 Z4 [.hole Z1] x y=nimage_appendType (fun v=>iterR (flocO (Ez76) Tz76 6 N Tryd.f45 Z4 [.call 10 3 59] 0 nowhereR) N (ez76_0 v)) x y:=by kernel_rfl
theorem lz76 (N:Nat) (x:Y2) (y:(Y6×Unit)):riseO (Ez76) Tz76 6 N Tryd.f45 Z4 [.hole Z1] x y=mimage_appendType N x y:=(jz76 N x y).trans (by rw [funext (iterR_eq ez76_0 (bz76_0 N) N)];rfl)
def cimage_appendType (x:Y2) (y:(Y6×Unit)):Option (Y2):=mimage_appendType big x y
@[reducible] def Oz76:OwnC:=⟨Z4,[.hole Z1],fun x y=>cimage_appendType x y⟩
theorem Lz76:OwnOk Tryd.prog 45 Oz76:=own_of (c:=Oz76) (E:=Ez76) ⟨tabOk,fsNil2,fun _ _ _=>rfl,mixed,(inlCons (inlB_of Tryd.func59 rfl rfl (by kernel_rfl)) inlNil),rcsNil,(owsCons Lz70 (owsCons Lz75 owsNil))⟩ Tryd.func45 rfl (by decide) (by kernel_rfl) (by kernel_rfl) (fun x y z h=>⟨Tz76,6,big,(lz76 big x y).trans h⟩)
def Tz77:LT:={ live:=[(3,[0,2,13,14,15])],keep:=[] }
def Tz78:LT:={ live:=[(3,[0,2,13,14,15])],keep:=[] }
def Tz79:LT:={ live:=[],keep:=[] }
noncomputable def Ez79:Env2:={ tab:=tab,fs:=[(71,Gz69)],inl:=[] }
def nwire_Signed (x:Int):Option (Y2):=
 (bif (decide (x < (0:Int))) then (let x1:Int:=(bits .xor .i64 (if IntKind.signed .i64 then -1 else IntKind.max .i64) x);(let x2:Int:=(IntKind.u64.wrap ((IntKind.u64.wrap x1) * 2 ^ 1));(let x3:Int:=(bits .or .u64 x2 (1:Int));((cwire_Vary x3).bind fun x4=>(some x4))))) else (let x5:Int:=(IntKind.u64.wrap ((IntKind.u64.wrap x) * 2 ^ 1));((cwire_Vary x5).bind fun x6=>(some x6))))
def mwire_Signed (N:Nat) (x:Int):Option (Y2):=nwire_Signed x
theorem jz79 (N:Nat) (x:Int):rise (Ez79) Tz79 6 N Tryd.f62 [Z2] [Z8] [true] x=nwire_Signed x:=by kernel_rfl
theorem lz79 (N:Nat) (x:Int):rise (Ez79) Tz79 6 N Tryd.f62 [Z2] [Z8] [true] x=mwire_Signed N x:=(jz79 N x).trans rfl
def cwire_Signed (x:Int):Option (Y2):=mwire_Signed big x
def Gz79:Fn2:=⟨[Z2],[Z8],[true],fun x=>cwire_Signed x⟩
theorem Lz79:Rises Tryd.prog 62 Gz79:=rises_of (E:=Ez79) ⟨tabOk,(fsCons2 Lz69 fsNil2),fun _ _ _=>rfl,mixed,inlNil,rcsNil,owsNil⟩ Tryd.func62 rfl (by decide) (by kernel_rfl) (by kernel_rfl) (by kernel_rfl) (by kernel_rfl) (fun x r _ h=>⟨Tz79,6,big,(lz79 big x).trans h⟩)
def Tz80:LT:={ live:=[(3,[0,2,13,14,15])],keep:=[] }
def Tz81:LT:={ live:=[],keep:=[] }
noncomputable def Ez81:Env2:={ tab:=tab,fs:=[],inl:=[] }
def nops_isSigned (x:Int):Option (Bool):=
 (bif (x==(5:Int)) then (some true) else (bif (x==(3:Int)) then (some true) else (some (x==(4:Int)))))
def mops_isSigned (N:Nat) (x:Int):Option (Bool):=nops_isSigned x
theorem jz81 (N:Nat) (x:Int):rise (Ez81) Tz81 6 N Tryd.f87 [Z4] [.bool] [false] x=nops_isSigned x:=by kernel_rfl
theorem lz81 (N:Nat) (x:Int):rise (Ez81) Tz81 6 N Tryd.f87 [Z4] [.bool] [false] x=mops_isSigned N x:=(jz81 N x).trans rfl
def cops_isSigned (x:Int):Option (Bool):=mops_isSigned big x
def Gz81:Fn2:=⟨[Z4],[.bool],[false],fun x=>cops_isSigned x⟩
theorem Lz81:Rises Tryd.prog 87 Gz81:=rises_of (E:=Ez81) ⟨tabOk,fsNil2,fun _ _ _=>rfl,mixed,inlNil,rcsNil,owsNil⟩ Tryd.func87 rfl (by decide) (by kernel_rfl) (by kernel_rfl) (by kernel_rfl) (by kernel_rfl) (fun x r _ h=>⟨Tz81,6,big,(lz81 big x).trans h⟩)
def Tz82:LT:={ live:=[],keep:=[] }
def Tz83:LT:={ live:=[(3,[1,4,13,14])],keep:=[(25,[1,4,13,14])] }
def Tz84:LT:={ live:=[],keep:=[(16,[5])] }
noncomputable def Ez84:Env2:={ tab:=tab,fs:=[(62,Gz79),(71,Gz69),(80,Gz58),(87,Gz81),(93,Gz55)],inl:=[(85,Tryd.f85,Tz83),(86,Tryd.f86,Tz82)] }
noncomputable def ez84_0 (v:Y2×Int×Y2×Y2):St:={ s:=[(1,(.clo 86 (.pair (.loc 0 []) .unit))),(4,(.loc 2 [])),(13,(.val ⟨(.arr 3 Z4),v.1⟩)),(14,(.val ⟨Z2,v.2.1⟩))],l:=[(0,.var Z8 (.row 1)),(1,.row Z4 v.2.2.1),(2,.var (.arr 3 Z2) (.val ⟨(.arr 3 Z2),v.2.2.2⟩))],k:=[(4096,[(5,(.loc 0 []))])],b:=16846848 }
def hops_Encode_0 (self0:Y2×Int×Y2×Y2→Option (Y2×Int)) (v:Y2×Int×Y2×Y2):Option (Y2×Int):=
 (bif (decide (v.2.1 < (3:Int))) then ((getI v.1 v.2.1).bind fun x4=>(bif (x4 != (0:Int)) then (bif (decide (0≤v.2.1)&&decide (v.2.1 < (3:Int))) then ((nth v.2.2.2 (Int.toNat v.2.1)).bind fun x5=>((cops_isSigned x4).bind fun x6=>(bif x6 then ((cwire_Signed x5).bind fun x7=>(bif (Nat.ble 1 1&&Nat.ble (List.length v.2.2.1+List.length x7) lim) then (let x8:Int:=(IntKind.i64.wrap (v.2.1+(1:Int)));(self0 (v.1,x8,(List.append v.2.2.1 x7),v.2.2.2))) else none)) else ((cwire_Vary (IntKind.u64.wrap x5)).bind fun x9=>(bif (Nat.ble 1 1&&Nat.ble (List.length v.2.2.1+List.length x9) lim) then (let x10:Int:=(IntKind.i64.wrap (v.2.1+(1:Int)));(self0 (v.1,x10,(List.append v.2.2.1 x9),v.2.2.2))) else none))))) else none) else (let x11:Int:=(IntKind.i64.wrap (v.2.1+(1:Int)));(self0 (v.1,x11,v.2.2.1,v.2.2.2))))) else (some (v.2.2.1,(0:Int))))
def gops_Encode_0 (N:Nat) (self0:Y2×Int×Y2×Y2→Option (Y2×Int)) (v:Y2×Int×Y2×Y2):Option (Y2×Int):=hops_Encode_0 self0 v
theorem kz84_0 (N:Nat) (s0:St→Option (Y2×Int)) (v):(floc (Ez84) Tz84 6 N Tryd.f73 [Z8,Z2] [true,false] [.call 5 2 85] 0 nowhereR) s0 (ez84_0 v)=hops_Encode_0 (fun v=>s0 (ez84_0 v)) v:=by kernel_rfl
theorem bz84_0 (N:Nat) (s0:St→Option (Y2×Int)) (v):(floc (Ez84) Tz84 6 N Tryd.f73 [Z8,Z2] [true,false] [.call 5 2 85] 0 nowhereR) s0 (ez84_0 v)=gops_Encode_0 N (fun v=>s0 (ez84_0 v)) v:=kz84_0 N s0 v
def nops_Encode (loop0:Y2×Int×Y2×Y2→Option (Y2×Int)) (x:Y7):Option (Y2×Int):=
 ((cops_Check x).bind fun x1=>(bif (x1 != (0:Int)) then (some (([]:List Int),x1)) else ((cops_operands x).bind fun x2=>((getI gl0 x.1).bind fun x3=>(loop0 (x3.2.1,(0:Int),([x.1]:Y2),x2))))))
def mops_Encode (N:Nat) (x:Y7):Option (Y2×Int):=nops_Encode (iterV (gops_Encode_0 N) N) x
theorem jz84 (N:Nat) (x:Y7):rise (Ez84) Tz84 6 N Tryd.f73 [Z11] [Z8,Z2] [true,false] x=nops_Encode (fun v=>iterR (floc (Ez84) Tz84 6 N Tryd.f73 [Z8,Z2] [true,false] [.call 5 2 85] 0 nowhereR) N (ez84_0 v)) x:=by kernel_rfl
theorem lz84 (N:Nat) (x:Y7):rise (Ez84) Tz84 6 N Tryd.f73 [Z11] [Z8,Z2] [true,false] x=mops_Encode N x:=(jz84 N x).trans (by rw [funext (iterR_eq ez84_0 (bz84_0 N) N)];rfl)
def cops_Encode (x:Y7):Option (Y2×Int):=mops_Encode big x
def Gz84:Fn2:=⟨[Z11],[Z8,Z2],[true,false],fun x=>cops_Encode x⟩
theorem Lz84:Rises Tryd.prog 73 Gz84:=rises_of (E:=Ez84) ⟨tabOk,(fsCons2 Lz79 (fsCons2 Lz69 (fsCons2 Lz58 (fsCons2 Lz81 (fsCons2 Lz55 fsNil2))))),fun _ _ _=>rfl,mixed,(inlCons (inlB_of Tryd.func85 rfl rfl (by kernel_rfl)) (inlCons (inlB_of Tryd.func86 rfl rfl (by kernel_rfl)) inlNil)),rcsNil,owsNil⟩ Tryd.func73 rfl (by decide) (by kernel_rfl) (by kernel_rfl) (by kernel_rfl) (by kernel_rfl) (fun x r _ h=>⟨Tz84,6,big,(lz84 big x).trans h⟩)
def Tz85:LT:={ live:=[],keep:=[] }
noncomputable def Ez85:Env2:={ tab:=tab,fs:=[(73,Gz84)],inl:=[] }
def nimage_appendInstr (x:Y2) (y:(Y7×Unit)):Option (Y2):=
 ((cops_Encode y.1).bind fun x1=>(bif (Nat.ble 1 1&&Nat.ble (List.length x+List.length x1.1) lim) then (some (List.append x x1.1)) else none))
def mimage_appendInstr (N:Nat) (x:Y2) (y:(Y7×Unit)):Option (Y2):=nimage_appendInstr x y
theorem jz85 (N:Nat) (x:Y2) (y:(Y7×Unit)):riseO (Ez85) Tz85 6 N Tryd.f64 Z4 [.hole Z11] x y=nimage_appendInstr x y:=by kernel_rfl
theorem lz85 (N:Nat) (x:Y2) (y:(Y7×Unit)):riseO (Ez85) Tz85 6 N Tryd.f64 Z4 [.hole Z11] x y=mimage_appendInstr N x y:=(jz85 N x y).trans rfl
def cimage_appendInstr (x:Y2) (y:(Y7×Unit)):Option (Y2):=mimage_appendInstr big x y
@[reducible] def Oz85:OwnC:=⟨Z4,[.hole Z11],fun x y=>cimage_appendInstr x y⟩
theorem Lz85:OwnOk Tryd.prog 64 Oz85:=own_of (c:=Oz85) (E:=Ez85) ⟨tabOk,(fsCons2 Lz84 fsNil2),fun _ _ _=>rfl,mixed,inlNil,rcsNil,owsNil⟩ Tryd.func64 rfl (by decide) (by kernel_rfl) (by kernel_rfl) (fun x y z h=>⟨Tz85,6,big,(lz85 big x y).trans h⟩)
def Tz86:LT:={ live:=[(7,[7,8,21,22,23])],keep:=[] }
noncomputable def Ez86:Env2:={ tab:=tab,fs:=[(69,Gz62),(71,Gz69)],inl:=[] }
noncomputable def ez86_0 (v:Int×Y9×Int×Int×Y2):St:={ s:=[(7,(.row 0)),(8,(.val ⟨Z2,v.1⟩)),(21,(.val ⟨(.slice Z7),v.2.1⟩)),(22,(.val ⟨Z2,v.2.2.1⟩)),(23,(.val ⟨Z2,v.2.2.2.1⟩))],l:=[(0,.row Z4 v.2.2.2.2)],k:=[],b:=4096 }
def htables_Encode_0 (self0:Int×Y9×Int×Int×Y2→Option (Y2×Int)) (v:Int×Y9×Int×Int×Y2):Option (Y2×Int):=
 (bif (decide (v.2.2.2.1 < v.2.2.1)) then ((getI v.2.1 v.2.2.2.1).bind fun x4=>(let x5:Int:=(IntKind.i64.wrap (x4.1 - v.1));((cwire_Vary (IntKind.u64.wrap x5)).bind fun x6=>(bif (Nat.ble 1 1&&Nat.ble (List.length v.2.2.2.2+List.length x6) lim) then (let x7:Y2:=(List.append v.2.2.2.2 x6);((cwire_Vary x4.2.1).bind fun x8=>(bif (Nat.ble 1 1&&Nat.ble (List.length x7+List.length x8) lim) then (let x9:Int:=(IntKind.i64.wrap (v.2.2.2.1+(1:Int)));(self0 (x4.1,v.2.1,v.2.2.1,x9,(List.append x7 x8)))) else none))) else none)))) else (some (v.2.2.2.2,(0:Int))))
def gtables_Encode_0 (N:Nat) (self0:Int×Y9×Int×Int×Y2→Option (Y2×Int)) (v:Int×Y9×Int×Int×Y2):Option (Y2×Int):=htables_Encode_0 self0 v
theorem kz86_0 (N:Nat) (s0:St→Option (Y2×Int)) (v):(floc (Ez86) Tz86 6 N Tryd.f74 [Z8,Z2] [true,false] [] 0 nowhereR) s0 (ez86_0 v)=htables_Encode_0 (fun v=>s0 (ez86_0 v)) v:=by kernel_rfl
theorem bz86_0 (N:Nat) (s0:St→Option (Y2×Int)) (v):(floc (Ez86) Tz86 6 N Tryd.f74 [Z8,Z2] [true,false] [] 0 nowhereR) s0 (ez86_0 v)=gtables_Encode_0 N (fun v=>s0 (ez86_0 v)) v:=kz86_0 N s0 v
def ntables_Encode (loop0:Int×Y9×Int×Int×Y2→Option (Y2×Int)) (x:Y9×Int):Option (Y2×Int):=
 ((ctables_Check (x.1,x.2)).bind fun x1=>(bif (x1 != (0:Int)) then (some (([]:List Int),x1)) else (let x2:Int:=(IntKind.u64.wrap (List.length x.1:Int));((cwire_Vary x2).bind fun x3=>(loop0 ((0:Int),x.1,(List.length x.1:Int),(0:Int),x3))))))
def mtables_Encode (N:Nat) (x:Y9×Int):Option (Y2×Int):=ntables_Encode (iterV (gtables_Encode_0 N) N) x
theorem jz86 (N:Nat) (x:Y9×Int):rise (Ez86) Tz86 6 N Tryd.f74 [(.slice Z7),Z2] [Z8,Z2] [true,false] x=ntables_Encode (fun v=>iterR (floc (Ez86) Tz86 6 N Tryd.f74 [Z8,Z2] [true,false] [] 0 nowhereR) N (ez86_0 v)) x:=by kernel_rfl
theorem lz86 (N:Nat) (x:Y9×Int):rise (Ez86) Tz86 6 N Tryd.f74 [(.slice Z7),Z2] [Z8,Z2] [true,false] x=mtables_Encode N x:=(jz86 N x).trans (by rw [funext (iterR_eq ez86_0 (bz86_0 N) N)];rfl)
def ctables_Encode (x:Y9×Int):Option (Y2×Int):=mtables_Encode big x
def Gz86:Fn2:=⟨[(.slice Z7),Z2],[Z8,Z2],[true,false],fun x=>ctables_Encode x⟩
theorem Lz86:Rises Tryd.prog 74 Gz86:=rises_of (E:=Ez86) ⟨tabOk,(fsCons2 Lz62 (fsCons2 Lz69 fsNil2)),fun _ _ _=>rfl,mixed,inlNil,rcsNil,owsNil⟩ Tryd.func74 rfl (by decide) (by kernel_rfl) (by kernel_rfl) (by kernel_rfl) (by kernel_rfl) (fun x r _ h=>⟨Tz86,6,big,(lz86 big x).trans h⟩)
def Tz87:LT:={ live:=[],keep:=[] }
noncomputable def Ez87:Env2:={ tab:=tab,fs:=[(74,Gz86)],inl:=[] }
def nimage_appendRuns (x:Y2) (y:(Y9×(Int×Unit))):Option (Y2):=
 ((ctables_Encode (y.1,y.2.1)).bind fun x1=>(bif (Nat.ble 1 1&&Nat.ble (List.length x+List.length x1.1) lim) then (some (List.append x x1.1)) else none))
def mimage_appendRuns (N:Nat) (x:Y2) (y:(Y9×(Int×Unit))):Option (Y2):=nimage_appendRuns x y
theorem jz87 (N:Nat) (x:Y2) (y:(Y9×(Int×Unit))):riseO (Ez87) Tz87 6 N Tryd.f65 Z4 [.hole (.slice Z7),.hole Z2] x y=nimage_appendRuns x y:=by kernel_rfl
theorem lz87 (N:Nat) (x:Y2) (y:(Y9×(Int×Unit))):riseO (Ez87) Tz87 6 N Tryd.f65 Z4 [.hole (.slice Z7),.hole Z2] x y=mimage_appendRuns N x y:=(jz87 N x y).trans rfl
def cimage_appendRuns (x:Y2) (y:(Y9×(Int×Unit))):Option (Y2):=mimage_appendRuns big x y
@[reducible] def Oz87:OwnC:=⟨Z4,[.hole (.slice Z7),.hole Z2],fun x y=>cimage_appendRuns x y⟩
theorem Lz87:OwnOk Tryd.prog 65 Oz87:=own_of (c:=Oz87) (E:=Ez87) ⟨tabOk,(fsCons2 Lz86 fsNil2),fun _ _ _=>rfl,mixed,inlNil,rcsNil,owsNil⟩ Tryd.func65 rfl (by decide) (by kernel_rfl) (by kernel_rfl) (fun x y z h=>⟨Tz87,6,big,(lz87 big x y).trans h⟩)
def Tz88:LT:={ live:=[],keep:=[(21,[3]),(25,[3])] }
noncomputable def Ez88:Env2:={ tab:=tab,fs:=[(62,Gz79)],inl:=[(59,Tryd.f59,Tz72),(63,Tryd.f63,Tz80)],ow:=[(47,Oz74),(58,Oz70),(60,Oz75),(64,Oz85),(65,Oz87)] }
noncomputable def ez88_1 (v:(List Y7)×Int×Int×Y2×Y0):St:={ s:=[(0,(.row 0)),(2,(.clo 64 .unit)),(13,(.val ⟨(.slice Z11),v.1⟩)),(14,(.val ⟨Z2,v.2.1⟩)),(15,(.val ⟨Z2,v.2.2.1⟩))],l:=[(0,.row Z4 v.2.2.2.1),(1,.var Z0 (.val ⟨Z0,v.2.2.2.2⟩))],k:=[(4096,[(3,(.loc 1 []))])],b:=16883712 }
noncomputable def ez88_0 (v:Y5×Int×Int×Y2×Y0):St:={ s:=[(0,(.row 0)),(2,(.clo 60 .unit)),(13,(.val ⟨Z6,v.1⟩)),(14,(.val ⟨Z2,v.2.1⟩)),(15,(.val ⟨Z2,v.2.2.1⟩))],l:=[(0,.row Z4 v.2.2.2.1),(1,.var Z0 (.val ⟨Z0,v.2.2.2.2⟩))],k:=[(4096,[(3,(.loc 1 []))])],b:=16867328 }
def himage_appendFunc_1 (self0:Y5×Int×Int×Y2×Y0→Option (Y2)) (self1:(List Y7)×Int×Int×Y2×Y0→Option (Y2)) (v:(List Y7)×Int×Int×Y2×Y0):Option (Y2):=
 (bif (decide (v.2.2.1 < v.2.1)) then ((getI v.1 v.2.2.1).bind fun x9=>((cimage_appendInstr v.2.2.2.1 (x9,())).bind fun x10=>(let x11:Int:=(IntKind.i64.wrap (v.2.2.1+(1:Int)));(self1 (v.1,v.2.1,x11,x10,v.2.2.2.2))))) else ((cimage_appendRuns v.2.2.2.1 (v.2.2.2.2.2.2.2.2.2.1,((List.length v.2.2.2.2.2.2.2.2.1:Int),()))).bind fun x12=>((cimage_appendRuns x12 (v.2.2.2.2.2.2.2.2.2.2.1,((List.length v.2.2.2.2.2.2.2.2.1:Int),()))).bind fun x13=>(some x13))))
def gimage_appendFunc_1 (N:Nat) (self0:Y5×Int×Int×Y2×Y0→Option (Y2)) (self1:(List Y7)×Int×Int×Y2×Y0→Option (Y2)) (v:(List Y7)×Int×Int×Y2×Y0):Option (Y2):=himage_appendFunc_1 self0 self1 v
theorem kz88_1 (N:Nat) (s0:St→Option (Y2)) (s1:St→Option (Y2)) (v):(flocO (Ez88) Tz88 6 N Tryd.f49 Z4 [.call 5 3 63] 0 nowhereR) s1 (ez88_1 v)=himage_appendFunc_1 (fun v=>s0 (ez88_0 v)) (fun v=>s1 (ez88_1 v)) v:=by kernel_rfl
theorem bz88_1 (N:Nat) (s0:St→Option (Y2)) (s1:St→Option (Y2)) (v):(flocO (Ez88) Tz88 6 N Tryd.f49 Z4 [.call 5 3 63] 0 nowhereR) s1 (ez88_1 v)=gimage_appendFunc_1 N (fun v=>s0 (ez88_0 v)) (fun v=>s1 (ez88_1 v)) v:=kz88_1 N s0 s1 v
def himage_appendFunc_0 (loop1:(List Y7)×Int×Int×Y2×Y0→Option (Y2)) (self0:Y5×Int×Int×Y2×Y0→Option (Y2)) (v:Y5×Int×Int×Y2×Y0):Option (Y2):=
 (bif (decide (v.2.2.1 < v.2.1)) then ((getI v.1 v.2.2.1).bind fun x5=>((cimage_appendField v.2.2.2.1 (x5,())).bind fun x6=>(let x7:Int:=(IntKind.i64.wrap (v.2.2.1+(1:Int)));(self0 (v.1,v.2.1,x7,x6,v.2.2.2.2))))) else ((cimage_appendNumber v.2.2.2.1 ((List.length v.2.2.2.2.2.2.2.2.1:Int),())).bind fun x8=>(loop1 (v.2.2.2.2.2.2.2.2.1,(List.length v.2.2.2.2.2.2.2.2.1:Int),(0:Int),x8,v.2.2.2.2))))
def gimage_appendFunc_0 (N:Nat) (self0:Y5×Int×Int×Y2×Y0→Option (Y2)) (v:Y5×Int×Int×Y2×Y0):Option (Y2):=himage_appendFunc_0 (iterV (gimage_appendFunc_1 N self0) N) self0 v
theorem kz88_0 (N:Nat) (s0:St→Option (Y2)) (v):(flocO (Ez88) Tz88 6 N Tryd.f49 Z4 [.call 4 3 59] 0 nowhereR) s0 (ez88_0 v)=himage_appendFunc_0 (fun v=>iterR (flocO (Ez88) Tz88 6 N Tryd.f49 Z4 [.call 5 3 63] 0 nowhereR) N (ez88_1 v)) (fun v=>s0 (ez88_0 v)) v:=by kernel_rfl
theorem bz88_0 (N:Nat) (s0:St→Option (Y2)) (v):(flocO (Ez88) Tz88 6 N Tryd.f49 Z4 [.call 4 3 59] 0 nowhereR) s0 (ez88_0 v)=gimage_appendFunc_0 N (fun v=>s0 (ez88_0 v)) v:=(kz88_0 N s0 v).trans (by rw [funext (iterR_eq ez88_1 (bz88_1 N s0) N)];rfl)
def nimage_appendFunc (loop0:Y5×Int×Int×Y2×Y0→Option (Y2)) (x:Y2) (y:(Y0×Unit)):Option (Y2):=
 ((cimage_appendText x (y.1.1,())).bind fun x1=>((cimage_appendNumber x1 (y.1.2.1,())).bind fun x2=>((cwire_Signed y.1.2.2.1).bind fun x3=>(bif (Nat.ble 1 1&&Nat.ble (List.length x2+List.length x3) lim) then ((cimage_appendNumber (List.append x2 x3) ((List.length y.1.2.2.2.1:Int),())).bind fun x4=>(loop0 (y.1.2.2.2.1,(List.length y.1.2.2.2.1:Int),(0:Int),x4,y.1))) else none))))
def mimage_appendFunc (N:Nat) (x:Y2) (y:(Y0×Unit)):Option (Y2):=nimage_appendFunc (iterV (gimage_appendFunc_0 N) N) x y
theorem jz88 (N:Nat) (x:Y2) (y:(Y0×Unit)):riseO (Ez88) Tz88 6 N Tryd.f49 Z4 [.hole Z0] x y=nimage_appendFunc (fun v=>iterR (flocO (Ez88) Tz88 6 N Tryd.f49 Z4 [.call 4 3 59] 0 nowhereR) N (ez88_0 v)) x y:=by kernel_rfl
theorem lz88 (N:Nat) (x:Y2) (y:(Y0×Unit)):riseO (Ez88) Tz88 6 N Tryd.f49 Z4 [.hole Z0] x y=mimage_appendFunc N x y:=(jz88 N x y).trans (by rw [funext (iterR_eq ez88_0 (bz88_0 N) N)];rfl)
def cimage_appendFunc (x:Y2) (y:(Y0×Unit)):Option (Y2):=mimage_appendFunc big x y
@[reducible] def Oz88:OwnC:=⟨Z4,[.hole Z0],fun x y=>cimage_appendFunc x y⟩
theorem Lz88:OwnOk Tryd.prog 49 Oz88:=own_of (c:=Oz88) (E:=Ez88) ⟨tabOk,(fsCons2 Lz79 fsNil2),fun _ _ _=>rfl,mixed,(inlCons (inlB_of Tryd.func59 rfl rfl (by kernel_rfl)) (inlCons (inlB_of Tryd.func63 rfl rfl (by kernel_rfl)) inlNil)),rcsNil,(owsCons Lz74 (owsCons Lz70 (owsCons Lz75 (owsCons Lz85 (owsCons Lz87 owsNil)))))⟩ Tryd.func49 rfl (by decide) (by kernel_rfl) (by kernel_rfl) (fun x y z h=>⟨Tz88,6,big,(lz88 big x y).trans h⟩)
def Tz89:LT:={ live:=[],keep:=[(8,[3]),(12,[3]),(16,[])] }
noncomputable def Ez89:Env2:={ tab:=tab,fs:=[],inl:=[(44,Tryd.f44,Tz71),(46,Tryd.f46,Tz77),(48,Tryd.f48,Tz78)],ow:=[(45,Oz76),(47,Oz74),(49,Oz88),(58,Oz70)] }
noncomputable def ez89_2 (v:Y10×Int×Int×Y2):St:={ s:=[(0,(.row 0)),(2,(.clo 49 .unit)),(13,(.val ⟨(.slice Z0),v.1⟩)),(14,(.val ⟨Z2,v.2.1⟩)),(15,(.val ⟨Z2,v.2.2.1⟩))],l:=[(0,.row Z4 v.2.2.2)],k:=[(4096,[])],b:=16846848 }
noncomputable def ez89_1 (v:Y8×Int×Int×Y2×Y3):St:={ s:=[(0,(.row 0)),(2,(.clo 47 .unit)),(13,(.val ⟨(.slice .str),v.1⟩)),(14,(.val ⟨Z2,v.2.1⟩)),(15,(.val ⟨Z2,v.2.2.1⟩))],l:=[(0,.row Z4 v.2.2.2.1),(1,.var Z3 (.val ⟨Z3,v.2.2.2.2⟩))],k:=[(4096,[(3,(.loc 1 []))])],b:=16830464 }
noncomputable def ez89_0 (v:Y1×Int×Int×Y2×Y3):St:={ s:=[(0,(.row 0)),(2,(.clo 45 .unit)),(13,(.val ⟨Z10,v.1⟩)),(14,(.val ⟨Z2,v.2.1⟩)),(15,(.val ⟨Z2,v.2.2.1⟩))],l:=[(0,.row Z4 v.2.2.2.1),(1,.var Z3 (.val ⟨Z3,v.2.2.2.2⟩))],k:=[(4096,[(3,(.loc 1 []))])],b:=16814080 }
def himage_appendImage_2 (self0:Y1×Int×Int×Y2×Y3→Option (Y2)) (self1:Y8×Int×Int×Y2×Y3→Option (Y2)) (self2:Y10×Int×Int×Y2→Option (Y2)) (v:Y10×Int×Int×Y2):Option (Y2):=
 (bif (decide (v.2.2.1 < v.2.1)) then ((getI v.1 v.2.2.1).bind fun x10=>((cimage_appendFunc v.2.2.2 (x10,())).bind fun x11=>(let x12:Int:=(IntKind.i64.wrap (v.2.2.1+(1:Int)));(self2 (v.1,v.2.1,x12,x11))))) else (some v.2.2.2))
def gimage_appendImage_2 (N:Nat) (self0:Y1×Int×Int×Y2×Y3→Option (Y2)) (self1:Y8×Int×Int×Y2×Y3→Option (Y2)) (self2:Y10×Int×Int×Y2→Option (Y2)) (v:Y10×Int×Int×Y2):Option (Y2):=himage_appendImage_2 self0 self1 self2 v
theorem kz89_2 (N:Nat) (s0:St→Option (Y2)) (s1:St→Option (Y2)) (s2:St→Option (Y2)) (v):(flocO (Ez89) Tz89 6 N Tryd.f30 Z4 [.call 3 3 48] 0 nowhereR) s2 (ez89_2 v)=himage_appendImage_2 (fun v=>s0 (ez89_0 v)) (fun v=>s1 (ez89_1 v)) (fun v=>s2 (ez89_2 v)) v:=by kernel_rfl
theorem bz89_2 (N:Nat) (s0:St→Option (Y2)) (s1:St→Option (Y2)) (s2:St→Option (Y2)) (v):(flocO (Ez89) Tz89 6 N Tryd.f30 Z4 [.call 3 3 48] 0 nowhereR) s2 (ez89_2 v)=gimage_appendImage_2 N (fun v=>s0 (ez89_0 v)) (fun v=>s1 (ez89_1 v)) (fun v=>s2 (ez89_2 v)) v:=kz89_2 N s0 s1 s2 v
def himage_appendImage_1 (loop2:Y10×Int×Int×Y2→Option (Y2)) (self0:Y1×Int×Int×Y2×Y3→Option (Y2)) (self1:Y8×Int×Int×Y2×Y3→Option (Y2)) (v:Y8×Int×Int×Y2×Y3):Option (Y2):=
 (bif (decide (v.2.2.1 < v.2.1)) then ((getI v.1 v.2.2.1).bind fun x6=>((cimage_appendText v.2.2.2.1 (x6,())).bind fun x7=>(let x8:Int:=(IntKind.i64.wrap (v.2.2.1+(1:Int)));(self1 (v.1,v.2.1,x8,x7,v.2.2.2.2))))) else ((cimage_appendNumber v.2.2.2.1 ((List.length v.2.2.2.2.2.2.1:Int),())).bind fun x9=>(loop2 (v.2.2.2.2.2.2.1,(List.length v.2.2.2.2.2.2.1:Int),(0:Int),x9))))
def gimage_appendImage_1 (N:Nat) (self0:Y1×Int×Int×Y2×Y3→Option (Y2)) (self1:Y8×Int×Int×Y2×Y3→Option (Y2)) (v:Y8×Int×Int×Y2×Y3):Option (Y2):=himage_appendImage_1 (iterV (gimage_appendImage_2 N self0 self1) N) self0 self1 v
theorem kz89_1 (N:Nat) (s0:St→Option (Y2)) (s1:St→Option (Y2)) (v):(flocO (Ez89) Tz89 6 N Tryd.f30 Z4 [.call 2 3 46] 0 nowhereR) s1 (ez89_1 v)=himage_appendImage_1 (fun v=>iterR (flocO (Ez89) Tz89 6 N Tryd.f30 Z4 [.call 3 3 48] 0 nowhereR) N (ez89_2 v)) (fun v=>s0 (ez89_0 v)) (fun v=>s1 (ez89_1 v)) v:=by kernel_rfl
theorem bz89_1 (N:Nat) (s0:St→Option (Y2)) (s1:St→Option (Y2)) (v):(flocO (Ez89) Tz89 6 N Tryd.f30 Z4 [.call 2 3 46] 0 nowhereR) s1 (ez89_1 v)=gimage_appendImage_1 N (fun v=>s0 (ez89_0 v)) (fun v=>s1 (ez89_1 v)) v:=(kz89_1 N s0 s1 v).trans (by rw [funext (iterR_eq ez89_2 (bz89_2 N s0 s1) N)];rfl)
def himage_appendImage_0 (loop1:Y8×Int×Int×Y2×Y3→Option (Y2)) (self0:Y1×Int×Int×Y2×Y3→Option (Y2)) (v:Y1×Int×Int×Y2×Y3):Option (Y2):=
 (bif (decide (v.2.2.1 < v.2.1)) then ((getI v.1 v.2.2.1).bind fun x2=>((cimage_appendType v.2.2.2.1 (x2,())).bind fun x3=>(let x4:Int:=(IntKind.i64.wrap (v.2.2.1+(1:Int)));(self0 (v.1,v.2.1,x4,x3,v.2.2.2.2))))) else ((cimage_appendNumber v.2.2.2.1 ((List.length v.2.2.2.2.2.1:Int),())).bind fun x5=>(loop1 (v.2.2.2.2.2.1,(List.length v.2.2.2.2.2.1:Int),(0:Int),x5,v.2.2.2.2))))
def gimage_appendImage_0 (N:Nat) (self0:Y1×Int×Int×Y2×Y3→Option (Y2)) (v:Y1×Int×Int×Y2×Y3):Option (Y2):=himage_appendImage_0 (iterV (gimage_appendImage_1 N self0) N) self0 v
theorem kz89_0 (N:Nat) (s0:St→Option (Y2)) (v):(flocO (Ez89) Tz89 6 N Tryd.f30 Z4 [.call 1 3 44] 0 nowhereR) s0 (ez89_0 v)=himage_appendImage_0 (fun v=>iterR (flocO (Ez89) Tz89 6 N Tryd.f30 Z4 [.call 2 3 46] 0 nowhereR) N (ez89_1 v)) (fun v=>s0 (ez89_0 v)) v:=by kernel_rfl
theorem bz89_0 (N:Nat) (s0:St→Option (Y2)) (v):(flocO (Ez89) Tz89 6 N Tryd.f30 Z4 [.call 1 3 44] 0 nowhereR) s0 (ez89_0 v)=gimage_appendImage_0 N (fun v=>s0 (ez89_0 v)) v:=(kz89_0 N s0 v).trans (by rw [funext (iterR_eq ez89_1 (bz89_1 N s0) N)];rfl)
def nimage_appendImage (loop0:Y1×Int×Int×Y2×Y3→Option (Y2)) (x:Y2) (y:(Y3×Unit)):Option (Y2):=
 ((cimage_appendNumber x ((List.length y.1.1:Int),())).bind fun x1=>(loop0 (y.1.1,(List.length y.1.1:Int),(0:Int),x1,y.1)))
def mimage_appendImage (N:Nat) (x:Y2) (y:(Y3×Unit)):Option (Y2):=nimage_appendImage (iterV (gimage_appendImage_0 N) N) x y
theorem jz89 (N:Nat) (x:Y2) (y:(Y3×Unit)):riseO (Ez89) Tz89 6 N Tryd.f30 Z4 [.hole Z3] x y=nimage_appendImage (fun v=>iterR (flocO (Ez89) Tz89 6 N Tryd.f30 Z4 [.call 1 3 44] 0 nowhereR) N (ez89_0 v)) x y:=by kernel_rfl
theorem lz89 (N:Nat) (x:Y2) (y:(Y3×Unit)):riseO (Ez89) Tz89 6 N Tryd.f30 Z4 [.hole Z3] x y=mimage_appendImage N x y:=(jz89 N x y).trans (by rw [funext (iterR_eq ez89_0 (bz89_0 N) N)];rfl)
def cimage_appendImage (x:Y2) (y:(Y3×Unit)):Option (Y2):=mimage_appendImage big x y
@[reducible] def Oz89:OwnC:=⟨Z4,[.hole Z3],fun x y=>cimage_appendImage x y⟩
theorem Lz89:OwnOk Tryd.prog 30 Oz89:=own_of (c:=Oz89) (E:=Ez89) ⟨tabOk,fsNil2,fun _ _ _=>rfl,mixed,(inlCons (inlB_of Tryd.func44 rfl rfl (by kernel_rfl)) (inlCons (inlB_of Tryd.func46 rfl rfl (by kernel_rfl)) (inlCons (inlB_of Tryd.func48 rfl rfl (by kernel_rfl)) inlNil))),rcsNil,(owsCons Lz76 (owsCons Lz74 (owsCons Lz88 (owsCons Lz70 owsNil))))⟩ Tryd.func30 rfl (by decide) (by kernel_rfl) (by kernel_rfl) (fun x y z h=>⟨Tz89,6,big,(lz89 big x y).trans h⟩)
def Tz90:LT:={ live:=[],keep:=[] }
noncomputable def Ez90:Env2:={ tab:=tab,fs:=[(29,Gz67)],inl:=[],ow:=[(30,Oz89)] }
def nimage_Encode (x:Y3):Option (Y2×Int):=
 ((cimage_isValid x).bind fun x1=>(bif (!x1) then (some (([]:List Int),(8:Int))) else ((cimage_appendImage ([]:List Int) (x,())).bind fun x2=>(bif (decide ((List.length x2:Int) > (20000:Int))) then (some (([]:List Int),(4:Int))) else (some (x2,(0:Int)))))))
def mimage_Encode (N:Nat) (x:Y3):Option (Y2×Int):=nimage_Encode x
theorem jz90 (N:Nat) (x:Y3):rise (Ez90) Tz90 6 N Tryd.f15 [Z3] [Z8,Z2] [true,false] x=nimage_Encode x:=by kernel_rfl
theorem lz90 (N:Nat) (x:Y3):rise (Ez90) Tz90 6 N Tryd.f15 [Z3] [Z8,Z2] [true,false] x=mimage_Encode N x:=(jz90 N x).trans rfl
def cimage_Encode (x:Y3):Option (Y2×Int):=mimage_Encode big x
def Gz90:Fn2:=⟨[Z3],[Z8,Z2],[true,false],fun x=>cimage_Encode x⟩
theorem Lz90:Rises Tryd.prog 15 Gz90:=rises_of (E:=Ez90) ⟨tabOk,(fsCons2 Lz67 fsNil2),fun _ _ _=>rfl,mixed,inlNil,rcsNil,(owsCons Lz89 owsNil)⟩ Tryd.func15 rfl (by decide) (by kernel_rfl) (by kernel_rfl) (by kernel_rfl) (by kernel_rfl) (fun x r _ h=>⟨Tz90,6,big,(lz90 big x).trans h⟩)
def Tz91:LT:={ live:=[],keep:=[] }
noncomputable def Ez91:Env2:={ tab:=tab,fs:=[(15,Gz90)],inl:=[] }
def nimage_Check (x:Y3):Option (Int):=
 ((cimage_Encode x).bind fun x1=>(some x1.2))
def mimage_Check (N:Nat) (x:Y3):Option (Int):=nimage_Check x
theorem jz91 (N:Nat) (x:Y3):rise (Ez91) Tz91 6 N Tryd.f12 [Z3] [Z2] [false] x=nimage_Check x:=by kernel_rfl
theorem lz91 (N:Nat) (x:Y3):rise (Ez91) Tz91 6 N Tryd.f12 [Z3] [Z2] [false] x=mimage_Check N x:=(jz91 N x).trans rfl
def cimage_Check (x:Y3):Option (Int):=mimage_Check big x
def Gz91:Fn2:=⟨[Z3],[Z2],[false],fun x=>cimage_Check x⟩
theorem Lz91:Rises Tryd.prog 12 Gz91:=rises_of (E:=Ez91) ⟨tabOk,(fsCons2 Lz90 fsNil2),fun _ _ _=>rfl,mixed,inlNil,rcsNil,owsNil⟩ Tryd.func12 rfl (by decide) (by kernel_rfl) (by kernel_rfl) (by kernel_rfl) (by kernel_rfl) (fun x r _ h=>⟨Tz91,6,big,(lz91 big x).trans h⟩)
def Tz92:LT:={ live:=[],keep:=[] }
noncomputable def Ez92:Env2:={ tab:=tab,fs:=[(12,Gz91),(17,Gz50)],inl:=[] }
def nimage_Address (x:Y3×Int×Int):Option (Int×Int):=
 ((cimage_Check x.1).bind fun x1=>(bif (x1 != (0:Int)) then (some ((0:Int),x1)) else ((cimage_isIndex (x.2.1,(List.length x.1.2.2.1:Int))).bind fun x2=>(bif (!x2) then (some ((0:Int),(2:Int))) else ((getI x.1.2.2.1 x.2.1).bind fun x3=>((cimage_isIndex (x.2.2,(List.length x3.2.2.2.2.1:Int))).bind fun x4=>(bif (!x4) then (some ((0:Int),(2:Int))) else (let x5:Int:=(IntKind.u64.wrap ((IntKind.u64.wrap x.2.1)+(1:Int)));(let x6:Int:=(IntKind.u64.wrap ((256:Int) * x5));(let x7:Int:=(IntKind.u64.wrap (x6+(IntKind.u64.wrap x.2.2)));(some (x7,(0:Int)))))))))))))
def mimage_Address (N:Nat) (x:Y3×Int×Int):Option (Int×Int):=nimage_Address x
theorem jz92 (N:Nat) (x:Y3×Int×Int):rise (Ez92) Tz92 6 N Tryd.f8 [Z3,Z2,Z2] [(.int .u64),Z2] [false,false] x=nimage_Address x:=by kernel_rfl
theorem lz92 (N:Nat) (x:Y3×Int×Int):rise (Ez92) Tz92 6 N Tryd.f8 [Z3,Z2,Z2] [(.int .u64),Z2] [false,false] x=mimage_Address N x:=(jz92 N x).trans rfl
def cimage_Address (x:Y3×Int×Int):Option (Int×Int):=mimage_Address big x
def Gz92:Fn2:=⟨[Z3,Z2,Z2],[(.int .u64),Z2],[false,false],fun x=>cimage_Address x⟩
theorem Lz92:Rises Tryd.prog 8 Gz92:=rises_of (E:=Ez92) ⟨tabOk,(fsCons2 Lz91 (fsCons2 Lz50 fsNil2)),fun _ _ _=>rfl,mixed,inlNil,rcsNil,owsNil⟩ Tryd.func8 rfl (by decide) (by kernel_rfl) (by kernel_rfl) (by kernel_rfl) (by kernel_rfl) (fun x r _ h=>⟨Tz92,6,big,(lz92 big x).trans h⟩)
def Tz95:LT:={ live:=[(3,[1,2,3,4])],keep:=[] }
def Tz96:LT:={ live:=[],keep:=[] }
noncomputable def Ez96:Env2:={ tab:=tab,fs:=[(12,Gz91),(17,Gz50)],inl:=[] }
def nimage_Find (x:Y3×Int):Option (Int×Int×Int):=
 ((cimage_Check x.1).bind fun x1=>(bif (x1 != (0:Int)) then (some ((0:Int),(0:Int),x1)) else (let x2:Int:=(IntKind.u64.wrap (x.2.tdiv (256:Int)));(let x3:Int:=(IntKind.i64.wrap ((IntKind.i64.wrap x2) - (1:Int)));(let x4:Int:=(IntKind.i64.wrap (x.2.tmod (256:Int)));((cimage_isIndex (x3,(List.length x.1.2.2.1:Int))).bind fun x5=>(bif (!x5) then (some ((0:Int),(0:Int),(6:Int))) else ((getI x.1.2.2.1 x3).bind fun x6=>((cimage_isIndex (x4,(List.length x6.2.2.2.2.1:Int))).bind fun x7=>(bif (!x7) then (some ((0:Int),(0:Int),(6:Int))) else (some (x3,x4,(0:Int)))))))))))))
def mimage_Find (N:Nat) (x:Y3×Int):Option (Int×Int×Int):=nimage_Find x
theorem jz96 (N:Nat) (x:Y3×Int):rise (Ez96) Tz96 6 N Tryd.f9 [Z3,(.int .u64)] [Z2,Z2,Z2] [false,false,false] x=nimage_Find x:=by kernel_rfl
theorem lz96 (N:Nat) (x:Y3×Int):rise (Ez96) Tz96 6 N Tryd.f9 [Z3,(.int .u64)] [Z2,Z2,Z2] [false,false,false] x=mimage_Find N x:=(jz96 N x).trans rfl
def cimage_Find (x:Y3×Int):Option (Int×Int×Int):=mimage_Find big x
def Gz96:Fn2:=⟨[Z3,(.int .u64)],[Z2,Z2,Z2],[false,false,false],fun x=>cimage_Find x⟩
theorem Lz96:Rises Tryd.prog 9 Gz96:=rises_of (E:=Ez96) ⟨tabOk,(fsCons2 Lz91 (fsCons2 Lz50 fsNil2)),fun _ _ _=>rfl,mixed,inlNil,rcsNil,owsNil⟩ Tryd.func9 rfl (by decide) (by kernel_rfl) (by kernel_rfl) (by kernel_rfl) (by kernel_rfl) (fun x r _ h=>⟨Tz96,6,big,(lz96 big x).trans h⟩)
end Go.Proofs.YtlhnlcbcikbokaaDoor

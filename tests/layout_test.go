package tests

import (
	"bytes"
	"go/format"
	"os"
	"path/filepath"
	"testing"
)

func TestLayoutIsThatOfGofmt(t *testing.T) {
	for _, pattern := range []string{"../impl/*.go", "../tests/*.go"} {
		files, err := filepath.Glob(pattern)
		if err != nil || len(files) == 0 {
			t.Fatalf("%s: %d files, %v", pattern, len(files), err)
		}
		for _, file := range files {
			checkLayout(t, file)
		}
	}
}

func checkLayout(t *testing.T, file string) {
	t.Helper()
	have, err := os.ReadFile(file)
	if err != nil {
		t.Fatal(err)
	}
	want, err := format.Source(have)
	if err != nil {
		t.Fatalf("%s: %v", file, err)
	}
	if !bytes.Equal(have, want) {
		t.Errorf("%s is not in gofmt's layout", file)
	}
}
